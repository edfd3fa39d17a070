/-
  A strings.Builder at a place of a block: WriteString, Len, Reset.
-/
import Derived.Test.YtdmdjlnpbmiadaaDoorSbI
namespace Go.Proofs.YtdmdjlnpbmiadaaDoor
open Go.RowKit

set_option maxRecDepth 100000 in
set_option maxHeartbeats 1000000 in
theorem writeString_any (W : World) (B b o : Nat) (T : TypeId) (cs : Array Value) (L : List Int) (h : Sb W B b o T cs L) (t : ByteArray) (hlen : L.length + t.size ≤ 1000000000) :
    Calls Tryd.prog 57 #[.pointer (some ⟨b, o, none⟩), .string t] W fun e w' => (∃ v, e = .returned v) ∧ ∃ cs', SbW W B b o T cs (L ++ numsOf t) w' cs' := by
  obtain ⟨i0, hi, hz0, hz1, hz2⟩ := info_parts Tryd.info_u8
  have HC := hidden (copyCheck_any W B b o T cs L h)
  obtain ⟨N, hN⟩ : ∃ N, L.length = N := ⟨_, rfl⟩
  rw [hN] at hlen
  clear h
  go_enter Tryd.func57, Tryd.ntmps57
  go_wp2_with fail
  refine HC.out.mono ?_
  rintro e w1 ⟨rfl, cs1, hs1⟩
  obtain ⟨a, cp, hc1, hrow, hz⟩ := hs1.sb.cell1
  rw [hN] at hc1 hrow
  have HBK := hidden hs1.sb.has
  have hB := hs1.sb.size
  have HS := hidden hs1
  have HAW : Hid (some b ≠ (Value.slice a N cp).ownBlock) := hrow.away hs1.sb.has hs1.sb.ne
  have HR := hidden hrow
  have HNN := hidden hN
  have HZ := hidden hz
  clear HC hs1 hrow hN hz
  go_wp2_with (at_builtin; refine Lib.wpList_append_own_string _ rfl _ _ 42 9 rfl B 5 i0 Tryd.underlying42 Tryd.underlying9 hi hz0 hz1 hz2 _ _ _ rfl HR.out t rfl ?c3 ?c4 ?c5 ?_)
  case c3 => unfold maxLen; omega
  case c4 => omega
  case c5 => omega
  intro v' w2 hrow' hg hnil
  have hrow2 : RowI w2 B v' (L ++ numsOf t).length (L ++ numsOf t) := by
    show w2.ownsRow _ _ _ _ _ _
    rw [List.length_append, numsOf_length, HNN.out, List.map_append, ← strCells_is]
    exact hrow'
  have hb2 : Has w2 b T cs1 := HBK.out.grown hg HAW.out
  have f1 := hb2.free (o + 1)
  obtain ⟨u, hu, -⟩ := HS.out.sb.buf
  have d1 : w2.cell? ⟨b, o + 1, none⟩ = some u := (hb2.cell (o + 1)).trans hu
  have HF : Hid (SbW W B b o T cs (L ++ numsOf t) (w2.setCell ⟨b, o + 1, none⟩ v') (cs1.setIfInBounds (o + 1) v')) := by
    refine HS.out.trans (HS.out.sb.wrote (by rw [HNN.out]; exact HR.out) hg hrow2 (fun e => ?_) fun x hx => ?_)
    · obtain ⟨e1, e2⟩ := List.append_eq_nil_iff.1 e
      obtain ⟨h1, h2⟩ := HZ.out e1
      have hN0 : N = 0 := by rw [← HNN.out, e1]; rfl
      have ht0 : t.size = 0 := by rw [← numsOf_length, e2]; rfl
      have ht1 : t = ByteArray.empty := ByteArray.ext (Array.ext' (List.eq_nil_of_length_eq_zero (by rw [Array.length_toList]; exact ht0)))
      exact hnil.2 ⟨⟨h1, hN0, h2⟩, ht1⟩
    · rcases List.mem_append.1 hx with h | h
      · exact HS.out.sb.wf x h
      · exact wf_u8.mpr (numsOf_wf t x h)
  obtain ⟨ao, m, cap, rfl⟩ : ∃ ao m cap, v' = .slice ao m cap := by
    rcases hrow'.2 with ⟨hv, _⟩ | ⟨g, cap, cur, hv, _⟩
    · exact ⟨_, _, _, hv⟩
    · exact ⟨_, _, _, hv⟩
  clear hrow' hrow2 hg hnil hb2 hu HS HR HAW HBK hB HZ hz0 hz1 hz2 hi
  go_wp2_with fail
  go_ret2
  exact ⟨⟨_, rfl⟩, _, HF.out⟩
set_option maxRecDepth 100000 in
theorem builderLen_any (W : World) (B b o : Nat) (T : TypeId) (cs : Array Value) (L : List Int) (h : Sb W B b o T cs L) :
    Calls Tryd.prog 55 #[.pointer (some ⟨b, o, none⟩)] W fun e w' => e = .returned (.int .i64 L.length) ∧ W = w' := by
  obtain ⟨a, cp, hc1, -, -⟩ := h.cell1
  obtain ⟨N, hN⟩ : ∃ N, L.length = N := ⟨_, rfl⟩
  rw [hN] at hc1 ⊢
  clear h hN
  go_enter Tryd.func55, Tryd.ntmps55
  go_wp2_with fail
  go_ret
  exact ⟨rfl, rfl⟩
set_option maxRecDepth 100000 in
theorem builderReset_any (W : World) (B b o : Nat) (T : TypeId) (cs : Array Value) (hh : Has W b T cs) (hB : B ≤ b) (ho : o + 1 < cs.size) (hl : liesAt Tryd.prog Tryd.prog.depth T (cs.size / Tryd.prog.cellsOf T) o 57 1 = true) (hT : T ≠ 5) :
    Calls Tryd.prog 61 #[.pointer (some ⟨b, o, none⟩)] W fun e w' => e = .returned (.tuple #[]) ∧ ∃ cs', SbW W B b o T cs [] w' cs' := by
  obtain ⟨q, hq⟩ : ∃ q, cs[o]? = some q := ⟨_, Array.getElem?_eq_getElem (by omega)⟩
  obtain ⟨u, hu⟩ : ∃ u, cs[o + 1]? = some u := ⟨_, Array.getElem?_eq_getElem ho⟩
  have c0 : W.cell? ⟨b, o, none⟩ = some q := (hh.cell o).trans hq
  have f0 := hh.free o
  have h1 := hh.put o (.pointer none)
  have c1 : (W.setCell ⟨b, o, none⟩ (.pointer none)).cell? ⟨b, o + 1, none⟩ = some u := (h1.cell (o + 1)).trans (by rw [Array.getElem?_setIfInBounds_ne (by omega)]; exact hu)
  have f1 := h1.free (o + 1)
  have HF : Hid (SbW W B b o T cs [] ((W.setCell ⟨b, o, none⟩ (.pointer none)).setCell ⟨b, o + 1, none⟩ (.slice none 0 0)) ((cs.setIfInBounds o (.pointer none)).setIfInBounds (o + 1) (.slice none 0 0))) := by
    refine ⟨⟨h1.put (o + 1) _, hB, ⟨_, by rw [Array.getElem?_setIfInBounds_ne (by omega)]; exact Array.getElem?_setIfInBounds_self_of_lt (by omega), .inl rfl⟩, ⟨_, Array.getElem?_setIfInBounds_self_of_lt (by rw [Array.size_setIfInBounds]; exact ho), World.ownsRow_nil _ _ _ _, fun _ => rfl⟩, by rw [Array.size_setIfInBounds, Array.size_setIfInBounds]; exact hl, hT, fun x hx => absurd hx (by simp)⟩, by rw [Array.size_setIfInBounds, Array.size_setIfInBounds], fun i h2 h3 => ?_, ((Below.refl _ _).setCell (p := ⟨b, o, none⟩) hB _).setCell (p := ⟨b, o + 1, none⟩) hB _, fun k T' c _ hk hh => (hh.away hk _).away hk _⟩
    rw [Array.getElem?_setIfInBounds_ne (fun e => h3 e.symm), Array.getElem?_setIfInBounds_ne (fun e => h2 e.symm)]
  clear hh h1 hq hu hl
  go_enter Tryd.func61, Tryd.ntmps61
  go_wp2_with fail
  go_end0
  exact ⟨rfl, _, HF.out⟩
end Go.Proofs.YtdmdjlnpbmiadaaDoor
