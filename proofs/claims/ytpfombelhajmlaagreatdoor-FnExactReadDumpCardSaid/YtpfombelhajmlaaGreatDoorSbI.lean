import Derived.Lib.Builder
import Derived.Lib.AppendStr
import Derived.Lib.UnsafeStr
import Derived.Laws.Externs
import Derived.Test.YtpfombelhajmlaaGreatDoorDumpN
import Derived.Test.YtpfombelhajmlaaGreatDoorHead
namespace Go.Proofs.YtpfombelhajmlaaGreatDoor
open Go.RowKit
structure Sb (W : World) (B b o : Nat) (T : TypeId) (cs : Array Value) (L : List Int) : Prop where
  has : Has W b T cs
  base : B ≤ b
  addr : ∃ q, cs[o]? = some q ∧ (q = .pointer none ∨ q = .pointer (some ⟨b, o, none⟩))
  buf : ∃ u, cs[o + 1]? = some u ∧ RowI W B u L.length L ∧ (L = [] → u = .slice none 0 0)
  lies : liesAt Tryz.prog Tryz.prog.depth T (cs.size / Tryz.prog.cellsOf T) o 47 1 = true
  ne : T ≠ 5
  wf : ∀ x ∈ L, (Lit.int .u8 x).wf = true
structure SbW (W : World) (B b o : Nat) (T : TypeId) (cs : Array Value) (L' : List Int) (W' : World) (cs' : Array Value) : Prop where
  sb : Sb W' B b o T cs' L'
  size : cs'.size = cs.size
  rest : ∀ i, i ≠ o → i ≠ o + 1 → cs'[i]? = cs[i]?
  below : Below B W W'
  kept : ∀ k T' c, T' ≠ 5 → k ≠ b → Has W k T' c → Has W' k T' c
theorem SbW.refl {W : World} {B b o : Nat} {T : TypeId} {cs : Array Value} {L : List Int} (h : Sb W B b o T cs L) : SbW W B b o T cs L W cs := ⟨h, rfl, fun _ _ _ => rfl, Below.refl _ _, fun _ _ _ _ _ h => h⟩
theorem SbW.trans {W W1 W2 : World} {B b o : Nat} {T : TypeId} {cs cs1 cs2 : Array Value} {L1 L2 : List Int} (h : SbW W B b o T cs L1 W1 cs1) (k : SbW W1 B b o T cs1 L2 W2 cs2) : SbW W B b o T cs L2 W2 cs2 :=
  ⟨k.sb, k.size.trans h.size, fun i h1 h2 => (k.rest i h1 h2).trans (h.rest i h1 h2), h.below.trans k.below, fun q T' c h1 h2 h3 => k.kept q T' c h1 h2 (h.kept q T' c h1 h2 h3)⟩
theorem strCells_is (s : ByteArray) : Lib.strCells s = (numsOf s).map (Value.int .u8) := by
  unfold Lib.strCells numsOf
  rw [List.map_map]; rfl
theorem sbInfo : (Tryz.prog.info? 47).map (·.size) = some 2 := by kernel_rfl
theorem sbcell_lt {cs : Array Value} {i : Nat} {v : Value} (h : cs[i]? = some v) : i < cs.size := by
  rcases Nat.lt_or_ge i cs.size with h' | h'
  · exact h'
  · rw [Array.getElem?_eq_none h'] at h; cases h
section
variable {W : World} {B b o : Nat} {T : TypeId} {cs : Array Value} {L : List Int}
theorem Sb.size (h : Sb W B b o T cs L) : B ≤ W.heap.size := Nat.le_trans h.base (Nat.le_of_lt h.has.lt)
theorem Sb.shape (h : Sb W B b o T cs L) : W.shape? b = some (T, cs.size) := by
  have h := h.has
  unfold Has at h
  simp [World.shape?, h]
theorem Sb.cell0 (h : Sb W B b o T cs L) : ∃ q, W.cell? ⟨b, o, none⟩ = some q ∧ (q = .pointer none ∨ q = .pointer (some ⟨b, o, none⟩)) := by
  obtain ⟨q, h1, h2⟩ := h.addr
  exact ⟨q, (h.has.cell o).trans h1, h2⟩
theorem Sb.cell1 (h : Sb W B b o T cs L) : ∃ a c, W.cell? ⟨b, o + 1, none⟩ = some (.slice a L.length c) ∧ RowI W B (.slice a L.length c) L.length L ∧ (L = [] → a = none ∧ c = 0) := by
  obtain ⟨u, h1, h2, h3⟩ := h.buf
  rcases h2.2 with ⟨rfl, h0⟩ | ⟨g, cap, cur, rfl, _⟩
  · rw [h0]; exact ⟨none, 0, (h.has.cell _).trans h1, by rw [h0] at h2; exact h2, fun _ => ⟨rfl, rfl⟩⟩
  · exact ⟨_, _, (h.has.cell _).trans h1, h2, fun e => by have := h3 e; injection this with e1 e2 e3; exact ⟨e1, e3⟩⟩
theorem Sb.used (h : Sb W B b o T cs L) : SbW W B b o T cs L (W.setCell ⟨b, o, none⟩ (.pointer (some ⟨b, o, none⟩))) (cs.setIfInBounds o (.pointer (some ⟨b, o, none⟩))) := by
  obtain ⟨q, h1, _⟩ := h.addr
  obtain ⟨u, h2, hr, hz⟩ := h.buf
  have hg : W.grownBy (W.setCell ⟨b, o, none⟩ (.pointer (some ⟨b, o, none⟩))) (some b) := only_put' o _
  refine ⟨⟨h.has.put o _, h.base, ⟨_, Array.getElem?_setIfInBounds_self_of_lt (sbcell_lt h1), .inr rfl⟩, ⟨u, by rw [Array.getElem?_setIfInBounds_ne (by omega)]; exact h2, hr.kept hg (.inr (fun e => hr.away h.has h.ne e.symm)), hz⟩, by rw [Array.size_setIfInBounds]; exact h.lies, h.ne, h.wf⟩, Array.size_setIfInBounds, fun i h3 _ => Array.getElem?_setIfInBounds_ne (fun e => h3 e.symm), (Below.refl _ _).setCell (p := ⟨b, o, none⟩) h.base _, fun k T' c _ hk hh => hh.away hk _⟩
end
set_option maxRecDepth 100000 in
set_option maxHeartbeats 1000000 in
theorem copyCheck_any (W : World) (B b o : Nat) (T : TypeId) (cs : Array Value) (L : List Int) (h : Sb W B b o T cs L) :
    Calls Tryz.prog 91 #[.pointer (some ⟨b, o, none⟩)] W fun e w' => e = .returned (.tuple #[]) ∧ ∃ cs', SbW W B b o T cs L w' cs' := by
  obtain ⟨j, hj, hjs⟩ := Option.map_eq_some_iff.1 sbInfo
  obtain ⟨q, h0, hq⟩ := h.cell0
  rcases hq with rfl | rfl
  · have HU := hidden h.used
    have hsh := h.shape
    have hfz := h.has.free o
    have hlies := h.lies
    have hlt : o < cs.size := by obtain ⟨q, h1, _⟩ := h.addr; exact sbcell_lt h1
    have hT1 : ∀ w : World, w.shape? b = some (T, cs.size) → (convert 45 130 (.pointer (some ⟨b, o, none⟩))).run Tryz.prog w = .ok (.pointer (some ⟨b, o, none⟩)) w := fun w hw => Lib.run_to_unsafe w ⟨b, o, none⟩ Tryz.underlying45 Tryz.underlying130 hj (by rw [hjs]; decide) hw hlt
    have hT2 : ∀ w : World, w.shape? b = some (T, cs.size) → (convert 130 45 (.pointer (some ⟨b, o, none⟩))).run Tryz.prog w = .ok (.pointer (some ⟨b, o, none⟩)) w := fun w hw => Lib.run_from_unsafe w ⟨b, o, none⟩ Tryz.underlying130 Tryz.underlying45 hj hw hlies
    have hA := hT1 W hsh
    have hB := hT2 W hsh
    clear h hT1 hT2 hlies hlt hsh
    go_enter Tryz.func91, Tryz.ntmps91
    go_wp2
    rw [run_callFunc_extern Tryz.func100 (by kernel_rfl) (by kernel_rfl) (by kernel_rfl) (e := Extern.AbiNoEscape.same) (by kernel_rfl)]
    rw [Lib.run_noEscape]
    simp only [Result.andThen]
    rw [Oper.upon_value]
    go_wp2
    go_end0
    exact ⟨rfl, _, HU.out⟩
  · have HU := hidden (SbW.refl h)
    clear h
    go_enter Tryz.func91, Tryz.ntmps91
    go_wp2
    rw [Lib.run_neq_ptr_same W _ Tryz.underlying45 hj]
    go_wp2
    go_end0
    exact ⟨rfl, _, HU.out⟩
theorem Sb.wrote {W w2 : World} {B b o : Nat} {T : TypeId} {cs : Array Value} {L L' : List Int} {u v' : Value} (h : Sb W B b o T cs L) (hr : RowI W B u L.length L) (hg : W.grownBy w2 u.ownBlock) (hr' : RowI w2 B v' L'.length L') (hz : L' = [] → v' = .slice none 0 0) (hwf : ∀ x ∈ L', (Lit.int .u8 x).wf = true) :
    SbW W B b o T cs L' (w2.setCell ⟨b, o + 1, none⟩ v') (cs.setIfInBounds (o + 1) v') := by
  obtain ⟨q, h1, hq⟩ := h.addr
  obtain ⟨u0, h2, _⟩ := h.buf
  have hne : some b ≠ u.ownBlock := hr.away h.has h.ne
  have hb2 : Has w2 b T cs := h.has.grown hg hne
  have hgp : w2.grownBy (w2.setCell ⟨b, o + 1, none⟩ v') (some b) := only_put' (o + 1) _
  refine ⟨⟨hb2.put (o + 1) _, h.base, ⟨q, by rw [Array.getElem?_setIfInBounds_ne (by omega)]; exact h1, hq⟩, ⟨v', Array.getElem?_setIfInBounds_self_of_lt (sbcell_lt h2), hr'.kept hgp (.inr (fun e => hr'.away hb2 h.ne e.symm)), hz⟩, by rw [Array.size_setIfInBounds]; exact h.lies, h.ne, hwf⟩, Array.size_setIfInBounds, fun i _ h3 => Array.getElem?_setIfInBounds_ne (fun e => h3 e.symm), ?_, fun k T' c hT hk hh => (hh.grown hg (hr.away hh hT)).away hk _⟩
  exact ((Below.refl _ _).grown hg h.size (fun k hk => (World.ownsRow.lt hr k hk).1)).setCell (p := ⟨b, o + 1, none⟩) h.base _
set_option maxRecDepth 100000 in
set_option maxHeartbeats 1000000 in
theorem writeByte_any (W : World) (B b o : Nat) (T : TypeId) (cs : Array Value) (L : List Int) (h : Sb W B b o T cs L) (c : Int) (hc : 0 ≤ c ∧ c < 256) (hlen : L.length + 1 ≤ 1000000000) :
    Calls Tryz.prog 78 #[.pointer (some ⟨b, o, none⟩), .int .u8 c] W fun e w' => e = .returned .nilIface ∧ ∃ cs', SbW W B b o T cs (L ++ [c]) w' cs' := by
  have HC := hidden (copyCheck_any W B b o T cs L h)
  obtain ⟨N, hN⟩ : ∃ N, L.length = N := ⟨_, rfl⟩
  rw [hN] at hlen
  clear h
  go_enter Tryz.func78, Tryz.ntmps78
  go_wp2_with fail
  refine HC.out.mono ?_
  rintro e w1 ⟨rfl, cs1, hs1⟩
  obtain ⟨a, cp, hc1, hrow, -⟩ := hs1.sb.cell1
  rw [hN] at hc1 hrow
  have hbk := hs1.sb.has
  have hne := hs1.sb.ne
  have hB := hs1.sb.size
  have HS := hidden hs1
  have hgk : Hid (∀ w2 : World, (w1.alloc (.cells #[.int .u8 c] 5)).grownBy w2 (Value.slice a N cp).ownBlock → w1.grownBy w2 (Value.slice a N cp).ownBlock) := fun w2 hg => only_trans (World.grownBy_alloc w1 _ _) hg
  have HROW := hidden (hrow.alloc (.cells #[.int .u8 c] 5))
  have HINT : Hid (Ints (w1.alloc (.cells #[.int .u8 c] 5)) .u8 (w1.heap.size + 1) (some ⟨w1.heap.size, 0, none⟩) [c]) := Ints.ofHas (Has.new _ _ _) rfl (by simp; exact wf_u8.mpr hc) (Nat.lt_succ_self _)
  have hbs : B ≤ (w1.alloc (.cells #[.int .u8 c] 5)).heap.size := Nat.le_trans hB (by simp)
  have HAW : Hid (some b ≠ (Value.slice a N cp).ownBlock) := hrow.away hbk hne
  have HR := hidden hrow
  have HNN := hidden hN
  have HCW := hidden hc
  have HBK := hidden hbk
  clear HC hs1 hrow hN hc hbk hne
  go_wp2_with (at_builtin; refine wpList_append_ints _ rfl _ _ rfl B _ N L rfl HROW.out (some ⟨w1.heap.size, 0, none⟩) 1 1 (w1.heap.size + 1) [c] rfl rfl HINT.out (by omega) hbs ?_)
  intro v' w2 hrow' hg
  have hg1 := hgk.out w2 hg
  have hb2 : Has w2 b T cs1 := HBK.out.grown hg1 HAW.out
  have f1 := hb2.free (o + 1)
  obtain ⟨u, hu, -⟩ := HS.out.sb.buf
  have d1 : w2.cell? ⟨b, o + 1, none⟩ = some u := (hb2.cell (o + 1)).trans hu
  obtain ⟨g, cap, rfl⟩ := hrow'.shape (by omega)
  have HF : Hid (SbW W B b o T cs (L ++ [c]) (w2.setCell ⟨b, o + 1, none⟩ (.slice (some ⟨g, 0, none⟩) (N + 1) cap)) (cs1.setIfInBounds (o + 1) (.slice (some ⟨g, 0, none⟩) (N + 1) cap))) := by
    refine HS.out.trans (HS.out.sb.wrote (by rw [HNN.out]; exact HR.out) hg1 (by rw [List.length_append, HNN.out]; exact hrow') (fun e => absurd e (by simp)) fun x hx => ?_)
    rcases List.mem_append.1 hx with h | h
    · exact HS.out.sb.wf x h
    · rw [List.mem_singleton.1 h]; exact wf_u8.mpr HCW.out
  clear hrow' hg hg1 hb2 hu HS HROW HINT hbs HAW HR HBK hB
  go_wp2_with fail
  go_ret
  exact ⟨rfl, _, HF.out⟩
structure SbF (W : World) (B : Nat) (W' : World) : Prop where
  below : Below B W W'
  kept : ∀ k T' c, T' ≠ 5 → Has W k T' c → Has W' k T' c
theorem str_of_nums {L : List Int} (h : ∀ x ∈ L, (Lit.int .u8 x).wf = true) : L.map (Value.int .u8) = Lib.byteCells (strOfNums L).data.toList := by
  have e : numsOf (strOfNums L) = L := numsOf_strOfNums fun x hx => wf_u8.mp (h x hx)
  conv => lhs; rw [← e]
  unfold numsOf Lib.byteCells
  rw [List.map_map]
  rfl
theorem Has.frozen {W : World} {k g : Nat} {T' : TypeId} {c : Array Value} (h : Has W k T' c) (hk : k ≠ g) (n : Nat) : Has (W.freeze ⟨g, 0, none⟩ n) k T' c := by
  unfold Has World.freeze at *
  split
  · exact h
  · simp only [Array.getElem?_modify]
    rw [if_neg (fun e => hk e.symm)]
    exact h
set_option maxRecDepth 100000 in
set_option maxHeartbeats 1000000 in
theorem builderString_any (W : World) (B b o : Nat) (T : TypeId) (cs : Array Value) (L : List Int) (h : Sb W B b o T cs L) :
    Calls Tryz.prog 82 #[.pointer (some ⟨b, o, none⟩)] W fun e w' => e = .returned (.string (strOfNums L)) ∧ SbF W B w' := by
  have cb : Tryz.prog.cellsOf 5 = 1 := by kernel_rfl
  obtain ⟨a, cp, hc1, hrow, hz⟩ := h.cell1
  by_cases hL : L = []
  · obtain ⟨rfl, rfl⟩ := hz hL
    subst hL
    have hUS : ∀ w : World, (Builtin.unsafeString_ #[124, 3] 9 #[.pointer none, .int .i64 0]).run Tryz.prog w = .ok (.string .empty) w := fun w => Lib.run_unsafeString_none w _ _ _ none
    have hUS := hUS W.drew
    have c1 : W.drew.cell? ⟨b, o + 1, none⟩ = some (.slice none 0 0) := hc1
    have hSD : (Builtin.unsafeSliceData_ #[22] 124 #[.slice none 0 0]).run Tryz.prog W.drew = .ok (.pointer none) W.drew := rfl
    clear h hrow hz hc1
    go_enter Tryz.func82, Tryz.ntmps82
    go_wp2
    go_region
    all_goals (go_wp2; go_ret; exact ⟨rfl, Below.drew (Below.refl B W), fun _ _ _ _ h => h⟩)
  · obtain ⟨l, hl⟩ : ∃ l, (strOfNums L).data.toList = l := ⟨_, rfl⟩
    have hcells := str_of_nums h.wf
    rw [hl] at hcells
    obtain ⟨N, hN⟩ : ∃ N, L.length = N := ⟨_, rfl⟩
    have hlN : l.length = N := by rw [← hN, ← Lib.byteCells_length, ← hcells, List.length_map]
    have hN0 : 0 < N := by rw [← hN]; exact List.length_pos_iff.2 hL
    rw [hN] at hc1 hrow
    obtain ⟨g, cap, cur, hv, hbg, hg, hnc, hcm, hcs, -⟩ : ∃ g cap cur, (Value.slice a N cp) = .slice (some ⟨g, 0, none⟩) N cap ∧ B ≤ g ∧ W.heap[g]? = some (.cells cur 5 (0, 0)) ∧ N ≤ cap ∧ cap ≤ maxLen ∧ cur.size = cap * 1 ∧ True := by
      rcases hrow.2 with ⟨_, hz⟩ | ⟨g, cap, cur, hv, r1, r2, r3, r4, r5, _⟩
      · omega
      · exact ⟨g, cap, cur, hv, r1, r2, r3, r4, r5, trivial⟩
    injection hv with e1 e2 e3
    subst e1
    subst e3
    have c1 : W.drew.cell? ⟨b, o + 1, none⟩ = some (.slice (some ⟨g, 0, none⟩) N cp) := hc1
    have hSD : (Builtin.unsafeSliceData_ #[22] 124 #[.slice (some ⟨g, 0, none⟩) N cp]).run Tryz.prog W.drew = .ok (.pointer (some ⟨g, 0, none⟩)) W.drew :=
      Lib.run_unsafeSliceData_row _ _ _ _ _ _ (by omega)
    have hUS : (Builtin.unsafeString_ #[124, 3] 9 #[.pointer (some ⟨g, 0, none⟩), .int .i64 (N : Int)]).run Tryz.prog W.drew = .ok (.string ⟨l.toArray⟩) (W.drew.freeze ⟨g, 0, none⟩ N) := by
      have := Lib.run_unsafeString_row W.drew 124 3 9 5 Tryz.underlying124 cb g cur.size (by have hg' : W.drew.heap[g]? = some (.cells cur 5 (0, 0)) := hg; simp [World.shape?, hg']) l (by intro e; rw [e] at hlN; simp at hlN; omega) (by omega) (by unfold maxLen at hcm; omega) (fun j x hx => by
        have := World.ownsRow.cells hrow (g := g) rfl j (.int .u8 x.toNat) (by rw [hcells]; simp [Lib.byteCells, hx])
        exact this)
      rw [hlN] at this
      exact this
    have HF : Hid (SbF W B (W.drew.freeze ⟨g, 0, none⟩ N)) := ⟨Lib.below_freeze (Below.drew (Below.refl B W)) (p := ⟨g, 0, none⟩) hbg _, fun k T' c hT hh => Has.frozen (W := W.drew) hh (fun e => by subst e; exact (Has.differ hh hg hT) rfl) N⟩
    have HS : Hid (strOfNums L = ⟨l.toArray⟩) := by show _ = _; rw [← hl]
    rw [HS.out]
    clear h hrow hz hc1 hL hl hcells hN hlN hN0 hbg hg hnc hcm hcs e2 HS cb
    go_enter Tryz.func82, Tryz.ntmps82
    go_wp2
    go_region
    all_goals (go_wp2; go_ret; exact ⟨rfl, HF.out⟩)
end Go.Proofs.YtpfombelhajmlaaGreatDoor
namespace Go.Proofs.YtpfombelhajmlaaGreatDoor
open Go.RowKit
set_option maxRecDepth 100000 in
set_option maxHeartbeats 1000000 in
theorem writeString_any (W : World) (B b o : Nat) (T : TypeId) (cs : Array Value) (L : List Int) (h : Sb W B b o T cs L) (t : ByteArray) (hlen : L.length + t.size ≤ 1000000000) :
    Calls Tryz.prog 79 #[.pointer (some ⟨b, o, none⟩), .string t] W fun e w' => (∃ v, e = .returned v) ∧ ∃ cs', SbW W B b o T cs (L ++ numsOf t) w' cs' := by
  obtain ⟨i0, hi, hz0, hz1, hz2⟩ := info_parts Tryz.info_u8
  have HC := hidden (copyCheck_any W B b o T cs L h)
  obtain ⟨N, hN⟩ : ∃ N, L.length = N := ⟨_, rfl⟩
  rw [hN] at hlen
  clear h
  go_enter Tryz.func79, Tryz.ntmps79
  go_wp2_with fail
  refine HC.out.mono ?_
  rintro e w1 ⟨rfl, cs1, hs1⟩
  obtain ⟨a, cp, hc1, hrow, hz⟩ := hs1.sb.cell1
  rw [hN] at hc1 hrow
  have HBK := hidden hs1.sb.has
  have hB := hs1.sb.size
  have HS := hidden hs1
  have HAW : Hid (some b ≠ (Value.slice a N cp).ownBlock) := hrow.away hs1.sb.has hs1.sb.ne
  have HR := hidden hrow
  have HNN := hidden hN
  have HZ := hidden hz
  clear HC hs1 hrow hN hz
  go_wp2_with (at_builtin; refine Lib.wpList_append_own_string _ rfl _ _ 22 9 rfl B 5 i0 Tryz.underlying22 Tryz.underlying9 hi hz0 hz1 hz2 _ _ _ rfl HR.out t rfl ?c3 ?c4 ?c5 ?_)
  case c3 => unfold maxLen; omega
  case c4 => omega
  case c5 => omega
  intro v' w2 hrow' hg hnil
  have hrow2 : RowI w2 B v' (L ++ numsOf t).length (L ++ numsOf t) := by
    show w2.ownsRow _ _ _ _ _ _
    rw [List.length_append, numsOf_length, HNN.out, List.map_append, ← strCells_is]
    exact hrow'
  have hb2 : Has w2 b T cs1 := HBK.out.grown hg HAW.out
  have f1 := hb2.free (o + 1)
  obtain ⟨u, hu, -⟩ := HS.out.sb.buf
  have d1 : w2.cell? ⟨b, o + 1, none⟩ = some u := (hb2.cell (o + 1)).trans hu
  have HF : Hid (SbW W B b o T cs (L ++ numsOf t) (w2.setCell ⟨b, o + 1, none⟩ v') (cs1.setIfInBounds (o + 1) v')) := by
    refine HS.out.trans (HS.out.sb.wrote (by rw [HNN.out]; exact HR.out) hg hrow2 (fun e => ?_) fun x hx => ?_)
    · obtain ⟨e1, e2⟩ := List.append_eq_nil_iff.1 e
      obtain ⟨h1, h2⟩ := HZ.out e1
      have hN0 : N = 0 := by rw [← HNN.out, e1]; rfl
      have ht0 : t.size = 0 := by rw [← numsOf_length, e2]; rfl
      have ht1 : t = ByteArray.empty := ByteArray.ext (Array.ext' (List.eq_nil_of_length_eq_zero (by rw [Array.length_toList]; exact ht0)))
      exact hnil.2 ⟨⟨h1, hN0, h2⟩, ht1⟩
    · rcases List.mem_append.1 hx with h | h
      · exact HS.out.sb.wf x h
      · exact wf_u8.mpr (numsOf_wf t x h)
  obtain ⟨ao, m, cap, rfl⟩ : ∃ ao m cap, v' = .slice ao m cap := by
    rcases hrow'.2 with ⟨hv, _⟩ | ⟨g, cap, cur, hv, _⟩
    · exact ⟨_, _, _, hv⟩
    · exact ⟨_, _, _, hv⟩
  clear hrow' hrow2 hg hnil hb2 hu HS HR HAW HBK hB HZ hz0 hz1 hz2 hi
  go_wp2_with fail
  go_ret2
  exact ⟨⟨_, rfl⟩, _, HF.out⟩
set_option maxRecDepth 100000 in
theorem builderLen_any (W : World) (B b o : Nat) (T : TypeId) (cs : Array Value) (L : List Int) (h : Sb W B b o T cs L) :
    Calls Tryz.prog 77 #[.pointer (some ⟨b, o, none⟩)] W fun e w' => e = .returned (.int .i64 L.length) ∧ W = w' := by
  obtain ⟨a, cp, hc1, -, -⟩ := h.cell1
  obtain ⟨N, hN⟩ : ∃ N, L.length = N := ⟨_, rfl⟩
  rw [hN] at hc1 ⊢
  clear h hN
  go_enter Tryz.func77, Tryz.ntmps77
  go_wp2_with fail
  go_ret
  exact ⟨rfl, rfl⟩
set_option maxRecDepth 100000 in
theorem builderReset_any (W : World) (B b o : Nat) (T : TypeId) (cs : Array Value) (hh : Has W b T cs) (hB : B ≤ b) (ho : o + 1 < cs.size) (hl : liesAt Tryz.prog Tryz.prog.depth T (cs.size / Tryz.prog.cellsOf T) o 47 1 = true) (hT : T ≠ 5) :
    Calls Tryz.prog 83 #[.pointer (some ⟨b, o, none⟩)] W fun e w' => e = .returned (.tuple #[]) ∧ ∃ cs', SbW W B b o T cs [] w' cs' := by
  obtain ⟨q, hq⟩ : ∃ q, cs[o]? = some q := ⟨_, Array.getElem?_eq_getElem (by omega)⟩
  obtain ⟨u, hu⟩ : ∃ u, cs[o + 1]? = some u := ⟨_, Array.getElem?_eq_getElem ho⟩
  have c0 : W.cell? ⟨b, o, none⟩ = some q := (hh.cell o).trans hq
  have f0 := hh.free o
  have h1 := hh.put o (.pointer none)
  have c1 : (W.setCell ⟨b, o, none⟩ (.pointer none)).cell? ⟨b, o + 1, none⟩ = some u := (h1.cell (o + 1)).trans (by rw [Array.getElem?_setIfInBounds_ne (by omega)]; exact hu)
  have f1 := h1.free (o + 1)
  have HF : Hid (SbW W B b o T cs [] ((W.setCell ⟨b, o, none⟩ (.pointer none)).setCell ⟨b, o + 1, none⟩ (.slice none 0 0)) ((cs.setIfInBounds o (.pointer none)).setIfInBounds (o + 1) (.slice none 0 0))) := by
    refine ⟨⟨h1.put (o + 1) _, hB, ⟨_, by rw [Array.getElem?_setIfInBounds_ne (by omega)]; exact Array.getElem?_setIfInBounds_self_of_lt (by omega), .inl rfl⟩, ⟨_, Array.getElem?_setIfInBounds_self_of_lt (by rw [Array.size_setIfInBounds]; exact ho), World.ownsRow_nil _ _ _ _, fun _ => rfl⟩, by rw [Array.size_setIfInBounds, Array.size_setIfInBounds]; exact hl, hT, fun x hx => absurd hx (by simp)⟩, by rw [Array.size_setIfInBounds, Array.size_setIfInBounds], fun i h2 h3 => ?_, ((Below.refl _ _).setCell (p := ⟨b, o, none⟩) hB _).setCell (p := ⟨b, o + 1, none⟩) hB _, fun k T' c _ hk hh => (hh.away hk _).away hk _⟩
    rw [Array.getElem?_setIfInBounds_ne (fun e => h3 e.symm), Array.getElem?_setIfInBounds_ne (fun e => h2 e.symm)]
  clear hh h1 hq hu hl
  go_enter Tryz.func83, Tryz.ntmps83
  go_wp2_with fail
  go_end0
  exact ⟨rfl, _, HF.out⟩
end Go.Proofs.YtpfombelhajmlaaGreatDoor
