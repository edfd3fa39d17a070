/-
  impl.dumpBuilder in memory: words, numbers and the ends of lines.
-/
import Derived.Test.YtdmdjlnpbmiadaaDoorDmpP
import Derived.Test.YtdmdjlnpbmiadaaDoorSbX
import Derived.Test.YtdmdjlnpbmiadaaDoorShelf
import Derived.Test.YtdmdjlnpbmiadaaDoorTabsD
import Derived.IntWalk
import Derived.Deep.CutBlock
namespace Go.Proofs.YtdmdjlnpbmiadaaDoor
open Go.RowKit

/-- A builder of lines: the lines S, and the bytes L of the line that is built. -/
structure DB (W : World) (B p : Nat) (S : List ByteArray) (L : List Int) (cs : Array Value) : Prop where
  sb : Sb W B p 1 59 cs L
  size : cs.size = 3
  row : ∃ v, cs[0]? = some v ∧ W.ownsRow B 9 1 v S.length (S.map Value.string)
  tabs : Tabs W
  low : tabTop ≤ B
/-- What a method of the builder leaves. -/
structure DBW (W : World) (B p : Nat) (S' : List ByteArray) (L' : List Int) (W' : World) : Prop where
  db : ∃ cs, DB W' B p S' L' cs
  below : Below B W W'
  kept : ∀ k T' c, T' ≠ 5 → T' ≠ 9 → k ≠ p → Has W k T' c → Has W' k T' c
theorem DBW.trans {W W1 W2 : World} {B p : Nat} {S1 S2 : List ByteArray} {L1 L2 : List Int} (h : DBW W B p S1 L1 W1) (k : DBW W1 B p S2 L2 W2) : DBW W B p S2 L2 W2 :=
  ⟨k.db, h.below.trans k.below, fun q T' c h1 h2 h3 h4 => k.kept q T' c h1 h2 h3 (h.kept q T' c h1 h2 h3 h4)⟩
theorem Sb.only {W W' : World} {B b o : Nat} {T : TypeId} {cs : Array Value} {L : List Int} (h : Sb W B b o T cs L) (hb : Below W.heap.size W W') : Sb W' B b o T cs L := by
  obtain ⟨u, h1, h2, h3⟩ := h.buf
  exact ⟨h.has.below hb h.has.lt, h.base, h.addr, ⟨u, h1, h2.only hb, h3⟩, h.lies, h.ne, h.wf⟩
theorem own_same {W W' : World} {B : Nat} {T : TypeId} {v : Value} {n : Nat} {xs : List Value} (h : W.ownsRow B T 1 v n xs) (hk : ∀ k c, Has W k T c → Has W' k T c) : W'.ownsRow B T 1 v n xs := by
  refine ⟨h.1, ?_⟩
  rcases h.2 with h0 | ⟨g, cap, cur, e, h1, h2, h3⟩
  · exact .inl h0
  · exact .inr ⟨g, cap, cur, e, h1, hk g cur h2, h3⟩
theorem DB.only {W W' : World} {B p : Nat} {S : List ByteArray} {L : List Int} {cs : Array Value} (h : DB W B p S L cs) (hb : Below W.heap.size W W') : DB W' B p S L cs := by
  obtain ⟨v, h1, h2⟩ := h.row
  exact ⟨h.sb.only hb, h.size, ⟨v, h1, own_same h2 fun k c hh => hh.below hb hh.lt⟩, h.tabs.below hb h.tabs.lt, h.low⟩
theorem DBW.only {W W1 : World} {B p : Nat} {S : List ByteArray} {L : List Int} {cs : Array Value} (h : DB W B p S L cs) (hb : Below W.heap.size W W1) : DBW W B p S L W1 :=
  ⟨⟨cs, h.only hb⟩, hb.mono h.sb.size, fun _ _ _ _ _ _ hh => hh.below hb hh.lt⟩
/-- What was written into the line that is built. -/
theorem DB.line {W W' : World} {B p : Nat} {S : List ByteArray} {L L' : List Int} {cs cs' : Array Value} (h : DB W B p S L cs) (k : SbW W B p 1 59 cs L' W' cs') : DB W' B p S L' cs' := by
  obtain ⟨v, h1, h2⟩ := h.row
  exact ⟨k.sb, k.size.trans h.size, ⟨v, (k.rest 0 (by omega) (by omega)).trans h1, own_same h2 fun q c hh => k.kept q _ c (by decide) (hh.differ h.sb.has (by decide)) hh⟩, h.tabs.below k.below h.low, h.low⟩
theorem DBW.line {W W' : World} {B p : Nat} {S : List ByteArray} {L L' : List Int} {cs cs' : Array Value} (h : DB W B p S L cs) (k : SbW W B p 1 59 cs L' W' cs') : DBW W B p S L' W' :=
  ⟨⟨cs', h.line k⟩, k.below, fun q T' c h1 _ h3 hh => k.kept q T' c h1 h3 hh⟩
set_option maxRecDepth 100000 in
set_option maxHeartbeats 2000000 in
theorem putWords_any (W : World) (B p : Nat) (S : List ByteArray) (L : List Int) (cs0 : Array Value) (h : DB W B p S L cs0) (g n c : Nat) (ws : List ByteArray) (hn : n = ws.length) (hg : Has W g 9 (ws.map Value.string).toArray) (hlen : L.length + lenW ws ≤ 1000000000) (hnb : n ≤ 1000000) :
    Calls Tryd.prog 37 #[.pointer (some ⟨p, 0, none⟩), .slice (some ⟨g, 0, none⟩) n c] W fun e w' => e = .returned (.tuple #[]) ∧ DBW W B p S (joinW L ws) w' := by
  have HD := hidden h
  have HN := hidden hn
  have HG := hidden hg
  have HLEN := hidden hlen
  have HGP : Hid (g ≠ p) := hg.differ h.sb.has (by decide)
  clear h hg hlen hn
  go_enter Tryd.func37, Tryd.ntmps37
  go_wp2_with fail
  go_loopw [8] (fun i wr => ∃ (k : Nat) (cs : Array Value), i = .int .i64 k ∧ k ≤ n ∧ Hid (SbW W B p 1 59 cs0 (joinW L (ws.take k)) wr cs)) (fun i _ => n - (intOf i).toNat)
  case atStart => exact ⟨0, cs0, rfl, Nat.zero_le _, SbW.refl HD.out.sb⟩
  case round =>
    obtain ⟨k, cs, rfl, hk, hs⟩ := hrel
    by_cases hlt : k < n
    · have hi : (k : Int) < (n : Int) := by omega
      have hkl : k < ws.length := by rw [← HN.out]; exact hlt
      obtain ⟨s, hs1⟩ : ∃ s, ws[k]? = some s := ⟨_, List.getElem?_eq_getElem hkl⟩
      have hgr : Has wr g 9 (ws.map Value.string).toArray := hs.out.kept g _ _ (by decide) HGP.out HG.out
      have hc : wr.cell? ⟨g, k, none⟩ = some (.string s) := by rw [hgr.cell k]; simp [hs1]
      have HSN : Hid (joinW L (ws.take (k + 1)) = addW (joinW L (ws.take k)) s) := joinW_snoc hs1 L
      have hb1 := joinW_length (ws.take k) L
      have hb2 := lenW_snoc hs1
      obtain ⟨M, hM⟩ : ∃ M, joinW L (ws.take k) = M := ⟨_, rfl⟩
      rw [hM] at hs HSN hb1
      have hlM : M.length + s.size + 1 ≤ 1000000000 := by have := HLEN.out; omega
      have HLM := hidden hlM
      have HW := hidden (builderLen_any wr B p 1 _ cs M hs.out.sb)
      clear hs1 hgr hb1 hb2 hM hkl hlM
      go_wp2_with fail
      refine HW.out.mono ?_
      rintro e _ ⟨rfl, rfl⟩
      clear HW
      by_cases hM0 : M = []
      · have HE : Hid (joinW L (ws.take (k + 1)) = M ++ numsOf s) := by show _ = _; rw [HSN.out]; unfold addW; rw [if_pos hM0]
        have hl0 : ((M.length : Nat) : Int) = 0 := by rw [hM0]; rfl
        have HWS := hidden (writeString_any wr B p 1 _ cs M hs.out.sb s (by have := HLM.out; omega))
        rw [hl0]
        clear hM0 hl0 HSN
        go_wp2_with fail
        refine HWS.out.mono ?_
        rintro e w2 ⟨⟨v, rfl⟩, cs2, hs2⟩
        have HS2 : Hid (SbW W B p 1 59 cs0 (joinW L (ws.take (k + 1))) w2 cs2) := by show SbW _ _ _ _ _ _ _ _ _; rw [HE.out]; exact hs.out.trans hs2
        clear HWS hs2 hs HE
        go_wp2_with fail
        go_roundw
        case rel => exact ⟨k + 1, cs2, by go_num, by omega, HS2⟩
        case measure => simp [intOf]; omega
      · have HE : Hid (joinW L (ws.take (k + 1)) = M ++ [32] ++ numsOf s) := by show _ = _; rw [HSN.out]; unfold addW; rw [if_neg hM0]
        obtain ⟨m, hm⟩ : ∃ m, M.length = m := ⟨_, rfl⟩
        have hl0 : (0 : Int) < (m : Int) := by rw [← hm]; have := List.length_pos_iff.2 hM0; omega
        have HWB := hidden (writeByte_any wr B p 1 _ cs M hs.out.sb 32 (by omega) (by have := HLM.out; omega))
        rw [hm]
        clear hM0 HSN hm
        go_wp2_with fail
        refine HWB.out.mono ?_
        rintro e w2 ⟨rfl, cs2, hs2⟩
        have HWS := hidden (writeString_any w2 B p 1 _ cs2 (M ++ [32]) hs2.sb s (by have := HLM.out; rw [List.length_append, List.length_singleton]; omega))
        have HS2 := hidden (hs.out.trans hs2)
        clear HWB hs2 hs
        go_wp2_with fail
        refine HWS.out.mono ?_
        rintro e w3 ⟨⟨v, rfl⟩, cs3, hs3⟩
        have HS3 : Hid (SbW W B p 1 59 cs0 (joinW L (ws.take (k + 1))) w3 cs3) := by show SbW _ _ _ _ _ _ _ _ _; rw [HE.out]; exact HS2.out.trans hs3
        clear HWS hs3 HS2 HE
        go_wp2_with fail
        go_roundw
        case rel => exact ⟨k + 1, cs3, by go_num, by omega, HS3⟩
        case measure => simp [intOf]; omega
    · have hi : ¬ (k : Int) < (n : Int) := by omega
      have HF : Hid (DBW W B p S (joinW L ws) wr) := by
        have := DBW.line HD.out hs.out
        rwa [List.take_of_length_le (by rw [← HN.out]; omega)] at this
      clear hs
      go_wp2_with fail
      go_end0
      exact ⟨rfl, HF.out⟩
end Go.Proofs.YtdmdjlnpbmiadaaDoor
