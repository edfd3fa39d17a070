/-
  impl.HexText.
-/
import Derived.Test.YtdmdjlnpbmiadaaDoorSbI
import Derived.Test.YtdmdjlnpbmiadaaDoorLawD1
namespace Go.Proofs.YtdmdjlnpbmiadaaDoor
open Go.RowKit

theorem sbLies : liesAt Tryd.prog Tryd.prog.depth 57 (2 / Tryd.prog.cellsOf 57) 0 57 1 = true := by kernel_rfl
theorem hexAt8 (W : World) (d : Int) (h0 : 0 ≤ d) (h1 : d < 16) : (Instr.index 9 (.string ⟨#[48, 49, 50, 51, 52, 53, 54, 55, 56, 57, 97, 98, 99, 100, 101, 102]⟩) (.int .u8 d)).run Tryd.prog W = .ok (.int .u8 (hexD d)) W := by
  have hc : d = 0 ∨ d = 1 ∨ d = 2 ∨ d = 3 ∨ d = 4 ∨ d = 5 ∨ d = 6 ∨ d = 7 ∨ d = 8 ∨ d = 9 ∨ d = 10 ∨ d = 11 ∨ d = 12 ∨ d = 13 ∨ d = 14 ∨ d = 15 := by omega
  rcases hc with rfl | rfl | rfl | rfl | rfl | rfl | rfl | rfl | rfl | rfl | rfl | rfl | rfl | rfl | rfl | rfl <;> (clear h0 h1; show _ = _; kernel_rfl)
theorem hexD_byte {d : Int} (h0 : 0 ≤ d) (h1 : d < 16) : 0 ≤ hexD d ∧ hexD d < 256 := by unfold hexD; split <;> omega
set_option maxRecDepth 100000 in
set_option maxHeartbeats 2000000 in
theorem hexText_any (w : World) (B : Nat) (a : Option Addr) (c : Nat) (l : List Int) (h : Ints w .u8 B a l) (hB : B ≤ w.heap.size) (hlen : l.length ≤ 2000000) :
    Calls Tryd.prog 40 #[.slice a l.length c] w fun e w' => e = .returned (.string (strOfNums (hexL l))) ∧ Below w.heap.size w w' := by
  obtain ⟨n, hn⟩ : ∃ n, l.length = n := ⟨_, rfl⟩
  rw [hn]
  have HI := hidden (fun (W : World) (hW : Below w.heap.size w W) => h.below (hW.mono hB))
  have HN := hidden hn
  have HS := hidden (fun (W : World) (d : Int) (h0 : 0 ≤ d) (h1 : d < 16) => hexAt8 W d h0 h1)
  have HS0 : Hid (Sb (w.alloc (.cells #[.pointer none, .slice none 0 0] 57)) w.heap.size w.heap.size 0 57 #[.pointer none, .slice none 0 0] []) :=
    ⟨Has.new _ _ _, Nat.le_refl _, ⟨_, rfl, .inl rfl⟩, ⟨_, rfl, World.ownsRow_nil _ _ _ _, fun _ => rfl⟩, sbLies, by decide, fun x hx => absurd hx (by simp)⟩
  have HB0 : Hid (Below w.heap.size w (w.alloc (.cells #[.pointer none, .slice none 0 0] 57))) := (Below.refl _ _).alloc (Nat.le_refl _) _
  rw [hn] at hlen
  clear h hn
  go_enter Tryd.func40, Tryd.ntmps40
  go_wp2_with fail
  go_loopw [8] (fun i wr => ∃ (k : Nat) (cs : Array Value), i = .int .i64 k ∧ k ≤ n ∧ Hid (Sb wr w.heap.size w.heap.size 0 57 cs (hexL (l.take k))) ∧ Hid (Below w.heap.size w wr)) (fun i _ => n - (intOf i).toNat)
  case atStart => exact ⟨0, _, rfl, Nat.zero_le _, HS0.out, HB0.out⟩
  case round =>
    obtain ⟨k, cs, rfl, hk, hs, hb⟩ := hrel
    clear HS0 HB0
    by_cases hlt : k < n
    · have hi : (k : Int) < (n : Int) := by omega
      have hkl : k < l.length := by rw [HN.out]; exact hlt
      obtain ⟨b, off, rfl, hbB, hc⟩ := (HI.out wr hb.out).at_ hkl
      obtain ⟨x, hx⟩ : ∃ x, l.getD k 0 = x := ⟨_, rfl⟩
      have hxw := wf_u8.mp ((HI.out wr hb.out).wfAt hkl)
      rw [hx] at hc hxw
      have hx2 : l[k]? = some x := by rw [← hx, List.getD_eq_getElem?_getD, List.getElem?_eq_getElem hkl]; rfl
      have hL : (hexL (l.take k)).length = 2 * k := by rw [hexL_length, List.length_take]; omega
      obtain ⟨d1, hd1⟩ : ∃ d, x / 16 = d := ⟨_, rfl⟩
      obtain ⟨d2, hd2⟩ : ∃ d, x % 16 = d := ⟨_, rfl⟩
      have hb1 : 0 ≤ d1 ∧ d1 < 16 := by omega
      have hb2 : 0 ≤ d2 ∧ d2 < 16 := by omega
      have hi1 : ∀ W : World, (Instr.index 9 (.string ⟨#[48, 49, 50, 51, 52, 53, 54, 55, 56, 57, 97, 98, 99, 100, 101, 102]⟩) (.int .u8 d1)).run Tryd.prog W = .ok (.int .u8 (hexD d1)) W := fun W => HS.out W d1 hb1.1 hb1.2
      have hi2 : ∀ W : World, (Instr.index 9 (.string ⟨#[48, 49, 50, 51, 52, 53, 54, 55, 56, 57, 97, 98, 99, 100, 101, 102]⟩) (.int .u8 d2)).run Tryd.prog W = .ok (.int .u8 (hexD d2)) W := fun W => HS.out W d2 hb2.1 hb2.2
      obtain ⟨e1, he1⟩ : ∃ e, hexD d1 = e := ⟨_, rfl⟩
      obtain ⟨e2, he2⟩ : ∃ e, hexD d2 = e := ⟨_, rfl⟩
      have hw1 : 0 ≤ e1 ∧ e1 < 256 := by rw [← he1]; exact hexD_byte hb1.1 hb1.2
      have hw2 : 0 ≤ e2 ∧ e2 < 256 := by rw [← he2]; exact hexD_byte hb2.1 hb2.2
      rw [he1] at hi1
      rw [he2] at hi2
      have HN1 : Hid (hexL (l.take (k + 1)) = hexL (l.take k) ++ [e1] ++ [e2]) := by show _ = _; rw [hexL_snoc hx2, hd1, hd2, he1, he2]; simp
      have HW1 := hidden (writeByte_any wr w.heap.size w.heap.size 0 57 cs _ hs.out e1 hw1 (by rw [hL]; omega))
      obtain ⟨L, hLL⟩ : ∃ L, hexL (l.take k) = L := ⟨_, rfl⟩
      rw [hLL] at HN1 HW1 hL
      have HL := hidden hL
      clear hx hkl hs hx2 hLL hL he1 he2 hb1 hb2
      go_wp2_with fail
      refine HW1.out.mono ?_
      rintro e w1 ⟨rfl, cs1, hs1⟩
      have HB1 := hidden (hb.out.trans hs1.below)
      have HW2 := hidden (writeByte_any w1 w.heap.size w.heap.size 0 57 cs1 _ hs1.sb e2 hw2 (by rw [List.length_append, HL.out, List.length_singleton]; omega))
      clear hs1 HW1 hb
      go_wp2_with fail
      refine HW2.out.mono ?_
      rintro e w2 ⟨rfl, cs2, hs2⟩
      have HB2 := hidden (HB1.out.trans hs2.below)
      have HS2 : Hid (Sb w2 w.heap.size w.heap.size 0 57 cs2 (hexL (l.take (k + 1)))) := by show Sb _ _ _ _ _ _ _; rw [HN1.out]; exact hs2.sb
      clear hs2 HW2 HB1
      go_wp2_with fail
      go_roundw
      case rel => exact ⟨k + 1, cs2, by go_num, by omega, HS2, HB2⟩
      case measure => simp [intOf]; omega
    · have hi : ¬ (k : Int) < (n : Int) := by omega
      have hF : l.take k = l := List.take_of_length_le (by rw [HN.out]; omega)
      have hs' := hs.out
      rw [hF] at hs'
      have HST := hidden (builderString_any wr w.heap.size w.heap.size 0 57 cs _ hs')
      clear hs hs' hF
      go_wp2_with fail
      refine HST.out.mono ?_
      rintro e w1 ⟨rfl, hf⟩
      have HB1 := hidden (hb.out.trans hf.below)
      clear hf HST hb
      go_wp2_with fail
      go_ret
      exact ⟨rfl, HB1.out⟩
theorem wantHexText : WantHexText := fun w B a c l h hB hlen _ _ => hexText_any w B a c l h hB hlen
end Go.Proofs.YtdmdjlnpbmiadaaDoor
