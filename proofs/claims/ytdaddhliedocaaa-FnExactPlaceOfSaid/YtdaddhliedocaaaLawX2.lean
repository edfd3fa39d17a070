/-
  The walks of FnExactNameValid, FnExactNameAt and FnExactPlaceOf, over what is wanted of the program.
-/
import Derived.Test.YtdaddhliedocaaaLawN1
import Derived.Test.YtdaddhliedocaaaLawN4
import Derived.Test.YtdaddhliedocaaaToB
import Derived.Test.YtdaddhliedocaaaEqB
namespace Go.Proofs.Ytdaddhliedocaaa
open Go.RowKit

set_option maxHeartbeats 400000 in
theorem law_ExactNameValid (hN : WantNameValid) (w : World) (s : ByteArray) (hs : s.size ≤ maxLen) :
    Calls Try.prog 8 #[.string s] w fun e w' => e = .returned (.bool true) ∧ Below w.heap.size w w' := by
  have hs' : s.size ≤ 9223372036854775807 := by unfold maxLen at hs; omega
  by_cases hbig : 1048576 < s.size
  · have hd : (1048576 : Int) < (s.size : Int) := by omega
    clear hs
    go_enter Try.func8, Try.ntmps8
    go_wp2
    go_ret
    exact ⟨rfl, Below.refl _ _⟩
  have hd : ¬ (1048576 : Int) < (s.size : Int) := by omega
  go_enter Try.func8, Try.ntmps8
  go_wp2_with fail
  refine (nameValid'_any s w hs).mono ?_
  rintro e _ ⟨rfl, rfl⟩
  go_wp2_with fail
  refine (hN w s hs).mono ?_
  rintro e w2 ⟨rfl, hb2⟩
  clear hN hs
  go_wp2_with fail
  go_ret
  exact ⟨rfl, hb2⟩

set_option maxHeartbeats 400000 in
theorem law_ExactPlaceOf (hI : WantPlaceOf) (w : World) (a : Option Addr) (len cap : Nat) (s : ByteArray) (hs : s.size ≤ maxLen) (h : ∃ l, Ints w .u8 w.heap.size a l ∧ l.length = len ∧ len ≤ 9223372036854775807) :
    Calls Try.prog 11 #[.slice a len cap, .string s] w fun e w' => e = .returned (.bool true) ∧ Below w.heap.size w w' := by
  obtain ⟨l, h, rfl, hlen⟩ := h
  have hs' : s.size ≤ 9223372036854775807 := by unfold maxLen at hs; omega
  by_cases hbig : 1048576 < l.length
  · have hd : (1048576 : Int) < (l.length : Int) := by omega
    go_enter Try.func11, Try.ntmps11
    go_wp2
    go_ret
    exact ⟨rfl, Below.refl _ _⟩
  have hd : ¬ (1048576 : Int) < (l.length : Int) := by omega
  by_cases hbig2 : 1048576 < s.size
  · have hd2 : (1048576 : Int) < (s.size : Int) := by omega
    clear hs
    go_enter Try.func11, Try.ntmps11
    go_wp2
    go_ret
    exact ⟨rfl, Below.refl _ _⟩
  have hd2 : ¬ (1048576 : Int) < (s.size : Int) := by omega
  go_enter Try.func11, Try.ntmps11
  go_wp2_with fail
  refine (toByteS_any _ _ _ _ l h (Nat.le_refl _) (by omega)).mono ?_
  rintro e w1 ⟨rfl, hh1, hb1⟩
  have hS := placeOf'_any w1 (w.heap.size + 1) _ l.length l (Ints.ofHas hh1 rfl h.1 (by omega)) (Nat.le_refl _) hlen s hs
  have HI := hidden (fun (W : World) (hi : Ints W .u8 (w1.heap.size + 1) (some ⟨w1.heap.size, 0, none⟩) l) (hB : w1.heap.size + 1 ≤ W.heap.size) => hI W (w1.heap.size + 1) (some ⟨w1.heap.size, 0, none⟩) l.length l hi hB (Nat.le_refl _) hlen s hs)
  obtain ⟨q, hq⟩ : ∃ q, firstAt l s 0 l.length = q := ⟨_, rfl⟩
  rw [hq] at hS HI
  clear hI hs hq
  go_wp2_with fail
  refine hS.mono ?_
  clear hS
  rintro e _ ⟨rfl, rfl⟩
  go_wp2_with fail
  refine (toByteS_any w1 w.heap.size a cap l (h.below hb1) hb1.size (by omega)).mono ?_
  rintro e w2 ⟨rfl, hh2, hb2⟩
  have hi2 := Ints.ofHas (B := w1.heap.size + 1) hh2 rfl h.1 (by omega)
  have hl2 : w1.heap.size + 1 ≤ w2.heap.size := Has.lt hh2
  go_wp2_with fail
  refine (HI.out w2 hi2 hl2).mono ?_
  rintro e w3 ⟨rfl, hb3⟩
  have hb13 : Below w.heap.size w w3 := hb1.trans ((hb2.trans (hb3.mono hb2.size)).mono hb1.size)
  have hb23 := hb2.trans (hb3.mono hb2.size)
  go_wp2_with fail
  refine (toByteS_any w3 w.heap.size a cap l (h.below hb13) hb13.size (by omega)).mono ?_
  rintro e w4 ⟨rfl, hh4, hb4⟩
  have hi24 := (hi2.below (hb3.mono hl2)).below (hb4.mono (Nat.le_trans hl2 hb3.size))
  have hi4 := Ints.ofHas (B := w3.heap.size + 1) hh4 rfl h.1 (by omega)
  go_wp2_with fail
  refine (eqByteS_yes w4 (w1.heap.size + 1) (w3.heap.size + 1) _ _ _ _ l hi24 hi4 hlen).mono ?_
  rintro e _ ⟨rfl, m, rfl⟩
  have hfin := hidden (below_drewN (hb13.trans (hb4.mono hb13.size)) m)
  clear hi24 hi4 hi2 hh1 hh2 hh4 hb1 hb2 hb3 hb4 hb13 hb23 h
  go_wp2_with fail
  go_ret
  exact ⟨rfl, hfin.out⟩

set_option maxHeartbeats 400000 in
theorem law_ExactNameAt (hI : WantNameAt) (w : World) (a : Option Addr) (len cap : Nat) (n : Int) (hn0 : -9223372036854775808 ≤ n) (hn1 : n ≤ 9223372036854775807) (h : ∃ l, Ints w .u8 w.heap.size a l ∧ l.length = len ∧ len ≤ 9223372036854775807) :
    Calls Try.prog 10 #[.slice a len cap, .int .i64 n] w fun e w' => e = .returned (.bool true) ∧ Below w.heap.size w w' := by
  obtain ⟨l, h, rfl, hlen⟩ := h
  by_cases hbig : 1048576 < l.length
  · have hd : (1048576 : Int) < (l.length : Int) := by omega
    go_enter Try.func10, Try.ntmps10
    go_wp2
    go_ret
    exact ⟨rfl, Below.refl _ _⟩
  have hd : ¬ (1048576 : Int) < (l.length : Int) := by omega
  go_enter Try.func10, Try.ntmps10
  go_wp2_with fail
  refine (toByteS_any _ _ _ _ l h (Nat.le_refl _) (by omega)).mono ?_
  rintro e w1 ⟨rfl, hh1, hb1⟩
  have hS := nameAt'_any w1 (w.heap.size + 1) _ l.length l (Ints.ofHas hh1 rfl h.1 (by omega)) (Nat.le_refl _) hlen n
  have HI := hidden (fun (W : World) (hi : Ints W .u8 (w1.heap.size + 1) (some ⟨w1.heap.size, 0, none⟩) l) (hB : w1.heap.size + 1 ≤ W.heap.size) => hI W (w1.heap.size + 1) (some ⟨w1.heap.size, 0, none⟩) l.length l hi hB (Nat.le_refl _) hlen n hn0 hn1)
  obtain ⟨s, b, hv, hbq⟩ : ∃ (s : ByteArray) (b : Bool), textVal (textAt l n) = .tuple #[.string s, .bool b] ∧ (s.toList == s.toList) = true := by
    rcases textAt l n with _ | t
    · exact ⟨_, _, rfl, beq_str _⟩
    · exact ⟨_, _, rfl, beq_str _⟩
  rw [hv] at hS HI
  clear hI hv
  go_wp2_with fail
  refine hS.mono ?_
  clear hS
  rintro e _ ⟨rfl, rfl⟩
  go_wp2_with fail
  refine (toByteS_any w1 w.heap.size a cap l (h.below hb1) hb1.size (by omega)).mono ?_
  rintro e w2 ⟨rfl, hh2, hb2⟩
  have hi2 := Ints.ofHas (B := w1.heap.size + 1) hh2 rfl h.1 (by omega)
  have hl2 : w1.heap.size + 1 ≤ w2.heap.size := Has.lt hh2
  go_wp2_with fail
  refine (HI.out w2 hi2 hl2).mono ?_
  rintro e w3 ⟨rfl, hb3⟩
  have hb13 : Below w.heap.size w w3 := hb1.trans ((hb2.trans (hb3.mono hb2.size)).mono hb1.size)
  have hb23 := hb2.trans (hb3.mono hb2.size)
  go_wp2_with fail
  refine (toByteS_any w3 w.heap.size a cap l (h.below hb13) hb13.size (by omega)).mono ?_
  rintro e w4 ⟨rfl, hh4, hb4⟩
  have hi24 := (hi2.below (hb3.mono hl2)).below (hb4.mono (Nat.le_trans hl2 hb3.size))
  have hi4 := Ints.ofHas (B := w3.heap.size + 1) hh4 rfl h.1 (by omega)
  go_wp2_with fail
  refine (eqByteS_yes w4 (w1.heap.size + 1) (w3.heap.size + 1) _ _ _ _ l hi24 hi4 hlen).mono ?_
  rintro e _ ⟨rfl, m, rfl⟩
  have hfin := hidden (below_drewN (hb13.trans (hb4.mono hb13.size)) m)
  clear hi24 hi4 hi2 hh1 hh2 hh4 hb1 hb2 hb3 hb4 hb13 hb23 h
  go_wp2_with fail
  go_ret
  exact ⟨rfl, hfin.out⟩

end Go.Proofs.Ytdaddhliedocaaa
