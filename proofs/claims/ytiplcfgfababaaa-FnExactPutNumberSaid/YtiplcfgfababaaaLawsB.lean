/-
  The walk of FnExactPutNumber.
-/
import Derived.Test.YtiplcfgfababaaaMarks
import Derived.Test.YtiplcfgfababaaaPutS
namespace Go.Proofs.Ytiplcfgfababaaa
open Go.RowKit

set_option maxHeartbeats 2000000 in
theorem law_ExactPutNumber (n k : Int) (w : World) :
    Calls Try.prog 8 #[.int .i64 n, .int .i64 k] w fun e w' => e = .returned (.bool true) ∧ Below w.heap.size w w' := by
  have hs := putList_short n k
  obtain ⟨L, hL⟩ : ∃ L, L = (putList n k).length := ⟨_, rfl⟩
  have HL := hidden hL
  clear hL
  rw [← HL.out] at hs
  go_enter Try.func8, Try.ntmps8
  go_wp2_with fail
  refine (putNumber'_any n k w).mono ?_
  rintro e w1 ⟨a1, c1, he1, hi1, hb1⟩
  rw [← HL.out] at he1
  obtain rfl := he1
  go_wp2_with fail
  refine (putNumber_any n k w1).mono ?_
  rintro e w2 ⟨a2, he2, ho2, hb2⟩
  rw [← HL.out] at he2
  obtain rfl := he2
  go_wp2_with fail
  have hq := eqByteS_yes w2 w2.heap.size w1.heap.size a2 a1 L c1 (putList n k) ho2.ints (hi1.below hb2) (by rw [← HL.out]; omega)
  rw [← HL.out] at hq
  refine hq.mono ?_
  clear hq
  rintro e _ ⟨rfl, m1, rfl⟩
  go_wp2_with fail
  have ho2' : Hid (0 < L → a2 = some ⟨w1.heap.size, 0, none⟩ ∧ ∃ cs, Has (w2.drewN m1) w1.heap.size 5 cs ∧ cs.size = L) := fun h => by
    obtain ⟨h1, h2⟩ := ho2 (by rw [← HL.out]; exact h)
    exact ⟨h1, _, h2.drewN m1, by simp [← HL.out]⟩
  have HA : Hid (0 < L → a2 = some ⟨w1.heap.size, 0, none⟩) := fun h => (ho2'.out h).1
  refine (mark_any (w2.drewN m1) w1.heap.size L L a2 1 ho2'.out (by omega) (by omega)).mono ?_
  clear ho2' ho2
  rintro e w3 ⟨rfl, hm3, hg3⟩
  have HM := hidden hm3
  have hb13 : Below w1.heap.size w1 w3 := (below_drewN hb2 m1).grown hg3 hb2.size (by simp)
  have hbw3 : Below w.heap.size w w3 := hb1.trans (hb13.mono hb1.size)
  have hs3 : w1.heap.size ≤ w3.heap.size := hb13.size
  clear hm3 hg3 hb2
  go_wp2_with fail
  refine (held_any w3 w1.heap.size L L a2 1 (fun h => ⟨HA.out h, HM.out h⟩) (by omega) (by omega)).mono ?_
  rintro e _ ⟨rfl, rfl⟩
  go_wp2_with fail
  refine (putNumber_any n k w3).mono ?_
  rintro e w4 ⟨a4, he4, ho4, hb4⟩
  rw [← HL.out] at he4
  obtain rfl := he4
  have hi4 := hi1.below (hb13.trans (hb4.mono hs3))
  have HM4 : Hid (0 < L → Has w4 w1.heap.size 5 ((marks 1 L).map (Value.int .u8)).toArray) := fun h => (HM.out h).below hb4 (HM.out h).lt
  have hbw4 := hbw3.trans (hb4.mono hbw3.size)
  have hq := eqByteS_yes w4 w4.heap.size w1.heap.size a4 a1 L c1 (putList n k) ho4.ints hi4 (by rw [← HL.out]; omega)
  rw [← HL.out] at hq
  clear hb4 hi4 hi1 hb13 HM ho4 hb1 hbw3 hs3
  have HQ := hidden hq
  clear hq
  go_wp2_with fail
  refine HQ.out.mono ?_
  clear HQ
  rintro e _ ⟨rfl, m2, rfl⟩
  go_wp2_with fail
  refine (held_any (w4.drewN m2) w1.heap.size L L a2 1 (fun h => ⟨HA.out h, (HM4.out h).drewN m2⟩) (by omega) (by omega)).mono ?_
  rintro e _ ⟨rfl, rfl⟩
  go_wp2_with fail
  go_ret
  exact ⟨rfl, below_drewN hbw4 m2⟩

end Go.Proofs.Ytiplcfgfababaaa
