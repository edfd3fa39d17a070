/-
  Contracts of the draws of numbers.
-/
import Derived.Test.YtiplcfgfababaaaDraw
namespace Go.Proofs.Ytiplcfgfababaaa
open Go.RowKit

set_option maxHeartbeats 2000000 in
theorem drawPutNumber_any (w : World) (a : Option Addr) (cap : Nat) (l : List Int) (h : Ints w .u8 w.heap.size a l) (hcap : l.length ≤ cap) (hlen : cap ≤ 9223372036854775807) :
    Calls Try.prog 12 #[.slice a l.length cap] w fun e w' => ∃ n k : Int, e = .returned (.tuple #[.int .i64 n, .int .i64 k]) ∧ Below w.heap.size w w' := by
  go_enter Try.func12, Try.ntmps12
  go_wp2_with fail
  refine (l20Open_any w a cap l h hcap hlen).mono ?_
  rintro e w1 ⟨rfl, hr1, hb1⟩
  clear h
  go_wp2_with fail
  refine (pick_any _ w.heap.size w.heap.size 0 8 ((hr1.alloc _).alloc _) (by omega) (by omega) (by omega)).mono ?_
  rintro e w2 ⟨x, rfl, hx0, hx8, hr2, hg2⟩
  obtain ⟨i, rfl⟩ := Int.eq_ofNat_of_zero_le hx0
  have s1 := hr1.lt
  obtain ⟨y, hy, hy0, hy6⟩ := lit_read [0, 1, 1, 2, 3, 3, 4, 5] 0 6 ((Has.new _ _ _).grown hg2 (by simp; omega)) rfl (by decide) i (by simp; omega)
  rw [World.size_alloc] at hy
  obtain ⟨j, rfl⟩ := Int.eq_ofNat_of_zero_le hy0
  obtain ⟨z, hz, hz0, hz6⟩ := lit_read [1, 2, 3, 4, 0, 5] 0 6 (((Has.new _ _ _).alloc _).grown hg2 (by simp; omega)) rfl (by decide) j (by simp; omega)
  have hb2 : Below w.heap.size w w2 := ((hb1.alloc (by omega) _).alloc (by simp; omega) _).grown hg2 (by simp; omega) (by simp)
  have s2 := hr2.lt
  clear hg2 hr1 hb1 s1
  go_wp2_with fail
  refine (pick_any _ w.heap.size w.heap.size _ 256 hr2 (by omega) (by omega) (by omega)).mono ?_
  rintro e w3 ⟨x1, rfl, p1, q1, hr3, hg3⟩
  have hb3 := hb2.grown hg3 (by omega) (by simp)
  clear hg3 hr2 hb2 hy hz hy6 hz6
  go_wp2_with fail
  refine (pick_any _ w.heap.size w.heap.size _ 256 hr3 (by omega) (by omega) (by omega)).mono ?_
  rintro e w4 ⟨x2, rfl, p2, q2, hr4, hg4⟩
  have hb4 := hb3.grown hg4 hb3.size (by simp)
  clear hg4 hr3 hb3
  go_wp2_with fail
  refine (pick_any _ w.heap.size w.heap.size _ 256 hr4 (by omega) (by omega) (by omega)).mono ?_
  rintro e w5 ⟨x3, rfl, p3, q3, hr5, hg5⟩
  have hb5 := hb4.grown hg5 hb4.size (by simp)
  clear hg5 hr4 hb4
  go_wp2_with fail
  refine (pick_any _ w.heap.size w.heap.size _ 10 (hr5.alloc _) (by omega) (by omega) (by omega)).mono ?_
  rintro e w6 ⟨x4, rfl, p4, q4, hr6, hg6⟩
  obtain ⟨m, rfl⟩ := Int.eq_ofNat_of_zero_le p4
  have s5 := hr5.lt
  obtain ⟨v, hv⟩ := lit_some [x1, x2 * 257, x3 * 70000, 0, 255, 256, 65535, -1, 4294967295, 4294967296] ((Has.new _ _ _).grown hg6 (by simp; omega)) rfl m (by simp; omega)
  have hb6 := (hb5.alloc hb5.size _).grown hg6 (by simp; omega) (by simp)
  clear hg6 hr5 hb5
  go_wp2_with fail
  go_ret2
  exact ⟨_, _, rfl, hb6⟩

end Go.Proofs.Ytiplcfgfababaaa
