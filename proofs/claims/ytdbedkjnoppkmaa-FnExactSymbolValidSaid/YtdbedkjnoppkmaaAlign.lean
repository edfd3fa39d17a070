/-
  Contracts of impl.AlignUp, and that the laws' fixed answer is right.
-/
import Derived.Test.YtdbedkjnoppkmaaRows
import Derived.Test.YtdbedkjnoppkmaaPlain
import Derived.WalkKit
import Derived.WalkSpells
import Derived.WalkLawsBesides
import Derived.Handy
namespace Go.Proofs.Ytdbedkjnoppkmaa
open Go.RowKit

theorem alignValid_1  (w : World) :
    Calls Try.prog 68 #[.int .i64 1] w fun e w' => e = .returned (.bool true) ∧ w = w' := by
  go_enter Try.func68, Try.ntmps68
  go_wp2
  go_ret
  exact ⟨rfl, rfl⟩

theorem alignValid_2  (w : World) :
    Calls Try.prog 68 #[.int .i64 2] w fun e w' => e = .returned (.bool true) ∧ w = w' := by
  go_enter Try.func68, Try.ntmps68
  go_wp2
  go_ret
  exact ⟨rfl, rfl⟩

theorem alignValid_4  (w : World) :
    Calls Try.prog 68 #[.int .i64 4] w fun e w' => e = .returned (.bool true) ∧ w = w' := by
  go_enter Try.func68, Try.ntmps68
  go_wp2
  go_ret
  exact ⟨rfl, rfl⟩

theorem alignValid_8  (w : World) :
    Calls Try.prog 68 #[.int .i64 8] w fun e w' => e = .returned (.bool true) ∧ w = w' := by
  go_enter Try.func68, Try.ntmps68
  go_wp2
  go_ret
  exact ⟨rfl, rfl⟩

theorem alignValid_no (to : Int) (h1 : (to == 1) = false) (h2 : (to == 2) = false) (h4 : (to == 4) = false) (h8 : (to == 8) = false) (w : World) :
    Calls Try.prog 68 #[.int .i64 to] w fun e w' => e = .returned (.bool false) ∧ w = w' := by
  go_enter Try.func68, Try.ntmps68
  go_wp2
  go_ret
  exact ⟨rfl, rfl⟩

theorem alignUp_low (n to : Int) (h : n < 0) (w : World) :
    Calls Try.prog 44 #[.int .i64 n, .int .i64 to] w fun e w' => e = .returned (.int .i64 (-1)) ∧ w = w' := by
  go_enter Try.func44, Try.ntmps44
  go_wp2
  go_ret
  exact ⟨rfl, rfl⟩

theorem alignUp_high (n to : Int) (h : 1000000 < n) (w : World) :
    Calls Try.prog 44 #[.int .i64 n, .int .i64 to] w fun e w' => e = .returned (.int .i64 (-1)) ∧ w = w' := by
  go_enter Try.func44, Try.ntmps44
  go_wp2
  go_ret
  exact ⟨rfl, rfl⟩

theorem alignUp_no (n to : Int) (h0 : 0 ≤ n) (h : n ≤ 1000000) (h1 : (to == 1) = false) (h2 : (to == 2) = false) (h4 : (to == 4) = false) (h8 : (to == 8) = false) (w : World) :
    Calls Try.prog 44 #[.int .i64 n, .int .i64 to] w fun e w' => e = .returned (.int .i64 (-1)) ∧ w = w' := by
  go_enter Try.func44, Try.ntmps44
  go_wp2_with (first | (go_at_call 68; (with_reducible refine (alignValid_no _ h1 h2 h4 h8 _).mono ?_); rintro e w' ⟨rfl, rfl⟩))
  go_ret
  exact ⟨rfl, rfl⟩

theorem alignUp_1 (n : Int) (h : 0 ≤ n) (h' : n ≤ 1000000) (w : World) :
    Calls Try.prog 44 #[.int .i64 n, .int .i64 1] w fun e w' => e = .returned (.int .i64 ((n + 0) / 1 * 1)) ∧ w = w' := by
  go_enter Try.func44, Try.ntmps44
  go_wp2_with (first | (go_at_call 68; (with_reducible refine (alignValid_1 _).mono ?_); rintro e w' ⟨rfl, rfl⟩))
  go_ret
  exact ⟨ret_int (by rw [i64_clear _ _ 0 (by omega) (by decide) (by omega) (by omega)]; omega), rfl⟩

theorem alignUp_2 (n : Int) (h : 0 ≤ n) (h' : n ≤ 1000000) (w : World) :
    Calls Try.prog 44 #[.int .i64 n, .int .i64 2] w fun e w' => e = .returned (.int .i64 ((n + 1) / 2 * 2)) ∧ w = w' := by
  go_enter Try.func44, Try.ntmps44
  go_wp2_with (first | (go_at_call 68; (with_reducible refine (alignValid_2 _).mono ?_); rintro e w' ⟨rfl, rfl⟩))
  go_ret
  exact ⟨ret_int (by rw [i64_clear _ _ 1 (by omega) (by decide) (by omega) (by omega)]; omega), rfl⟩

theorem alignUp_4 (n : Int) (h : 0 ≤ n) (h' : n ≤ 1000000) (w : World) :
    Calls Try.prog 44 #[.int .i64 n, .int .i64 4] w fun e w' => e = .returned (.int .i64 ((n + 3) / 4 * 4)) ∧ w = w' := by
  go_enter Try.func44, Try.ntmps44
  go_wp2_with (first | (go_at_call 68; (with_reducible refine (alignValid_4 _).mono ?_); rintro e w' ⟨rfl, rfl⟩))
  go_ret
  exact ⟨ret_int (by rw [i64_clear _ _ 2 (by omega) (by decide) (by omega) (by omega)]; omega), rfl⟩

theorem alignUp_8 (n : Int) (h : 0 ≤ n) (h' : n ≤ 1000000) (w : World) :
    Calls Try.prog 44 #[.int .i64 n, .int .i64 8] w fun e w' => e = .returned (.int .i64 ((n + 7) / 8 * 8)) ∧ w = w' := by
  go_enter Try.func44, Try.ntmps44
  go_wp2_with (first | (go_at_call 68; (with_reducible refine (alignValid_8 _).mono ?_); rintro e w' ⟨rfl, rfl⟩))
  go_ret
  exact ⟨ret_int (by rw [i64_clear _ _ 3 (by omega) (by decide) (by omega) (by omega)]; omega), rfl⟩

theorem alive_any (w : World) : Calls Try.prog 13 #[] w fun e w' => e = .returned (.bool true) ∧ w = w' := by
  go_enter Try.func13, Try.ntmps13
  go_wp2_with (first | (go_at_call 44; (with_reducible refine (alignUp_4 5 (by omega) (by omega) _).mono ?_); rintro e w' ⟨rfl, rfl⟩))
  go_ret
  exact ⟨rfl, rfl⟩

end Go.Proofs.Ytdbedkjnoppkmaa
