/-
  Contracts of the small functions of numbers (impl and spec): what each returns for every argument; none of them touches memory.
-/
import Derived.Test.YtdbedkjnoppkmaaMem
namespace Go.Proofs.Ytdbedkjnoppkmaa
open Go.RowKit

theorem alignUp'_low (n to : Int) (h : n < 0) (w : World) :
    Calls Try.prog 70 #[.int .i64 n, .int .i64 to] w fun e w' => e = .returned (.int .i64 (-1)) ∧ w = w' := by
  go_enter Try.func70, Try.ntmps70
  go_wp2_with (first | (go_at_call 42; (with_reducible refine (l1In_low _ _ _ h _).mono ?_); rintro e w' ⟨rfl, rfl⟩))
  go_ret
  exact ⟨rfl, rfl⟩

theorem alignUp'_high (n to : Int) (h : 1000000 < n) (w : World) :
    Calls Try.prog 70 #[.int .i64 n, .int .i64 to] w fun e w' => e = .returned (.int .i64 (-1)) ∧ w = w' := by
  go_enter Try.func70, Try.ntmps70
  go_wp2_with (first | (go_at_call 42; (with_reducible refine (l1In_high _ _ _ h _).mono ?_); rintro e w' ⟨rfl, rfl⟩))
  go_ret
  exact ⟨rfl, rfl⟩

theorem alignUp'_no (n to : Int) (h0 : 0 ≤ n) (h : n ≤ 1000000) (h1 : (to == 1) = false) (h2 : (to == 2) = false) (h4 : (to == 4) = false) (h8 : (to == 8) = false) (w : World) :
    Calls Try.prog 70 #[.int .i64 n, .int .i64 to] w fun e w' => e = .returned (.int .i64 (-1)) ∧ w = w' := by
  have g1 : (to != 1) = true := by simp only [bne, h1]; rfl
  have g2 : (to != 2) = true := by simp only [bne, h2]; rfl
  have g4 : (to != 4) = true := by simp only [bne, h4]; rfl
  have g8 : (to != 8) = true := by simp only [bne, h8]; rfl
  go_enter Try.func70, Try.ntmps70
  go_wp2_with (first | (go_at_call 42; (with_reducible refine (l1In_yes _ _ _ h0 h _).mono ?_); rintro e w' ⟨rfl, rfl⟩))
  go_ret
  exact ⟨rfl, rfl⟩

theorem alignUp'_1 (n : Int) (h : 0 ≤ n) (h' : n ≤ 1000000) (w : World) :
    Calls Try.prog 70 #[.int .i64 n, .int .i64 1] w fun e w' => e = .returned (.int .i64 ((n + 0) / 1 * 1)) ∧ w = w' := by
  go_enter Try.func70, Try.ntmps70
  go_wp2_with (first | (go_at_call 42; (with_reducible refine (l1In_yes _ _ _ h h' _).mono ?_); rintro e w' ⟨rfl, rfl⟩))
  go_ret
  exact ⟨ret_int (by omega), rfl⟩

theorem alignUp'_2 (n : Int) (h : 0 ≤ n) (h' : n ≤ 1000000) (w : World) :
    Calls Try.prog 70 #[.int .i64 n, .int .i64 2] w fun e w' => e = .returned (.int .i64 ((n + 1) / 2 * 2)) ∧ w = w' := by
  go_enter Try.func70, Try.ntmps70
  go_wp2_with (first | (go_at_call 42; (with_reducible refine (l1In_yes _ _ _ h h' _).mono ?_); rintro e w' ⟨rfl, rfl⟩))
  go_ret
  exact ⟨ret_int (by omega), rfl⟩

theorem alignUp'_4 (n : Int) (h : 0 ≤ n) (h' : n ≤ 1000000) (w : World) :
    Calls Try.prog 70 #[.int .i64 n, .int .i64 4] w fun e w' => e = .returned (.int .i64 ((n + 3) / 4 * 4)) ∧ w = w' := by
  go_enter Try.func70, Try.ntmps70
  go_wp2_with (first | (go_at_call 42; (with_reducible refine (l1In_yes _ _ _ h h' _).mono ?_); rintro e w' ⟨rfl, rfl⟩))
  go_ret
  exact ⟨ret_int (by omega), rfl⟩

theorem alignUp'_8 (n : Int) (h : 0 ≤ n) (h' : n ≤ 1000000) (w : World) :
    Calls Try.prog 70 #[.int .i64 n, .int .i64 8] w fun e w' => e = .returned (.int .i64 ((n + 7) / 8 * 8)) ∧ w = w' := by
  go_enter Try.func70, Try.ntmps70
  go_wp2_with (first | (go_at_call 42; (with_reducible refine (l1In_yes _ _ _ h h' _).mono ?_); rintro e w' ⟨rfl, rfl⟩))
  go_ret
  exact ⟨ret_int (by omega), rfl⟩





















































































































































































































































































































































































end Go.Proofs.Ytdbedkjnoppkmaa
