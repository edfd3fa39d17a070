/-
  Contracts of the small functions of numbers (impl and spec): what each returns for every argument; none of them touches memory. One contract for each of the small functions of numbers, for all arguments; and that the laws' fixed answer is right.
-/
import Derived.Test.YtiocchmlmcoieaaMem
/- Contracts of the small functions of numbers (impl and spec): what each returns for every argument; none of them touches memory. -/
namespace Go.Proofs.Ytiocchmlmcoieaa
open Go.RowKit

theorem alignUp'_low (n to : Int) (h : n < 0) (w : World) :
    Calls Try.prog 36 #[.int .i64 n, .int .i64 to] w fun e w' => e = .returned (.int .i64 (-1)) ∧ w = w' := by
  go_enter Try.func36, Try.ntmps36
  go_wp2_with (first | (go_at_call 35; (with_reducible refine (l1In_low _ _ _ h _).mono ?_); rintro e w' ⟨rfl, rfl⟩))
  go_ret
  exact ⟨rfl, rfl⟩

theorem alignUp'_high (n to : Int) (h : 1000000 < n) (w : World) :
    Calls Try.prog 36 #[.int .i64 n, .int .i64 to] w fun e w' => e = .returned (.int .i64 (-1)) ∧ w = w' := by
  go_enter Try.func36, Try.ntmps36
  go_wp2_with (first | (go_at_call 35; (with_reducible refine (l1In_high _ _ _ h _).mono ?_); rintro e w' ⟨rfl, rfl⟩))
  go_ret
  exact ⟨rfl, rfl⟩

theorem alignUp'_no (n to : Int) (h0 : 0 ≤ n) (h : n ≤ 1000000) (h1 : (to == 1) = false) (h2 : (to == 2) = false) (h4 : (to == 4) = false) (h8 : (to == 8) = false) (w : World) :
    Calls Try.prog 36 #[.int .i64 n, .int .i64 to] w fun e w' => e = .returned (.int .i64 (-1)) ∧ w = w' := by
  have g1 : (to != 1) = true := by simp only [bne, h1]; rfl
  have g2 : (to != 2) = true := by simp only [bne, h2]; rfl
  have g4 : (to != 4) = true := by simp only [bne, h4]; rfl
  have g8 : (to != 8) = true := by simp only [bne, h8]; rfl
  go_enter Try.func36, Try.ntmps36
  go_wp2_with (first | (go_at_call 35; (with_reducible refine (l1In_yes _ _ _ h0 h _).mono ?_); rintro e w' ⟨rfl, rfl⟩))
  go_ret
  exact ⟨rfl, rfl⟩

theorem alignUp'_1 (n : Int) (h : 0 ≤ n) (h' : n ≤ 1000000) (w : World) :
    Calls Try.prog 36 #[.int .i64 n, .int .i64 1] w fun e w' => e = .returned (.int .i64 ((n + 0) / 1 * 1)) ∧ w = w' := by
  go_enter Try.func36, Try.ntmps36
  go_wp2_with (first | (go_at_call 35; (with_reducible refine (l1In_yes _ _ _ h h' _).mono ?_); rintro e w' ⟨rfl, rfl⟩))
  go_ret
  exact ⟨ret_int (by omega), rfl⟩

theorem alignUp'_2 (n : Int) (h : 0 ≤ n) (h' : n ≤ 1000000) (w : World) :
    Calls Try.prog 36 #[.int .i64 n, .int .i64 2] w fun e w' => e = .returned (.int .i64 ((n + 1) / 2 * 2)) ∧ w = w' := by
  go_enter Try.func36, Try.ntmps36
  go_wp2_with (first | (go_at_call 35; (with_reducible refine (l1In_yes _ _ _ h h' _).mono ?_); rintro e w' ⟨rfl, rfl⟩))
  go_ret
  exact ⟨ret_int (by omega), rfl⟩

theorem alignUp'_4 (n : Int) (h : 0 ≤ n) (h' : n ≤ 1000000) (w : World) :
    Calls Try.prog 36 #[.int .i64 n, .int .i64 4] w fun e w' => e = .returned (.int .i64 ((n + 3) / 4 * 4)) ∧ w = w' := by
  go_enter Try.func36, Try.ntmps36
  go_wp2_with (first | (go_at_call 35; (with_reducible refine (l1In_yes _ _ _ h h' _).mono ?_); rintro e w' ⟨rfl, rfl⟩))
  go_ret
  exact ⟨ret_int (by omega), rfl⟩

theorem alignUp'_8 (n : Int) (h : 0 ≤ n) (h' : n ≤ 1000000) (w : World) :
    Calls Try.prog 36 #[.int .i64 n, .int .i64 8] w fun e w' => e = .returned (.int .i64 ((n + 7) / 8 * 8)) ∧ w = w' := by
  go_enter Try.func36, Try.ntmps36
  go_wp2_with (first | (go_at_call 35; (with_reducible refine (l1In_yes _ _ _ h h' _).mono ?_); rintro e w' ⟨rfl, rfl⟩))
  go_ret
  exact ⟨ret_int (by omega), rfl⟩





















































































































































































































































































































































































end Go.Proofs.Ytiocchmlmcoieaa
/- One contract for each of the small functions of numbers, for all arguments; and that the laws' fixed answer is right. -/
namespace Go.Proofs.Ytiocchmlmcoieaa
open Go.RowKit

/-- What SignedOf answers. -/
def sgn (n k : Int) : Int := if k < 1 ∨ 4 < k ∨ n < 0 ∨ pw k ≤ n then 0 else if n < pw k / 2 then n else n - pw k
theorem sgn_bad {n k : Int} (h : k < 1 ∨ 4 < k ∨ n < 0 ∨ pw k ≤ n) : sgn n k = 0 := by unfold sgn; rw [if_pos h]
theorem sgn_lo {n k : Int} (h : ¬ (k < 1 ∨ 4 < k ∨ n < 0 ∨ pw k ≤ n)) (h' : n < pw k / 2) : sgn n k = n := by unfold sgn; rw [if_neg h, if_pos h']
theorem sgn_hi {n k : Int} (h : ¬ (k < 1 ∨ 4 < k ∨ n < 0 ∨ pw k ≤ n)) (h' : ¬ n < pw k / 2) : sgn n k = n - pw k := by unfold sgn; rw [if_neg h, if_neg h']
/-- What AlignUp answers. -/
def upTo (n to : Int) : Int := if n < 0 ∨ 1000000 < n then -1 else if to = 1 ∨ to = 2 ∨ to = 4 ∨ to = 8 then (n + to - 1) / to * to else -1













































































theorem alignUp_any (n to : Int) (w : World) : Calls Try.prog 31 #[.int .i64 n, .int .i64 to] w fun e w' => e = .returned (.int .i64 (upTo n to)) ∧ w = w' := by
  by_cases hn : n < 0
  · have e : upTo n to = -1 := by unfold upTo; rw [if_pos (.inl hn)]
    rw [e]; exact alignUp_low n to hn w
  by_cases hb : 1000000 < n
  · have e : upTo n to = -1 := by unfold upTo; rw [if_pos (.inr hb)]
    rw [e]; exact alignUp_high n to hb w
  have g : ¬ (n < 0 ∨ 1000000 < n) := by omega
  by_cases t1 : to = 1
  · subst t1
    have e : upTo n 1 = (n + 0) / 1 * 1 := by unfold upTo; rw [if_neg g, if_pos (by omega)]; omega
    rw [e]; exact alignUp_1 n (by omega) (by omega) w
  by_cases t2 : to = 2
  · subst t2
    have e : upTo n 2 = (n + 1) / 2 * 2 := by unfold upTo; rw [if_neg g, if_pos (by omega)]; omega
    rw [e]; exact alignUp_2 n (by omega) (by omega) w
  by_cases t4 : to = 4
  · subst t4
    have e : upTo n 4 = (n + 3) / 4 * 4 := by unfold upTo; rw [if_neg g, if_pos (by omega)]; omega
    rw [e]; exact alignUp_4 n (by omega) (by omega) w
  by_cases t8 : to = 8
  · subst t8
    have e : upTo n 8 = (n + 7) / 8 * 8 := by unfold upTo; rw [if_neg g, if_pos (by omega)]; omega
    rw [e]; exact alignUp_8 n (by omega) (by omega) w
  have e : upTo n to = -1 := by unfold upTo; rw [if_neg g, if_neg (by omega)]
  rw [e]; exact alignUp_no n to (by omega) (by omega) (by simpa using t1) (by simpa using t2) (by simpa using t4) (by simpa using t8) w

theorem alignUp'_any (n to : Int) (w : World) : Calls Try.prog 36 #[.int .i64 n, .int .i64 to] w fun e w' => e = .returned (.int .i64 (upTo n to)) ∧ w = w' := by
  by_cases hn : n < 0
  · have e : upTo n to = -1 := by unfold upTo; rw [if_pos (.inl hn)]
    rw [e]; exact alignUp'_low n to hn w
  by_cases hb : 1000000 < n
  · have e : upTo n to = -1 := by unfold upTo; rw [if_pos (.inr hb)]
    rw [e]; exact alignUp'_high n to hb w
  have g : ¬ (n < 0 ∨ 1000000 < n) := by omega
  by_cases t1 : to = 1
  · subst t1
    have e : upTo n 1 = (n + 0) / 1 * 1 := by unfold upTo; rw [if_neg g, if_pos (by omega)]; omega
    rw [e]; exact alignUp'_1 n (by omega) (by omega) w
  by_cases t2 : to = 2
  · subst t2
    have e : upTo n 2 = (n + 1) / 2 * 2 := by unfold upTo; rw [if_neg g, if_pos (by omega)]; omega
    rw [e]; exact alignUp'_2 n (by omega) (by omega) w
  by_cases t4 : to = 4
  · subst t4
    have e : upTo n 4 = (n + 3) / 4 * 4 := by unfold upTo; rw [if_neg g, if_pos (by omega)]; omega
    rw [e]; exact alignUp'_4 n (by omega) (by omega) w
  by_cases t8 : to = 8
  · subst t8
    have e : upTo n 8 = (n + 7) / 8 * 8 := by unfold upTo; rw [if_neg g, if_pos (by omega)]; omega
    rw [e]; exact alignUp'_8 n (by omega) (by omega) w
  have e : upTo n to = -1 := by unfold upTo; rw [if_neg g, if_neg (by omega)]
  rw [e]; exact alignUp'_no n to (by omega) (by omega) (by simpa using t1) (by simpa using t2) (by simpa using t4) (by simpa using t8) w

end Go.Proofs.Ytiocchmlmcoieaa
