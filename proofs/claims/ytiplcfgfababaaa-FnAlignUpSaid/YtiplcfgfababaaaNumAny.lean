/-
  One contract for each of the small functions of numbers, for all arguments; and that the laws' fixed answer is right.
-/
import Derived.Test.YtiplcfgfababaaaNum
namespace Go.Proofs.Ytiplcfgfababaaa
open Go.RowKit

theorem alive_any (w : World) : Calls Try.prog 16 #[] w fun e w' => e = .returned (.bool true) ∧ w = w' := by
  go_enter Try.func16, Try.ntmps16
  go_wp2_with (first | (go_at_call 24; (with_reducible refine (alignUp_4 5 (by omega) (by omega) _).mono ?_); rintro e w' ⟨rfl, rfl⟩))
  go_ret
  exact ⟨rfl, rfl⟩

/-- What SignedOf answers. -/
def sgn (n k : Int) : Int := if k < 1 ∨ 4 < k ∨ n < 0 ∨ pw k ≤ n then 0 else if n < pw k / 2 then n else n - pw k
theorem sgn_bad {n k : Int} (h : k < 1 ∨ 4 < k ∨ n < 0 ∨ pw k ≤ n) : sgn n k = 0 := by unfold sgn; rw [if_pos h]
theorem sgn_lo {n k : Int} (h : ¬ (k < 1 ∨ 4 < k ∨ n < 0 ∨ pw k ≤ n)) (h' : n < pw k / 2) : sgn n k = n := by unfold sgn; rw [if_neg h, if_pos h']
theorem sgn_hi {n k : Int} (h : ¬ (k < 1 ∨ 4 < k ∨ n < 0 ∨ pw k ≤ n)) (h' : ¬ n < pw k / 2) : sgn n k = n - pw k := by unfold sgn; rw [if_neg h, if_neg h']
/-- What AlignUp answers. -/
def upTo (n to : Int) : Int := if n < 0 ∨ 1000000 < n then -1 else if to = 1 ∨ to = 2 ∨ to = 4 ∨ to = 8 then (n + to - 1) / to * to else -1

theorem signedOf_any (n k : Int) (w : World) : Calls Try.prog 21 #[.int .i64 n, .int .i64 k] w fun e w' => e = .returned (.int .i64 (sgn n k)) ∧ w = w' := by
  by_cases hk : k < 1 ∨ 4 < k
  · rw [sgn_bad (by omega)]; exact signedOf_bad n k hk w
  have hc : k = 1 ∨ k = 2 ∨ k = 3 ∨ k = 4 := by omega
  rcases hc with rfl | rfl | rfl | rfl
  · have hp : pw 1 = 256 := rfl
    by_cases hn : n < 0
    · rw [sgn_bad (by omega)]; exact signedOf_neg n 1 (by omega) (by omega) hn w
    by_cases hb : 256 ≤ n
    · rw [sgn_bad (by omega)]; exact signedOf_big1 n hb w
    by_cases hl : n < 128
    · rw [sgn_lo (by omega) (by omega)]; exact signedOf_lo1 n (by omega) hl w
    · rw [sgn_hi (by omega) (by omega)]; exact signedOf_hi1 n (by omega) (by omega) w
  · have hp : pw 2 = 65536 := rfl
    by_cases hn : n < 0
    · rw [sgn_bad (by omega)]; exact signedOf_neg n 2 (by omega) (by omega) hn w
    by_cases hb : 65536 ≤ n
    · rw [sgn_bad (by omega)]; exact signedOf_big2 n hb w
    by_cases hl : n < 32768
    · rw [sgn_lo (by omega) (by omega)]; exact signedOf_lo2 n (by omega) hl w
    · rw [sgn_hi (by omega) (by omega)]; exact signedOf_hi2 n (by omega) (by omega) w
  · have hp : pw 3 = 16777216 := rfl
    by_cases hn : n < 0
    · rw [sgn_bad (by omega)]; exact signedOf_neg n 3 (by omega) (by omega) hn w
    by_cases hb : 16777216 ≤ n
    · rw [sgn_bad (by omega)]; exact signedOf_big3 n hb w
    by_cases hl : n < 8388608
    · rw [sgn_lo (by omega) (by omega)]; exact signedOf_lo3 n (by omega) hl w
    · rw [sgn_hi (by omega) (by omega)]; exact signedOf_hi3 n (by omega) (by omega) w
  · have hp : pw 4 = 4294967296 := rfl
    by_cases hn : n < 0
    · rw [sgn_bad (by omega)]; exact signedOf_neg n 4 (by omega) (by omega) hn w
    by_cases hb : 4294967296 ≤ n
    · rw [sgn_bad (by omega)]; exact signedOf_big4 n hb w
    by_cases hl : n < 2147483648
    · rw [sgn_lo (by omega) (by omega)]; exact signedOf_lo4 n (by omega) hl w
    · rw [sgn_hi (by omega) (by omega)]; exact signedOf_hi4 n (by omega) (by omega) w

theorem signedOf'_any (n k : Int) (w : World) : Calls Try.prog 22 #[.int .i64 n, .int .i64 k] w fun e w' => e = .returned (.int .i64 (sgn n k)) ∧ w = w' := by
  by_cases hk : k < 1 ∨ 4 < k
  · rw [sgn_bad (by omega)]; exact signedOf'_bad n k hk w
  have hc : k = 1 ∨ k = 2 ∨ k = 3 ∨ k = 4 := by omega
  rcases hc with rfl | rfl | rfl | rfl
  · have hp : pw 1 = 256 := rfl
    by_cases hn : n < 0
    · rw [sgn_bad (by omega)]; exact signedOf'_neg1 n hn w
    by_cases hb : 256 ≤ n
    · rw [sgn_bad (by omega)]; exact signedOf'_big1 n hb w
    by_cases hl : n < 128
    · rw [sgn_lo (by omega) (by omega)]; exact signedOf'_lo1 n (by omega) hl w
    · rw [sgn_hi (by omega) (by omega)]; exact signedOf'_hi1 n (by omega) (by omega) w
  · have hp : pw 2 = 65536 := rfl
    by_cases hn : n < 0
    · rw [sgn_bad (by omega)]; exact signedOf'_neg2 n hn w
    by_cases hb : 65536 ≤ n
    · rw [sgn_bad (by omega)]; exact signedOf'_big2 n hb w
    by_cases hl : n < 32768
    · rw [sgn_lo (by omega) (by omega)]; exact signedOf'_lo2 n (by omega) hl w
    · rw [sgn_hi (by omega) (by omega)]; exact signedOf'_hi2 n (by omega) (by omega) w
  · have hp : pw 3 = 16777216 := rfl
    by_cases hn : n < 0
    · rw [sgn_bad (by omega)]; exact signedOf'_neg3 n hn w
    by_cases hb : 16777216 ≤ n
    · rw [sgn_bad (by omega)]; exact signedOf'_big3 n hb w
    by_cases hl : n < 8388608
    · rw [sgn_lo (by omega) (by omega)]; exact signedOf'_lo3 n (by omega) hl w
    · rw [sgn_hi (by omega) (by omega)]; exact signedOf'_hi3 n (by omega) (by omega) w
  · have hp : pw 4 = 4294967296 := rfl
    by_cases hn : n < 0
    · rw [sgn_bad (by omega)]; exact signedOf'_neg4 n hn w
    by_cases hb : 4294967296 ≤ n
    · rw [sgn_bad (by omega)]; exact signedOf'_big4 n hb w
    by_cases hl : n < 2147483648
    · rw [sgn_lo (by omega) (by omega)]; exact signedOf'_lo4 n (by omega) hl w
    · rw [sgn_hi (by omega) (by omega)]; exact signedOf'_hi4 n (by omega) (by omega) w

theorem alignUp_any (n to : Int) (w : World) : Calls Try.prog 24 #[.int .i64 n, .int .i64 to] w fun e w' => e = .returned (.int .i64 (upTo n to)) ∧ w = w' := by
  by_cases hn : n < 0
  · have e : upTo n to = -1 := by unfold upTo; rw [if_pos (.inl hn)]
    rw [e]; exact alignUp_low n to hn w
  by_cases hb : 1000000 < n
  · have e : upTo n to = -1 := by unfold upTo; rw [if_pos (.inr hb)]
    rw [e]; exact alignUp_high n to hb w
  have g : ¬ (n < 0 ∨ 1000000 < n) := by omega
  by_cases t1 : to = 1
  · subst t1
    have e : upTo n 1 = (n + 0) / 1 * 1 := by unfold upTo; rw [if_neg g, if_pos (by omega)]; omega
    rw [e]; exact alignUp_1 n (by omega) (by omega) w
  by_cases t2 : to = 2
  · subst t2
    have e : upTo n 2 = (n + 1) / 2 * 2 := by unfold upTo; rw [if_neg g, if_pos (by omega)]; omega
    rw [e]; exact alignUp_2 n (by omega) (by omega) w
  by_cases t4 : to = 4
  · subst t4
    have e : upTo n 4 = (n + 3) / 4 * 4 := by unfold upTo; rw [if_neg g, if_pos (by omega)]; omega
    rw [e]; exact alignUp_4 n (by omega) (by omega) w
  by_cases t8 : to = 8
  · subst t8
    have e : upTo n 8 = (n + 7) / 8 * 8 := by unfold upTo; rw [if_neg g, if_pos (by omega)]; omega
    rw [e]; exact alignUp_8 n (by omega) (by omega) w
  have e : upTo n to = -1 := by unfold upTo; rw [if_neg g, if_neg (by omega)]
  rw [e]; exact alignUp_no n to (by omega) (by omega) (by simpa using t1) (by simpa using t2) (by simpa using t4) (by simpa using t8) w

theorem alignUp'_any (n to : Int) (w : World) : Calls Try.prog 25 #[.int .i64 n, .int .i64 to] w fun e w' => e = .returned (.int .i64 (upTo n to)) ∧ w = w' := by
  by_cases hn : n < 0
  · have e : upTo n to = -1 := by unfold upTo; rw [if_pos (.inl hn)]
    rw [e]; exact alignUp'_low n to hn w
  by_cases hb : 1000000 < n
  · have e : upTo n to = -1 := by unfold upTo; rw [if_pos (.inr hb)]
    rw [e]; exact alignUp'_high n to hb w
  have g : ¬ (n < 0 ∨ 1000000 < n) := by omega
  by_cases t1 : to = 1
  · subst t1
    have e : upTo n 1 = (n + 0) / 1 * 1 := by unfold upTo; rw [if_neg g, if_pos (by omega)]; omega
    rw [e]; exact alignUp'_1 n (by omega) (by omega) w
  by_cases t2 : to = 2
  · subst t2
    have e : upTo n 2 = (n + 1) / 2 * 2 := by unfold upTo; rw [if_neg g, if_pos (by omega)]; omega
    rw [e]; exact alignUp'_2 n (by omega) (by omega) w
  by_cases t4 : to = 4
  · subst t4
    have e : upTo n 4 = (n + 3) / 4 * 4 := by unfold upTo; rw [if_neg g, if_pos (by omega)]; omega
    rw [e]; exact alignUp'_4 n (by omega) (by omega) w
  by_cases t8 : to = 8
  · subst t8
    have e : upTo n 8 = (n + 7) / 8 * 8 := by unfold upTo; rw [if_neg g, if_pos (by omega)]; omega
    rw [e]; exact alignUp'_8 n (by omega) (by omega) w
  have e : upTo n to = -1 := by unfold upTo; rw [if_neg g, if_neg (by omega)]
  rw [e]; exact alignUp'_no n to (by omega) (by omega) (by simpa using t1) (by simpa using t2) (by simpa using t4) (by simpa using t8) w

end Go.Proofs.Ytiplcfgfababaaa
