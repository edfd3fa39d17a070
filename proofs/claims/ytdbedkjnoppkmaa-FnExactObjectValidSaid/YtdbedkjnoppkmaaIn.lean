/-
  Contract of the model's test of bounds.
-/
import Derived.Test.YtdbedkjnoppkmaaRows
import Derived.Test.YtdbedkjnoppkmaaPlain
import Derived.WalkKit
import Derived.WalkSpells
import Derived.WalkLawsBesides
import Derived.Handy
namespace Go.Proofs.Ytdbedkjnoppkmaa
open Go.RowKit

theorem l1In_yes (n lo hi : Int) (h : lo ≤ n) (h' : n ≤ hi) (w : World) :
    Calls Try.prog 42 #[.int .i64 n, .int .i64 lo, .int .i64 hi] w fun e w' => e = .returned (.bool true) ∧ w = w' := by
  go_enter Try.func42, Try.ntmps42
  go_wp2
  go_ret
  exact ⟨rfl, rfl⟩

theorem l1In_low (n lo hi : Int) (h : n < lo) (w : World) :
    Calls Try.prog 42 #[.int .i64 n, .int .i64 lo, .int .i64 hi] w fun e w' => e = .returned (.bool false) ∧ w = w' := by
  go_enter Try.func42, Try.ntmps42
  go_wp2
  go_ret
  exact ⟨rfl, rfl⟩

theorem l1In_high (n lo hi : Int) (h : hi < n) (w : World) :
    Calls Try.prog 42 #[.int .i64 n, .int .i64 lo, .int .i64 hi] w fun e w' => e = .returned (.bool false) ∧ w = w' := by
  by_cases h' : lo ≤ n
  · have hd : decide (n ≤ hi) = false := by simp; omega
    go_enter Try.func42, Try.ntmps42
    go_wp2
    go_ret
    exact ⟨rfl, rfl⟩
  · exact l1In_low n lo hi (by omega) w

end Go.Proofs.Ytdbedkjnoppkmaa
