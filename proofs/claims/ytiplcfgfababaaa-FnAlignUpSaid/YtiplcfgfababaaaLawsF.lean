/-
  The walk of FnAlignUp.
-/
import Derived.Test.YtiplcfgfababaaaLawsC
import Derived.Test.YtiplcfgfababaaaDrawC
namespace Go.Proofs.Ytiplcfgfababaaa
open Go.RowKit

theorem upTo_cases (n to : Int) : (upTo n to = -1) ∨ (0 ≤ n ∧ n ≤ 1000000 ∧ (to = 1 ∨ to = 2 ∨ to = 4 ∨ to = 8) ∧ upTo n to = (n + to - 1) / to * to) := by
  unfold upTo
  split
  · exact .inl rfl
  · split
    · exact .inr ⟨by omega, by omega, by assumption, rfl⟩
    · exact .inl rfl

set_option maxHeartbeats 4000000 in
theorem law_AlignUp (w : World) (a : Option Addr) (len cap : Nat) (h : Came w a len cap) :
    Calls Try.prog 6 #[.slice a len cap] w fun e w' => e = .returned (.bool true) ∧ Below w.heap.size w w' := by
  obtain ⟨l, h, rfl, hcap, hmax⟩ := h
  by_cases hbig : 1048576 < l.length
  · have hd : (1048576 : Int) < (l.length : Int) := by omega
    go_enter Try.func6, Try.ntmps6
    go_wp2
    go_ret
    exact ⟨rfl, Below.refl _ _⟩
  have hd : ¬ (1048576 : Int) < (l.length : Int) := by omega
  go_enter Try.func6, Try.ntmps6
  go_wp2_with fail
  refine (drawAlignUp_any w a cap l h hcap hmax).mono ?_
  rintro e w1 ⟨n, to, rfl, n0, n1, t0, t1, hb⟩
  clear h
  go_wp2_with fail
  refine (alignUp_any n to w1).mono ?_
  rintro e _ ⟨rfl, rfl⟩
  go_wp2_with fail
  refine (alignUp'_any n to w1).mono ?_
  rintro e _ ⟨rfl, rfl⟩
  rcases upTo_cases n to with hv | ⟨h0, h1, ht, hv⟩
  · rw [hv]
    clear hv
    go_wp2_with fail
    refine (alive_any _).mono ?_
    rintro e _ ⟨rfl, rfl⟩
    go_wp2_with fail
    go_ret
    exact ⟨rfl, hb⟩
  · rw [hv]
    clear hv
    rcases ht with rfl | rfl | rfl | rfl
    · obtain ⟨x, hx⟩ : ∃ x, (n + 1 - 1) / 1 * 1 = x := ⟨_, rfl⟩
      have x0 : n ≤ x := by omega
      have x1 : x < n + 1 := by omega
      have x2 : x % 1 = 0 := by omega
      have x3 : 0 ≤ x := by omega
      have X2 := hidden x2
      rw [hx]
      clear hx x2
      go_wp2_with fail
      go_ret
      exact ⟨ret_bool (by have := X2.out; simp [*] <;> omega), hb⟩
    · obtain ⟨x, hx⟩ : ∃ x, (n + 2 - 1) / 2 * 2 = x := ⟨_, rfl⟩
      have x0 : n ≤ x := by omega
      have x1 : x < n + 2 := by omega
      have x2 : x % 2 = 0 := by omega
      have x3 : 0 ≤ x := by omega
      have X2 := hidden x2
      rw [hx]
      clear hx x2
      go_wp2_with fail
      go_ret
      exact ⟨ret_bool (by have := X2.out; simp [*] <;> omega), hb⟩
    · obtain ⟨x, hx⟩ : ∃ x, (n + 4 - 1) / 4 * 4 = x := ⟨_, rfl⟩
      have x0 : n ≤ x := by omega
      have x1 : x < n + 4 := by omega
      have x2 : x % 4 = 0 := by omega
      have x3 : 0 ≤ x := by omega
      have X2 := hidden x2
      rw [hx]
      clear hx x2
      go_wp2_with fail
      go_ret
      exact ⟨ret_bool (by have := X2.out; simp [*] <;> omega), hb⟩
    · obtain ⟨x, hx⟩ : ∃ x, (n + 8 - 1) / 8 * 8 = x := ⟨_, rfl⟩
      have x0 : n ≤ x := by omega
      have x1 : x < n + 8 := by omega
      have x2 : x % 8 = 0 := by omega
      have x3 : 0 ≤ x := by omega
      have X2 := hidden x2
      rw [hx]
      clear hx x2
      go_wp2_with fail
      go_ret
      exact ⟨ret_bool (by have := X2.out; simp [*] <;> omega), hb⟩

end Go.Proofs.Ytiplcfgfababaaa
