/-
  The program's sets of symbols: masks, what is in them, and how many stand before a symbol.
-/
import Derived.Test.YtjpclpjhigongaaStpP
import Derived.Test.YtjpclpjhigongaaCopI
import Derived.BigQuiet
import Derived.Deep.QuietTactic
import Derived.Lib.BitFns
import Derived.Laws.BitsAllLaws
namespace Go.Proofs.Ytjpclpjhigongaa
open Go.RowKit

theorem and_one_bit (M k : Nat) : ((M / 2 ^ k &&& 1 : Nat) == 1) = M.testBit k := by
  rw [Nat.testBit_eq_decide_div_mod_eq, Nat.and_one_is_mod]
  rcases Nat.mod_two_eq_zero_or_one (M / 2 ^ k) with h | h <;> rw [h] <;> rfl
theorem pop_byte : ∀ n : Fin 256, Lib.pop8 (n.val : Int) = (((List.range 8).countP fun i => n.val.testBit i : Nat) : Int) := by decide +kernel
theorem pop_at (b : Nat) (h : b < 256) : Lib.pop8 (b : Int) = (((List.range 8).countP fun i => b.testBit i : Nat) : Int) := pop_byte ⟨b, h⟩
/-- How many are in a set, before a number. -/
def cntB (M k : Nat) : Nat := (List.range k).countP fun i => M.testBit i
theorem cntB_le (M k : Nat) : cntB M k ≤ k := by
  unfold cntB
  exact Nat.le_trans List.countP_le_length (by simp)
theorem cntB_halves (M : Nat) : cntB M 16 = cntB (M / 256) 8 + cntB (M % 256) 8 := by
  unfold cntB
  rw [show (16 : Nat) = 8 + 8 from rfl, List.range_add, List.countP_append, List.countP_map, Nat.add_comm]
  congr 1
  · apply List.countP_congr
    intro i _
    simp only [Function.comp]
    rw [show (256 : Nat) = 2 ^ 8 from rfl, Nat.testBit_div_two_pow, Nat.add_comm]
  · apply List.countP_congr
    intro i hi
    rw [show (256 : Nat) = 2 ^ 8 from rfl, Nat.testBit_mod_two_pow, decide_eq_true (List.mem_range.1 hi), Bool.true_and]
set_option maxRecDepth 100000 in
theorem ones_any (w : World) (M : Nat) (hM : M < 65536) :
    Calls Try.prog 78 #[.int .u16 M] w fun e w' => e = .returned (.int .i64 (cntB M 16 : Nat)) ∧ ∃ n, w' = w.drewN n := by
  have h0 : (0 : Int) ≤ (M : Int) / 256 := by omega
  have h1 : (M : Int) / 256 ≤ 255 := by omega
  have h2 : bits .and .u16 (M : Int) 255 = (M : Int) % 256 := by
    have := u16_and_nat M 255 hM (by decide)
    rw [Nat.and_two_pow_sub_one_eq_mod M 8] at this
    exact this
  have h3 : (0 : Int) ≤ (M : Int) % 256 := by omega
  have h4 : (M : Int) % 256 ≤ 255 := by omega
  have HF : Hid ((Lib.pop8 ((M : Int) / 256) + Lib.pop8 ((M : Int) % 256)) % 256 = (cntB M 16 : Nat)) := by
    show _ = _
    have e1 : (M : Int) / 256 = ((M / 256 : Nat) : Int) := by omega
    have e2 : (M : Int) % 256 = ((M % 256 : Nat) : Int) := by omega
    rw [e1, e2, pop_at _ (by omega), pop_at _ (by omega), cntB_halves M]
    have l1 := cntB_le (M / 256) 8
    have l2 := cntB_le (M % 256) 8
    unfold cntB at l1 l2 ⊢
    omega
  go_enter Try.func78, Try.ntmps78
  go_upto_region 1 with fail
  simp only [List.append_eq, List.cons_append, List.nil_append, Lib.fold_pop8tab]
  go_quiet (fail)
  go_wp2_with fail
  go_ret
  exact ⟨ret_int HF.out, _, rfl⟩
set_option maxRecDepth 100000 in
theorem has_any (w : World) (M k : Nat) (hM : M < 65536) (hk : k < 16) :
    Calls Try.prog 54 #[.int .u16 M, .int .i64 k] w fun e w' => e = .returned (.bool (M.testBit k)) ∧ w = w' := by
  have HF : Hid ((bits .and .u16 ((M : Int) / 2 ^ k) 1 == 1) = M.testBit k) := by
    show _ = _
    have hd : M / 2 ^ k < 65536 := Nat.lt_of_le_of_lt (Nat.div_le_self _ _) hM
    have this : bits .and .u16 ((M / 2 ^ k : Nat) : Int) 1 = ((M / 2 ^ k &&& 1 : Nat) : Int) := u16_and_nat (M / 2 ^ k) 1 hd (by decide)
    have e : (M : Int) / 2 ^ k = ((M / 2 ^ k : Nat) : Int) := by simp
    rw [e, this, ← and_one_bit]
    generalize (M / 2 ^ k &&& 1 : Nat) = z
    by_cases h : z = 1
    · subst h; rfl
    · have h' : ¬ ((z : Int) = 1) := by omega
      rw [beq_eq_false_iff_ne.2 h, beq_eq_false_iff_ne.2 h']
  go_enter Try.func54, Try.ntmps54
  go_wp2
  go_ret
  exact ⟨ret_bool HF.out, rfl⟩
theorem wrap_pow (k : Nat) (hk : k < 16) : IntKind.u16.wrap (2 ^ k) = ((2 ^ k : Nat) : Int) := by
  rcases (by omega : k = 0 ∨ k = 1 ∨ k = 2 ∨ k = 3 ∨ k = 4 ∨ k = 5 ∨ k = 6 ∨ k = 7 ∨ k = 8 ∨ k = 9 ∨ k = 10 ∨ k = 11 ∨ k = 12 ∨ k = 13 ∨ k = 14 ∨ k = 15) with rfl | rfl | rfl | rfl | rfl | rfl | rfl | rfl | rfl | rfl | rfl | rfl | rfl | rfl | rfl | rfl <;> rfl
theorem wrap_pred (k : Nat) (hk : k < 16) : IntKind.u16.wrap (IntKind.u16.wrap (2 ^ k) - 1) = ((2 ^ k - 1 : Nat) : Int) := by
  rcases (by omega : k = 0 ∨ k = 1 ∨ k = 2 ∨ k = 3 ∨ k = 4 ∨ k = 5 ∨ k = 6 ∨ k = 7 ∨ k = 8 ∨ k = 9 ∨ k = 10 ∨ k = 11 ∨ k = 12 ∨ k = 13 ∨ k = 14 ∨ k = 15) with rfl | rfl | rfl | rfl | rfl | rfl | rfl | rfl | rfl | rfl | rfl | rfl | rfl | rfl | rfl | rfl <;> rfl
theorem pow_lt16 {k : Nat} (hk : k < 16) : 2 ^ k < 65536 := Nat.pow_lt_pow_right (by decide) hk
theorem cntB_low (M k : Nat) (hk : k ≤ 16) : cntB (M &&& (2 ^ k - 1)) 16 = cntB M k := by
  obtain ⟨d, hd⟩ : ∃ d, 16 = k + d := ⟨16 - k, by omega⟩
  rw [hd]
  unfold cntB
  rw [List.range_add, List.countP_append, List.countP_map]
  have h2 : (List.range d).countP ((fun i => (M &&& (2 ^ k - 1)).testBit i) ∘ fun x => k + x) = 0 := by
    rw [List.countP_eq_zero]
    intro i _
    simp only [Function.comp]
    rw [Nat.testBit_and, Nat.testBit_two_pow_sub_one, decide_eq_false (by omega), Bool.and_false]
    exact Bool.false_ne_true
  rw [h2, Nat.add_zero]
  apply List.countP_congr
  intro i hi
  rw [Nat.testBit_and, Nat.testBit_two_pow_sub_one, decide_eq_true (List.mem_range.1 hi), Bool.and_true]
set_option maxRecDepth 100000 in
theorem before_any (w : World) (M k : Nat) (hM : M < 65536) (hk : k < 16) :
    Calls Try.prog 55 #[.int .u16 M, .int .i64 k] w fun e w' => e = .returned (.int .i64 (cntB M k : Nat)) ∧ ∃ n, w' = w.drewN n := by
  have H : Hid (Calls Try.prog 78 #[.int .u16 (bits .and .u16 (M : Int) (IntKind.u16.wrap (IntKind.u16.wrap (2 ^ k) - 1)))] w fun e w' => e = .returned (.int .i64 (cntB M k : Nat)) ∧ ∃ n, w' = w.drewN n) := by
    have hp := pow_lt16 hk
    rw [wrap_pred k hk, u16_and_nat M (2 ^ k - 1) hM (by omega), ← cntB_low M k (by omega)]
    exact ones_any w _ (Nat.lt_of_le_of_lt Nat.and_le_left hM)
  go_enter Try.func55, Try.ntmps55
  go_wp2_with fail
  refine H.out.mono ?_
  rintro e _ ⟨rfl, z, rfl⟩
  go_wp2_with fail
  go_ret
  exact ⟨rfl, z, rfl⟩

end Go.Proofs.Ytjpclpjhigongaa
