/-
  Plain lemmas on numbers and bits that the proofs over the numbers' functions use; nothing of the program stands here.
-/
import Derived.Laws.BitsAllLaws
import Derived.Laws.BitsLemmas
import Derived.WalkKit
namespace Go.Proofs.Ytdbedkjnoppkmaa
theorem nat_clear (i x : Nat) (hi : i ≤ 64) (hx : x < 2 ^ 64) : x &&& (2 ^ 64 - (2 ^ i - 1 + 1)) = x / 2 ^ i * 2 ^ i := by
  apply Nat.eq_of_testBit_eq
  intro j
  have hp : 2 ^ i - 1 < 2 ^ 64 := by
    have := Nat.two_pow_pos i
    have := Nat.pow_le_pow_right (n := 2) (by decide) hi
    omega
  rw [Nat.testBit_and, Nat.testBit_two_pow_sub_succ hp, Nat.testBit_two_pow_sub_one, Nat.testBit_mul_two_pow, Nat.testBit_div_two_pow]
  by_cases h : j < i
  · have h2 : ¬ i ≤ j := by omega
    simp [h, h2]
  · have h2 : i ≤ j := by omega
    have e : j - i + i = j := by omega
    by_cases h3 : j < 64
    · simp [h, h2, h3, e]
    · have : x.testBit j = false := Nat.testBit_lt_two_pow (Nat.lt_of_lt_of_le hx (Nat.pow_le_pow_right (by decide) (by omega)))
      simp [this, e]
theorem i64_clear_nat (x m i : Nat) (hi : i ≤ 32) (hm : m = 2 ^ i - 1) (hx : x < 2147483648) : bits .andNot .i64 (x : Int) (m : Int) = ((x / 2 ^ i * 2 ^ i : Nat) : Int) := by
  have hp := Nat.two_pow_pos i
  have hq := Nat.pow_le_pow_right (n := 2) (by decide) hi
  have e : (BitVec.ofInt 64 (x : Int) &&& ~~~BitVec.ofInt 64 (m : Int)).toNat = x / 2 ^ i * 2 ^ i := by
    rw [BitVec.toNat_and, BitVec.toNat_not, BitVec.ofInt_natCast, BitVec.ofInt_natCast, BitVec.toNat_ofNat, BitVec.toNat_ofNat]
    have e1 : x % 2 ^ 64 = x := Nat.mod_eq_of_lt (by omega)
    have e2 : m % 2 ^ 64 = m := Nat.mod_eq_of_lt (by omega)
    rw [e1, e2, ← nat_clear i x (by omega) (by omega), hm]
    congr 1
    omega
  have h := Nat.div_mul_le_self x (2 ^ i)
  show IntKind.i64.wrap (((BitVec.ofInt 64 (x : Int) &&& ~~~BitVec.ofInt 64 (m : Int)).toNat : Nat) : Int) = _
  rw [e, IntKind.wrap_i64]
  generalize x / 2 ^ i * 2 ^ i = y at h ⊢
  omega
theorem i64_clear (x m : Int) (i : Nat) (hi : i ≤ 32) (hm : m = 2 ^ i - 1) (h0 : 0 ≤ x) (hx : x < 2147483648) : bits .andNot .i64 x m = x / 2 ^ i * 2 ^ i := by
  obtain ⟨a, rfl⟩ := Int.eq_ofNat_of_zero_le h0
  have e : m = ((2 ^ i - 1 : Nat) : Int) := by rw [Int.natCast_sub (Nat.two_pow_pos i)]; simp [hm]
  rw [e, i64_clear_nat a _ i hi rfl (by omega)]
  simp

/-- How many numbers bytes can have: at 1, 2, 3 and 4. -/
def pw (k : Int) : Int := if k = 1 then 256 else if k = 2 then 65536 else if k = 3 then 16777216 else 4294967296
theorem ret_int {k : IntKind} {a b : Int} (h : a = b) : Ending.returned (.int k a) = .returned (.int k b) := by rw [h]
theorem ret_bool {a b : Bool} (h : a = b) : Ending.returned (.bool a) = .returned (.bool b) := by rw [h]
end Go.Proofs.Ytdbedkjnoppkmaa
