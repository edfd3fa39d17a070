/-
  Contracts of impl.GetNumber and spec.GetNumber: what each returns at every place of every bytes.
-/
import Derived.Test.YtiplcfgfababaaaNum
import Derived.Test.YtiplcfgfababaaaMem
namespace Go.Proofs.Ytiplcfgfababaaa
open Go.RowKit

/-- Bits that don't meet are added: 'x | y << i' where x is below 2^i. -/
theorem i64_or_add (i : Nat) (x y z : Int) (hz : z = y * 2 ^ i) (hx : 0 ≤ x) (hx' : x < 2 ^ i) (hy : 0 ≤ y) (hb : x + z < 9223372036854775808) : bits .or .i64 x z = x + z := by
  subst hz
  obtain ⟨a, rfl⟩ := Int.eq_ofNat_of_zero_le hx
  obtain ⟨c, rfl⟩ := Int.eq_ofNat_of_zero_le hy
  have ha : a < 2 ^ i := by exact_mod_cast hx'
  have e : ((c : Int) * 2 ^ i) = ((c * 2 ^ i : Nat) : Int) := by simp
  rw [e] at hb ⊢
  have hor : a ||| (c * 2 ^ i) = a + c * 2 ^ i := by
    rw [Nat.or_comm, nat_join i (c * 2 ^ i) a (Nat.mul_mod_left _ _) ha, Nat.add_comm]
  show IntKind.i64.wrap (((BitVec.ofInt 64 (a : Int) ||| BitVec.ofInt 64 ((c * 2 ^ i : Nat) : Int)).toNat : Nat) : Int) = _
  generalize c * 2 ^ i = q at hor hb ⊢
  rw [BitVec.toNat_or, BitVec.ofInt_natCast, BitVec.ofInt_natCast, BitVec.toNat_ofNat, BitVec.toNat_ofNat, Nat.mod_eq_of_lt (by omega), Nat.mod_eq_of_lt (by omega), hor, IntKind.wrap_i64]
  omega

theorem getNumber_1 (b off cap len n : Nat) (x0 : Int) (h0 : 0 ≤ x0) (g0 : x0 < 256) (w : World) (hle : n + 1 ≤ len) (hlen : len ≤ 9223372036854775807)
    (c0 : w.cell? ⟨b, off + n, none⟩ = some (.int .u8 x0)) :
    Calls Try.prog 17 #[.slice (some ⟨b, off, none⟩) len cap, .int .i64 n, .int .i64 1] w fun e w' => e = .returned (.int .i64 (x0)) ∧ w = w' := by
  go_enter Try.func17, Try.ntmps17
  go_wp2_with (go_at_call 35; (with_reducible refine (wideValid_yes _ (by omega) (by omega) _).mono ?_); rintro e w' ⟨rfl, rfl⟩)
  go_rounds 2
  go_ret
  refine ⟨ret_int ?_, rfl⟩
  rw [i64_or_add 0 0 x0 x0 (by simp) (by omega) (by omega) h0 (by omega)]
  omega

theorem getNumber'_1 (b off cap len n : Nat) (x0 : Int) (h0 : 0 ≤ x0) (g0 : x0 < 256) (w : World) (hle : n + 1 ≤ len) (hlen : len ≤ 9223372036854775807)
    (c0 : w.cell? ⟨b, off + n, none⟩ = some (.int .u8 x0)) :
    Calls Try.prog 19 #[.slice (some ⟨b, off, none⟩) len cap, .int .i64 n, .int .i64 1] w fun e w' => e = .returned (.int .i64 (x0)) ∧ w = w' := by
  go_enter Try.func19, Try.ntmps19
  go_wp2_with (go_at_call 33; (with_reducible refine (l1In_yes 1 1 4 (by omega) (by omega) _).mono ?_); rintro e w' ⟨rfl, rfl⟩)
  go_rounds 2
  go_ret
  exact ⟨ret_int (by omega), rfl⟩

theorem getNumber_2 (b off cap len n : Nat) (x0 x1 : Int) (h0 : 0 ≤ x0) (g0 : x0 < 256) (h1 : 0 ≤ x1) (g1 : x1 < 256) (w : World) (hle : n + 2 ≤ len) (hlen : len ≤ 9223372036854775807)
    (c0 : w.cell? ⟨b, off + n, none⟩ = some (.int .u8 x0)) (c1 : w.cell? ⟨b, off + (n + 1), none⟩ = some (.int .u8 x1)) :
    Calls Try.prog 17 #[.slice (some ⟨b, off, none⟩) len cap, .int .i64 n, .int .i64 2] w fun e w' => e = .returned (.int .i64 (x0 + 256 * x1)) ∧ w = w' := by
  go_enter Try.func17, Try.ntmps17
  go_wp2_with (go_at_call 35; (with_reducible refine (wideValid_yes _ (by omega) (by omega) _).mono ?_); rintro e w' ⟨rfl, rfl⟩)
  go_rounds 3
  go_ret
  refine ⟨ret_int ?_, rfl⟩
  rw [i64_or_add 0 0 x0 x0 (by simp) (by omega) (by omega) h0 (by omega)]
  rw [i64_or_add 8 _ x1 (x1 * 256) (by simp) (by omega) (by omega) h1 (by omega)]
  omega

theorem getNumber'_2 (b off cap len n : Nat) (x0 x1 : Int) (h0 : 0 ≤ x0) (g0 : x0 < 256) (h1 : 0 ≤ x1) (g1 : x1 < 256) (w : World) (hle : n + 2 ≤ len) (hlen : len ≤ 9223372036854775807)
    (c0 : w.cell? ⟨b, off + n, none⟩ = some (.int .u8 x0)) (c1 : w.cell? ⟨b, off + (n + 1), none⟩ = some (.int .u8 x1)) :
    Calls Try.prog 19 #[.slice (some ⟨b, off, none⟩) len cap, .int .i64 n, .int .i64 2] w fun e w' => e = .returned (.int .i64 (x0 + 256 * x1)) ∧ w = w' := by
  go_enter Try.func19, Try.ntmps19
  go_wp2_with (go_at_call 33; (with_reducible refine (l1In_yes 2 1 4 (by omega) (by omega) _).mono ?_); rintro e w' ⟨rfl, rfl⟩)
  go_rounds 3
  go_ret
  exact ⟨ret_int (by omega), rfl⟩

theorem getNumber_3 (b off cap len n : Nat) (x0 x1 x2 : Int) (h0 : 0 ≤ x0) (g0 : x0 < 256) (h1 : 0 ≤ x1) (g1 : x1 < 256) (h2 : 0 ≤ x2) (g2 : x2 < 256) (w : World) (hle : n + 3 ≤ len) (hlen : len ≤ 9223372036854775807)
    (c0 : w.cell? ⟨b, off + n, none⟩ = some (.int .u8 x0)) (c1 : w.cell? ⟨b, off + (n + 1), none⟩ = some (.int .u8 x1)) (c2 : w.cell? ⟨b, off + (n + 2), none⟩ = some (.int .u8 x2)) :
    Calls Try.prog 17 #[.slice (some ⟨b, off, none⟩) len cap, .int .i64 n, .int .i64 3] w fun e w' => e = .returned (.int .i64 (x0 + 256 * x1 + 65536 * x2)) ∧ w = w' := by
  go_enter Try.func17, Try.ntmps17
  go_wp2_with (go_at_call 35; (with_reducible refine (wideValid_yes _ (by omega) (by omega) _).mono ?_); rintro e w' ⟨rfl, rfl⟩)
  go_rounds 4
  go_ret
  refine ⟨ret_int ?_, rfl⟩
  rw [i64_or_add 0 0 x0 x0 (by simp) (by omega) (by omega) h0 (by omega)]
  rw [i64_or_add 8 _ x1 (x1 * 256) (by simp) (by omega) (by omega) h1 (by omega)]
  rw [i64_or_add 16 _ x2 (x2 * 65536) (by simp) (by omega) (by omega) h2 (by omega)]
  omega

theorem getNumber'_3 (b off cap len n : Nat) (x0 x1 x2 : Int) (h0 : 0 ≤ x0) (g0 : x0 < 256) (h1 : 0 ≤ x1) (g1 : x1 < 256) (h2 : 0 ≤ x2) (g2 : x2 < 256) (w : World) (hle : n + 3 ≤ len) (hlen : len ≤ 9223372036854775807)
    (c0 : w.cell? ⟨b, off + n, none⟩ = some (.int .u8 x0)) (c1 : w.cell? ⟨b, off + (n + 1), none⟩ = some (.int .u8 x1)) (c2 : w.cell? ⟨b, off + (n + 2), none⟩ = some (.int .u8 x2)) :
    Calls Try.prog 19 #[.slice (some ⟨b, off, none⟩) len cap, .int .i64 n, .int .i64 3] w fun e w' => e = .returned (.int .i64 (x0 + 256 * x1 + 65536 * x2)) ∧ w = w' := by
  go_enter Try.func19, Try.ntmps19
  go_wp2_with (go_at_call 33; (with_reducible refine (l1In_yes 3 1 4 (by omega) (by omega) _).mono ?_); rintro e w' ⟨rfl, rfl⟩)
  go_rounds 4
  go_ret
  exact ⟨ret_int (by omega), rfl⟩

theorem getNumber_4 (b off cap len n : Nat) (x0 x1 x2 x3 : Int) (h0 : 0 ≤ x0) (g0 : x0 < 256) (h1 : 0 ≤ x1) (g1 : x1 < 256) (h2 : 0 ≤ x2) (g2 : x2 < 256) (h3 : 0 ≤ x3) (g3 : x3 < 256) (w : World) (hle : n + 4 ≤ len) (hlen : len ≤ 9223372036854775807)
    (c0 : w.cell? ⟨b, off + n, none⟩ = some (.int .u8 x0)) (c1 : w.cell? ⟨b, off + (n + 1), none⟩ = some (.int .u8 x1)) (c2 : w.cell? ⟨b, off + (n + 2), none⟩ = some (.int .u8 x2)) (c3 : w.cell? ⟨b, off + (n + 3), none⟩ = some (.int .u8 x3)) :
    Calls Try.prog 17 #[.slice (some ⟨b, off, none⟩) len cap, .int .i64 n, .int .i64 4] w fun e w' => e = .returned (.int .i64 (x0 + 256 * x1 + 65536 * x2 + 16777216 * x3)) ∧ w = w' := by
  go_enter Try.func17, Try.ntmps17
  go_wp2_with (go_at_call 35; (with_reducible refine (wideValid_yes _ (by omega) (by omega) _).mono ?_); rintro e w' ⟨rfl, rfl⟩)
  go_rounds 5
  go_ret
  refine ⟨ret_int ?_, rfl⟩
  rw [i64_or_add 0 0 x0 x0 (by simp) (by omega) (by omega) h0 (by omega)]
  rw [i64_or_add 8 _ x1 (x1 * 256) (by simp) (by omega) (by omega) h1 (by omega)]
  rw [i64_or_add 16 _ x2 (x2 * 65536) (by simp) (by omega) (by omega) h2 (by omega)]
  rw [i64_or_add 24 _ x3 (x3 * 16777216) (by simp) (by omega) (by omega) h3 (by omega)]
  omega

theorem getNumber'_4 (b off cap len n : Nat) (x0 x1 x2 x3 : Int) (h0 : 0 ≤ x0) (g0 : x0 < 256) (h1 : 0 ≤ x1) (g1 : x1 < 256) (h2 : 0 ≤ x2) (g2 : x2 < 256) (h3 : 0 ≤ x3) (g3 : x3 < 256) (w : World) (hle : n + 4 ≤ len) (hlen : len ≤ 9223372036854775807)
    (c0 : w.cell? ⟨b, off + n, none⟩ = some (.int .u8 x0)) (c1 : w.cell? ⟨b, off + (n + 1), none⟩ = some (.int .u8 x1)) (c2 : w.cell? ⟨b, off + (n + 2), none⟩ = some (.int .u8 x2)) (c3 : w.cell? ⟨b, off + (n + 3), none⟩ = some (.int .u8 x3)) :
    Calls Try.prog 19 #[.slice (some ⟨b, off, none⟩) len cap, .int .i64 n, .int .i64 4] w fun e w' => e = .returned (.int .i64 (x0 + 256 * x1 + 65536 * x2 + 16777216 * x3)) ∧ w = w' := by
  go_enter Try.func19, Try.ntmps19
  go_wp2_with (go_at_call 33; (with_reducible refine (l1In_yes 4 1 4 (by omega) (by omega) _).mono ?_); rintro e w' ⟨rfl, rfl⟩)
  go_rounds 5
  go_ret
  exact ⟨ret_int (by omega), rfl⟩

theorem getNumber_bad (a : Option Addr) (len cap : Nat) (n k : Int) (h : k < 1 ∨ 4 < k) (w : World) :
    Calls Try.prog 17 #[.slice a len cap, .int .i64 n, .int .i64 k] w fun e w' => e = .returned (.int .i64 (-1)) ∧ w = w' := by
  rcases h with h | h
  · go_enter Try.func17, Try.ntmps17
    go_wp2_with (go_at_call 35; (with_reducible refine (wideValid_low _ h _).mono ?_); rintro e w' ⟨rfl, rfl⟩)
    go_ret
    exact ⟨rfl, rfl⟩
  · go_enter Try.func17, Try.ntmps17
    go_wp2_with (go_at_call 35; (with_reducible refine (wideValid_high _ h _).mono ?_); rintro e w' ⟨rfl, rfl⟩)
    go_ret
    exact ⟨rfl, rfl⟩

theorem getNumber_neg (a : Option Addr) (len cap : Nat) (n k : Int) (h : 1 ≤ k) (h' : k ≤ 4) (hn : n < 0) (w : World) :
    Calls Try.prog 17 #[.slice a len cap, .int .i64 n, .int .i64 k] w fun e w' => e = .returned (.int .i64 (-1)) ∧ w = w' := by
  go_enter Try.func17, Try.ntmps17
  go_wp2_with (go_at_call 35; (with_reducible refine (wideValid_yes _ h h' _).mono ?_); rintro e w' ⟨rfl, rfl⟩)
  go_ret
  exact ⟨rfl, rfl⟩

theorem getNumber_far (a : Option Addr) (len cap : Nat) (n k : Int) (h : 1 ≤ k) (h' : k ≤ 4) (h0 : 0 ≤ n) (hn : (len : Int) - k < n) (hlen : len ≤ 9223372036854775807) (w : World) :
    Calls Try.prog 17 #[.slice a len cap, .int .i64 n, .int .i64 k] w fun e w' => e = .returned (.int .i64 (-1)) ∧ w = w' := by
  go_enter Try.func17, Try.ntmps17
  go_wp2_with (go_at_call 35; (with_reducible refine (wideValid_yes _ h h' _).mono ?_); rintro e w' ⟨rfl, rfl⟩)
  go_ret
  exact ⟨rfl, rfl⟩

theorem getNumber'_bad (a : Option Addr) (len cap : Nat) (n k : Int) (h : k < 1 ∨ 4 < k) (w : World) :
    Calls Try.prog 19 #[.slice a len cap, .int .i64 n, .int .i64 k] w fun e w' => e = .returned (.int .i64 (-1)) ∧ w = w' := by
  rcases h with h | h
  · go_enter Try.func19, Try.ntmps19
    go_wp2_with (go_at_call 33; (with_reducible refine (l1In_low _ _ _ h _).mono ?_); rintro e w' ⟨rfl, rfl⟩)
    go_ret
    exact ⟨rfl, rfl⟩
  · go_enter Try.func19, Try.ntmps19
    go_wp2_with (go_at_call 33; (with_reducible refine (l1In_high _ _ _ h _).mono ?_); rintro e w' ⟨rfl, rfl⟩)
    go_ret
    exact ⟨rfl, rfl⟩

theorem getNumber'_neg (a : Option Addr) (len cap : Nat) (n k : Int) (h : 1 ≤ k) (h' : k ≤ 4) (hn : n < 0) (w : World) :
    Calls Try.prog 19 #[.slice a len cap, .int .i64 n, .int .i64 k] w fun e w' => e = .returned (.int .i64 (-1)) ∧ w = w' := by
  go_enter Try.func19, Try.ntmps19
  go_wp2_with (go_at_call 33; (with_reducible refine (l1In_yes _ _ _ h h' _).mono ?_); rintro e w' ⟨rfl, rfl⟩)
  go_ret
  exact ⟨rfl, rfl⟩

theorem getNumber'_far (a : Option Addr) (len cap : Nat) (n k : Int) (h : 1 ≤ k) (h' : k ≤ 4) (h0 : 0 ≤ n) (hn : (len : Int) - k < n) (hlen : len ≤ 9223372036854775807) (w : World) :
    Calls Try.prog 19 #[.slice a len cap, .int .i64 n, .int .i64 k] w fun e w' => e = .returned (.int .i64 (-1)) ∧ w = w' := by
  go_enter Try.func19, Try.ntmps19
  go_wp2_with (go_at_call 33; (with_reducible refine (l1In_yes _ _ _ h h' _).mono ?_); rintro e w' ⟨rfl, rfl⟩)
  go_ret
  exact ⟨rfl, rfl⟩

end Go.Proofs.Ytiplcfgfababaaa
