import Derived.Test.YtjcfjpoodahlfaaGreatDoorNum
import Derived.Test.YtjcfjpoodahlfaaGreatDoorBase
namespace Go.Proofs.YtjcfjpoodahlfaaGreatDoor
open Go.RowKit
theorem i64_or_add (i : Nat) (x y z : Int) (hz : z = y * 2 ^ i) (hx : 0 ≤ x) (hx' : x < 2 ^ i) (hy : 0 ≤ y) (hb : x + z < 9223372036854775808) : bits .or .i64 x z = x + z := by
  subst hz
  obtain ⟨a, rfl⟩ := Int.eq_ofNat_of_zero_le hx
  obtain ⟨c, rfl⟩ := Int.eq_ofNat_of_zero_le hy
  have ha : a < 2 ^ i := by exact_mod_cast hx'
  have e : ((c : Int) * 2 ^ i) = ((c * 2 ^ i : Nat) : Int) := by simp
  rw [e] at hb ⊢
  have hor : a ||| (c * 2 ^ i) = a + c * 2 ^ i := by
    rw [Nat.or_comm, nat_join i (c * 2 ^ i) a (Nat.mul_mod_left _ _) ha, Nat.add_comm]
  show IntKind.i64.wrap (((BitVec.ofInt 64 (a : Int) ||| BitVec.ofInt 64 ((c * 2 ^ i : Nat) : Int)).toNat : Nat) : Int) = _
  generalize c * 2 ^ i = q at hor hb ⊢
  rw [BitVec.toNat_or, BitVec.ofInt_natCast, BitVec.ofInt_natCast, BitVec.toNat_ofNat, BitVec.toNat_ofNat, Nat.mod_eq_of_lt (by omega), Nat.mod_eq_of_lt (by omega), hor, IntKind.wrap_i64]
  omega
theorem getNumber_1 (b off cap len n : Nat) (x0 : Int) (h0 : 0 ≤ x0) (g0 : x0 < 256) (w : World) (hle : n + 1 ≤ len) (hlen : len ≤ 9223372036854775807)
    (c0 : w.cell? ⟨b, off + n, none⟩ = some (.int .u8 x0)) :
    Calls Tryz.prog 100 #[.slice (some ⟨b, off, none⟩) len cap, .int .i64 n, .int .i64 1] w fun e w' => e = .returned (.int .i64 (x0)) ∧ w = w' := by
  go_enter Tryz.func100, Tryz.ntmps100
  go_wp2_with (go_at_call 115; (with_reducible refine (wideValid_yes _ (by omega) (by omega) _).mono ?_); rintro e w' ⟨rfl, rfl⟩)
  go_rounds 2
  go_ret
  refine ⟨ret_int ?_, rfl⟩
  rw [i64_or_add 0 0 x0 x0 (by simp) (by omega) (by omega) h0 (by omega)]
  omega
theorem getNumber_2 (b off cap len n : Nat) (x0 x1 : Int) (h0 : 0 ≤ x0) (g0 : x0 < 256) (h1 : 0 ≤ x1) (g1 : x1 < 256) (w : World) (hle : n + 2 ≤ len) (hlen : len ≤ 9223372036854775807)
    (c0 : w.cell? ⟨b, off + n, none⟩ = some (.int .u8 x0)) (c1 : w.cell? ⟨b, off + (n + 1), none⟩ = some (.int .u8 x1)) :
    Calls Tryz.prog 100 #[.slice (some ⟨b, off, none⟩) len cap, .int .i64 n, .int .i64 2] w fun e w' => e = .returned (.int .i64 (x0 + 256 * x1)) ∧ w = w' := by
  go_enter Tryz.func100, Tryz.ntmps100
  go_wp2_with (go_at_call 115; (with_reducible refine (wideValid_yes _ (by omega) (by omega) _).mono ?_); rintro e w' ⟨rfl, rfl⟩)
  go_rounds 3
  go_ret
  refine ⟨ret_int ?_, rfl⟩
  rw [i64_or_add 0 0 x0 x0 (by simp) (by omega) (by omega) h0 (by omega)]
  rw [i64_or_add 8 _ x1 (x1 * 256) (by simp) (by omega) (by omega) h1 (by omega)]
  omega
theorem getNumber_3 (b off cap len n : Nat) (x0 x1 x2 : Int) (h0 : 0 ≤ x0) (g0 : x0 < 256) (h1 : 0 ≤ x1) (g1 : x1 < 256) (h2 : 0 ≤ x2) (g2 : x2 < 256) (w : World) (hle : n + 3 ≤ len) (hlen : len ≤ 9223372036854775807)
    (c0 : w.cell? ⟨b, off + n, none⟩ = some (.int .u8 x0)) (c1 : w.cell? ⟨b, off + (n + 1), none⟩ = some (.int .u8 x1)) (c2 : w.cell? ⟨b, off + (n + 2), none⟩ = some (.int .u8 x2)) :
    Calls Tryz.prog 100 #[.slice (some ⟨b, off, none⟩) len cap, .int .i64 n, .int .i64 3] w fun e w' => e = .returned (.int .i64 (x0 + 256 * x1 + 65536 * x2)) ∧ w = w' := by
  go_enter Tryz.func100, Tryz.ntmps100
  go_wp2_with (go_at_call 115; (with_reducible refine (wideValid_yes _ (by omega) (by omega) _).mono ?_); rintro e w' ⟨rfl, rfl⟩)
  go_rounds 4
  go_ret
  refine ⟨ret_int ?_, rfl⟩
  rw [i64_or_add 0 0 x0 x0 (by simp) (by omega) (by omega) h0 (by omega)]
  rw [i64_or_add 8 _ x1 (x1 * 256) (by simp) (by omega) (by omega) h1 (by omega)]
  rw [i64_or_add 16 _ x2 (x2 * 65536) (by simp) (by omega) (by omega) h2 (by omega)]
  omega
theorem getNumber_4 (b off cap len n : Nat) (x0 x1 x2 x3 : Int) (h0 : 0 ≤ x0) (g0 : x0 < 256) (h1 : 0 ≤ x1) (g1 : x1 < 256) (h2 : 0 ≤ x2) (g2 : x2 < 256) (h3 : 0 ≤ x3) (g3 : x3 < 256) (w : World) (hle : n + 4 ≤ len) (hlen : len ≤ 9223372036854775807)
    (c0 : w.cell? ⟨b, off + n, none⟩ = some (.int .u8 x0)) (c1 : w.cell? ⟨b, off + (n + 1), none⟩ = some (.int .u8 x1)) (c2 : w.cell? ⟨b, off + (n + 2), none⟩ = some (.int .u8 x2)) (c3 : w.cell? ⟨b, off + (n + 3), none⟩ = some (.int .u8 x3)) :
    Calls Tryz.prog 100 #[.slice (some ⟨b, off, none⟩) len cap, .int .i64 n, .int .i64 4] w fun e w' => e = .returned (.int .i64 (x0 + 256 * x1 + 65536 * x2 + 16777216 * x3)) ∧ w = w' := by
  go_enter Tryz.func100, Tryz.ntmps100
  go_wp2_with (go_at_call 115; (with_reducible refine (wideValid_yes _ (by omega) (by omega) _).mono ?_); rintro e w' ⟨rfl, rfl⟩)
  go_rounds 5
  go_ret
  refine ⟨ret_int ?_, rfl⟩
  rw [i64_or_add 0 0 x0 x0 (by simp) (by omega) (by omega) h0 (by omega)]
  rw [i64_or_add 8 _ x1 (x1 * 256) (by simp) (by omega) (by omega) h1 (by omega)]
  rw [i64_or_add 16 _ x2 (x2 * 65536) (by simp) (by omega) (by omega) h2 (by omega)]
  rw [i64_or_add 24 _ x3 (x3 * 16777216) (by simp) (by omega) (by omega) h3 (by omega)]
  omega
theorem getNumber_bad (a : Option Addr) (len cap : Nat) (n k : Int) (h : k < 1 ∨ 4 < k) (w : World) :
    Calls Tryz.prog 100 #[.slice a len cap, .int .i64 n, .int .i64 k] w fun e w' => e = .returned (.int .i64 (-1)) ∧ w = w' := by
  rcases h with h | h
  · go_enter Tryz.func100, Tryz.ntmps100
    go_wp2_with (go_at_call 115; (with_reducible refine (wideValid_low _ h _).mono ?_); rintro e w' ⟨rfl, rfl⟩)
    go_ret
    exact ⟨rfl, rfl⟩
  · go_enter Tryz.func100, Tryz.ntmps100
    go_wp2_with (go_at_call 115; (with_reducible refine (wideValid_high _ h _).mono ?_); rintro e w' ⟨rfl, rfl⟩)
    go_ret
    exact ⟨rfl, rfl⟩
theorem getNumber_neg (a : Option Addr) (len cap : Nat) (n k : Int) (h : 1 ≤ k) (h' : k ≤ 4) (hn : n < 0) (w : World) :
    Calls Tryz.prog 100 #[.slice a len cap, .int .i64 n, .int .i64 k] w fun e w' => e = .returned (.int .i64 (-1)) ∧ w = w' := by
  go_enter Tryz.func100, Tryz.ntmps100
  go_wp2_with (go_at_call 115; (with_reducible refine (wideValid_yes _ h h' _).mono ?_); rintro e w' ⟨rfl, rfl⟩)
  go_ret
  exact ⟨rfl, rfl⟩
theorem getNumber_far (a : Option Addr) (len cap : Nat) (n k : Int) (h : 1 ≤ k) (h' : k ≤ 4) (h0 : 0 ≤ n) (hn : (len : Int) - k < n) (hlen : len ≤ 9223372036854775807) (w : World) :
    Calls Tryz.prog 100 #[.slice a len cap, .int .i64 n, .int .i64 k] w fun e w' => e = .returned (.int .i64 (-1)) ∧ w = w' := by
  go_enter Tryz.func100, Tryz.ntmps100
  go_wp2_with (go_at_call 115; (with_reducible refine (wideValid_yes _ h h' _).mono ?_); rintro e w' ⟨rfl, rfl⟩)
  go_ret
  exact ⟨rfl, rfl⟩
open Go.RowKit
def leAt (l : List Int) (n : Nat) (k : Int) : Int :=
  if k = 1 then l.getD n 0 else if k = 2 then l.getD n 0 + 256 * l.getD (n + 1) 0 else if k = 3 then l.getD n 0 + 256 * l.getD (n + 1) 0 + 65536 * l.getD (n + 2) 0
  else l.getD n 0 + 256 * l.getD (n + 1) 0 + 65536 * l.getD (n + 2) 0 + 16777216 * l.getD (n + 3) 0
def getVal (l : List Int) (n k : Int) : Int :=
  if k < 1 ∨ 4 < k then -1 else if n < 0 then -1 else if (l.length : Int) - k < n then -1 else leAt l n.toNat k
theorem getNumber_any (w : World) (B : Nat) (a : Option Addr) (cap : Nat) (l : List Int) (h : Ints w .u8 B a l) (hlen : l.length ≤ 9223372036854775807) (n k : Int) :
    Calls Tryz.prog 100 #[.slice a l.length cap, .int .i64 n, .int .i64 k] w fun e w' => e = .returned (.int .i64 (getVal l n k)) ∧ w = w' := by
  by_cases hk : k < 1 ∨ 4 < k
  · have e : getVal l n k = -1 := by unfold getVal; rw [if_pos hk]
    rw [e]; exact getNumber_bad _ _ _ _ _ hk w
  by_cases hn : n < 0
  · have e : getVal l n k = -1 := by unfold getVal; rw [if_neg hk, if_pos hn]
    rw [e]; exact getNumber_neg _ _ _ _ _ (by omega) (by omega) hn w
  by_cases hf : (l.length : Int) - k < n
  · have e : getVal l n k = -1 := by unfold getVal; rw [if_neg hk, if_neg hn, if_pos hf]
    rw [e]; exact getNumber_far _ _ _ _ _ (by omega) (by omega) (by omega) hf hlen w
  have e : getVal l n k = leAt l n.toNat k := by unfold getVal; rw [if_neg hk, if_neg hn, if_neg hf]
  rw [e]
  obtain ⟨m, rfl⟩ := Int.eq_ofNat_of_zero_le (Int.not_lt.mp hn)
  rw [Int.toNat_natCast]
  obtain ⟨b, off, rfl, _, hc⟩ := h.2 (by omega)
  have hw := fun i (hi : i < l.length) => wf_u8.mp (h.wfAt hi)
  have hcs : k = 1 ∨ k = 2 ∨ k = 3 ∨ k = 4 := by omega
  clear e
  rcases hcs with rfl | rfl | rfl | rfl
  · have e : leAt l m 1 = l.getD m 0 := by simp [leAt]
    rw [e]
    exact getNumber_1 b off cap l.length m (l.getD m 0) (hw m (by omega)).1 (hw m (by omega)).2 w (by omega) hlen (hc m (by omega))
  · have e : leAt l m 2 = l.getD m 0 + 256 * l.getD (m + 1) 0 := by simp [leAt]
    rw [e]
    exact getNumber_2 b off cap l.length m (l.getD m 0) (l.getD (m + 1) 0) (hw m (by omega)).1 (hw m (by omega)).2 (hw (m + 1) (by omega)).1 (hw (m + 1) (by omega)).2 w (by omega) hlen (hc m (by omega)) (hc (m + 1) (by omega))
  · have e : leAt l m 3 = l.getD m 0 + 256 * l.getD (m + 1) 0 + 65536 * l.getD (m + 2) 0 := by simp [leAt]
    rw [e]
    exact getNumber_3 b off cap l.length m (l.getD m 0) (l.getD (m + 1) 0) (l.getD (m + 2) 0) (hw m (by omega)).1 (hw m (by omega)).2 (hw (m + 1) (by omega)).1 (hw (m + 1) (by omega)).2 (hw (m + 2) (by omega)).1 (hw (m + 2) (by omega)).2 w (by omega) hlen (hc m (by omega)) (hc (m + 1) (by omega)) (hc (m + 2) (by omega))
  · have e : leAt l m 4 = l.getD m 0 + 256 * l.getD (m + 1) 0 + 65536 * l.getD (m + 2) 0 + 16777216 * l.getD (m + 3) 0 := by simp [leAt]
    rw [e]
    exact getNumber_4 b off cap l.length m (l.getD m 0) (l.getD (m + 1) 0) (l.getD (m + 2) 0) (l.getD (m + 3) 0) (hw m (by omega)).1 (hw m (by omega)).2 (hw (m + 1) (by omega)).1 (hw (m + 1) (by omega)).2 (hw (m + 2) (by omega)).1 (hw (m + 2) (by omega)).2 (hw (m + 3) (by omega)).1 (hw (m + 3) (by omega)).2 w (by omega) hlen (hc m (by omega)) (hc (m + 1) (by omega)) (hc (m + 2) (by omega)) (hc (m + 3) (by omega))
