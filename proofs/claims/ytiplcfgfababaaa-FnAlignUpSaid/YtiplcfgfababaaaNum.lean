/-
  Contracts of the small functions of numbers (impl and spec): what each returns for every argument; none of them touches memory.
-/
import Derived.Test.YtiplcfgfababaaaRows
import Derived.Test.YtiplcfgfababaaaPlain
import Derived.WalkKit
import Derived.WalkSpells
import Derived.WalkLawsBesides
import Derived.Handy
namespace Go.Proofs.Ytiplcfgfababaaa
open Go.RowKit

theorem l1In_yes (n lo hi : Int) (h : lo ≤ n) (h' : n ≤ hi) (w : World) :
    Calls Try.prog 33 #[.int .i64 n, .int .i64 lo, .int .i64 hi] w fun e w' => e = .returned (.bool true) ∧ w = w' := by
  go_enter Try.func33, Try.ntmps33
  go_wp2
  go_ret
  exact ⟨rfl, rfl⟩

theorem l1In_low (n lo hi : Int) (h : n < lo) (w : World) :
    Calls Try.prog 33 #[.int .i64 n, .int .i64 lo, .int .i64 hi] w fun e w' => e = .returned (.bool false) ∧ w = w' := by
  go_enter Try.func33, Try.ntmps33
  go_wp2
  go_ret
  exact ⟨rfl, rfl⟩

theorem l1In_high (n lo hi : Int) (h : hi < n) (w : World) :
    Calls Try.prog 33 #[.int .i64 n, .int .i64 lo, .int .i64 hi] w fun e w' => e = .returned (.bool false) ∧ w = w' := by
  by_cases h' : lo ≤ n
  · have hd : decide (n ≤ hi) = false := by simp; omega
    go_enter Try.func33, Try.ntmps33
    go_wp2
    go_ret
    exact ⟨rfl, rfl⟩
  · exact l1In_low n lo hi (by omega) w

theorem alignValid_1  (w : World) :
    Calls Try.prog 37 #[.int .i64 1] w fun e w' => e = .returned (.bool true) ∧ w = w' := by
  go_enter Try.func37, Try.ntmps37
  go_wp2
  go_ret
  exact ⟨rfl, rfl⟩

theorem alignValid_2  (w : World) :
    Calls Try.prog 37 #[.int .i64 2] w fun e w' => e = .returned (.bool true) ∧ w = w' := by
  go_enter Try.func37, Try.ntmps37
  go_wp2
  go_ret
  exact ⟨rfl, rfl⟩

theorem alignValid_4  (w : World) :
    Calls Try.prog 37 #[.int .i64 4] w fun e w' => e = .returned (.bool true) ∧ w = w' := by
  go_enter Try.func37, Try.ntmps37
  go_wp2
  go_ret
  exact ⟨rfl, rfl⟩

theorem alignValid_8  (w : World) :
    Calls Try.prog 37 #[.int .i64 8] w fun e w' => e = .returned (.bool true) ∧ w = w' := by
  go_enter Try.func37, Try.ntmps37
  go_wp2
  go_ret
  exact ⟨rfl, rfl⟩

theorem alignValid_no (to : Int) (h1 : (to == 1) = false) (h2 : (to == 2) = false) (h4 : (to == 4) = false) (h8 : (to == 8) = false) (w : World) :
    Calls Try.prog 37 #[.int .i64 to] w fun e w' => e = .returned (.bool false) ∧ w = w' := by
  go_enter Try.func37, Try.ntmps37
  go_wp2
  go_ret
  exact ⟨rfl, rfl⟩

theorem alignUp_low (n to : Int) (h : n < 0) (w : World) :
    Calls Try.prog 24 #[.int .i64 n, .int .i64 to] w fun e w' => e = .returned (.int .i64 (-1)) ∧ w = w' := by
  go_enter Try.func24, Try.ntmps24
  go_wp2
  go_ret
  exact ⟨rfl, rfl⟩

theorem alignUp_high (n to : Int) (h : 1000000 < n) (w : World) :
    Calls Try.prog 24 #[.int .i64 n, .int .i64 to] w fun e w' => e = .returned (.int .i64 (-1)) ∧ w = w' := by
  go_enter Try.func24, Try.ntmps24
  go_wp2
  go_ret
  exact ⟨rfl, rfl⟩

theorem alignUp_no (n to : Int) (h0 : 0 ≤ n) (h : n ≤ 1000000) (h1 : (to == 1) = false) (h2 : (to == 2) = false) (h4 : (to == 4) = false) (h8 : (to == 8) = false) (w : World) :
    Calls Try.prog 24 #[.int .i64 n, .int .i64 to] w fun e w' => e = .returned (.int .i64 (-1)) ∧ w = w' := by
  go_enter Try.func24, Try.ntmps24
  go_wp2_with (first | (go_at_call 37; (with_reducible refine (alignValid_no _ h1 h2 h4 h8 _).mono ?_); rintro e w' ⟨rfl, rfl⟩))
  go_ret
  exact ⟨rfl, rfl⟩

theorem alignUp_1 (n : Int) (h : 0 ≤ n) (h' : n ≤ 1000000) (w : World) :
    Calls Try.prog 24 #[.int .i64 n, .int .i64 1] w fun e w' => e = .returned (.int .i64 ((n + 0) / 1 * 1)) ∧ w = w' := by
  go_enter Try.func24, Try.ntmps24
  go_wp2_with (first | (go_at_call 37; (with_reducible refine (alignValid_1 _).mono ?_); rintro e w' ⟨rfl, rfl⟩))
  go_ret
  exact ⟨ret_int (by rw [i64_clear _ _ 0 (by omega) (by decide) (by omega) (by omega)]; omega), rfl⟩

theorem alignUp_2 (n : Int) (h : 0 ≤ n) (h' : n ≤ 1000000) (w : World) :
    Calls Try.prog 24 #[.int .i64 n, .int .i64 2] w fun e w' => e = .returned (.int .i64 ((n + 1) / 2 * 2)) ∧ w = w' := by
  go_enter Try.func24, Try.ntmps24
  go_wp2_with (first | (go_at_call 37; (with_reducible refine (alignValid_2 _).mono ?_); rintro e w' ⟨rfl, rfl⟩))
  go_ret
  exact ⟨ret_int (by rw [i64_clear _ _ 1 (by omega) (by decide) (by omega) (by omega)]; omega), rfl⟩

theorem alignUp_4 (n : Int) (h : 0 ≤ n) (h' : n ≤ 1000000) (w : World) :
    Calls Try.prog 24 #[.int .i64 n, .int .i64 4] w fun e w' => e = .returned (.int .i64 ((n + 3) / 4 * 4)) ∧ w = w' := by
  go_enter Try.func24, Try.ntmps24
  go_wp2_with (first | (go_at_call 37; (with_reducible refine (alignValid_4 _).mono ?_); rintro e w' ⟨rfl, rfl⟩))
  go_ret
  exact ⟨ret_int (by rw [i64_clear _ _ 2 (by omega) (by decide) (by omega) (by omega)]; omega), rfl⟩

theorem alignUp_8 (n : Int) (h : 0 ≤ n) (h' : n ≤ 1000000) (w : World) :
    Calls Try.prog 24 #[.int .i64 n, .int .i64 8] w fun e w' => e = .returned (.int .i64 ((n + 7) / 8 * 8)) ∧ w = w' := by
  go_enter Try.func24, Try.ntmps24
  go_wp2_with (first | (go_at_call 37; (with_reducible refine (alignValid_8 _).mono ?_); rintro e w' ⟨rfl, rfl⟩))
  go_ret
  exact ⟨ret_int (by rw [i64_clear _ _ 3 (by omega) (by decide) (by omega) (by omega)]; omega), rfl⟩

theorem alignUp'_low (n to : Int) (h : n < 0) (w : World) :
    Calls Try.prog 25 #[.int .i64 n, .int .i64 to] w fun e w' => e = .returned (.int .i64 (-1)) ∧ w = w' := by
  go_enter Try.func25, Try.ntmps25
  go_wp2_with (first | (go_at_call 33; (with_reducible refine (l1In_low _ _ _ h _).mono ?_); rintro e w' ⟨rfl, rfl⟩))
  go_ret
  exact ⟨rfl, rfl⟩

theorem alignUp'_high (n to : Int) (h : 1000000 < n) (w : World) :
    Calls Try.prog 25 #[.int .i64 n, .int .i64 to] w fun e w' => e = .returned (.int .i64 (-1)) ∧ w = w' := by
  go_enter Try.func25, Try.ntmps25
  go_wp2_with (first | (go_at_call 33; (with_reducible refine (l1In_high _ _ _ h _).mono ?_); rintro e w' ⟨rfl, rfl⟩))
  go_ret
  exact ⟨rfl, rfl⟩

theorem alignUp'_no (n to : Int) (h0 : 0 ≤ n) (h : n ≤ 1000000) (h1 : (to == 1) = false) (h2 : (to == 2) = false) (h4 : (to == 4) = false) (h8 : (to == 8) = false) (w : World) :
    Calls Try.prog 25 #[.int .i64 n, .int .i64 to] w fun e w' => e = .returned (.int .i64 (-1)) ∧ w = w' := by
  have g1 : (to != 1) = true := by simp only [bne, h1]; rfl
  have g2 : (to != 2) = true := by simp only [bne, h2]; rfl
  have g4 : (to != 4) = true := by simp only [bne, h4]; rfl
  have g8 : (to != 8) = true := by simp only [bne, h8]; rfl
  go_enter Try.func25, Try.ntmps25
  go_wp2_with (first | (go_at_call 33; (with_reducible refine (l1In_yes _ _ _ h0 h _).mono ?_); rintro e w' ⟨rfl, rfl⟩))
  go_ret
  exact ⟨rfl, rfl⟩

theorem alignUp'_1 (n : Int) (h : 0 ≤ n) (h' : n ≤ 1000000) (w : World) :
    Calls Try.prog 25 #[.int .i64 n, .int .i64 1] w fun e w' => e = .returned (.int .i64 ((n + 0) / 1 * 1)) ∧ w = w' := by
  go_enter Try.func25, Try.ntmps25
  go_wp2_with (first | (go_at_call 33; (with_reducible refine (l1In_yes _ _ _ h h' _).mono ?_); rintro e w' ⟨rfl, rfl⟩))
  go_ret
  exact ⟨ret_int (by omega), rfl⟩

theorem alignUp'_2 (n : Int) (h : 0 ≤ n) (h' : n ≤ 1000000) (w : World) :
    Calls Try.prog 25 #[.int .i64 n, .int .i64 2] w fun e w' => e = .returned (.int .i64 ((n + 1) / 2 * 2)) ∧ w = w' := by
  go_enter Try.func25, Try.ntmps25
  go_wp2_with (first | (go_at_call 33; (with_reducible refine (l1In_yes _ _ _ h h' _).mono ?_); rintro e w' ⟨rfl, rfl⟩))
  go_ret
  exact ⟨ret_int (by omega), rfl⟩

theorem alignUp'_4 (n : Int) (h : 0 ≤ n) (h' : n ≤ 1000000) (w : World) :
    Calls Try.prog 25 #[.int .i64 n, .int .i64 4] w fun e w' => e = .returned (.int .i64 ((n + 3) / 4 * 4)) ∧ w = w' := by
  go_enter Try.func25, Try.ntmps25
  go_wp2_with (first | (go_at_call 33; (with_reducible refine (l1In_yes _ _ _ h h' _).mono ?_); rintro e w' ⟨rfl, rfl⟩))
  go_ret
  exact ⟨ret_int (by omega), rfl⟩

theorem alignUp'_8 (n : Int) (h : 0 ≤ n) (h' : n ≤ 1000000) (w : World) :
    Calls Try.prog 25 #[.int .i64 n, .int .i64 8] w fun e w' => e = .returned (.int .i64 ((n + 7) / 8 * 8)) ∧ w = w' := by
  go_enter Try.func25, Try.ntmps25
  go_wp2_with (first | (go_at_call 33; (with_reducible refine (l1In_yes _ _ _ h h' _).mono ?_); rintro e w' ⟨rfl, rfl⟩))
  go_ret
  exact ⟨ret_int (by omega), rfl⟩

theorem l1Power_1  (w : World) :
    Calls Try.prog 34 #[.int .i64 1] w fun e w' => e = .returned (.int .i64 256) ∧ w = w' := by
  go_enter Try.func34, Try.ntmps34
  go_wp2
  go_rounds 5
  go_ret
  exact ⟨rfl, rfl⟩

theorem l1Power_2  (w : World) :
    Calls Try.prog 34 #[.int .i64 2] w fun e w' => e = .returned (.int .i64 65536) ∧ w = w' := by
  go_enter Try.func34, Try.ntmps34
  go_wp2
  go_rounds 5
  go_ret
  exact ⟨rfl, rfl⟩

theorem l1Power_3  (w : World) :
    Calls Try.prog 34 #[.int .i64 3] w fun e w' => e = .returned (.int .i64 16777216) ∧ w = w' := by
  go_enter Try.func34, Try.ntmps34
  go_wp2
  go_rounds 5
  go_ret
  exact ⟨rfl, rfl⟩

theorem l1Power_4  (w : World) :
    Calls Try.prog 34 #[.int .i64 4] w fun e w' => e = .returned (.int .i64 4294967296) ∧ w = w' := by
  go_enter Try.func34, Try.ntmps34
  go_wp2
  go_rounds 5
  go_ret
  exact ⟨rfl, rfl⟩

theorem wideValid_yes (k : Int) (h : 1 ≤ k) (h' : k ≤ 4) (w : World) :
    Calls Try.prog 35 #[.int .i64 k] w fun e w' => e = .returned (.bool true) ∧ w = w' := by
  go_enter Try.func35, Try.ntmps35
  go_wp2
  go_ret
  exact ⟨rfl, rfl⟩

theorem wideValid_low (k : Int) (h : k < 1) (w : World) :
    Calls Try.prog 35 #[.int .i64 k] w fun e w' => e = .returned (.bool false) ∧ w = w' := by
  go_enter Try.func35, Try.ntmps35
  go_wp2
  go_ret
  exact ⟨rfl, rfl⟩

theorem wideValid_high (k : Int) (h : 4 < k) (w : World) :
    Calls Try.prog 35 #[.int .i64 k] w fun e w' => e = .returned (.bool false) ∧ w = w' := by
  have h' : 1 ≤ k := by omega
  have hd : decide (k ≤ 4) = false := by simp; omega
  go_enter Try.func35, Try.ntmps35
  go_wp2
  go_ret
  exact ⟨rfl, rfl⟩

theorem fitsWide_bad (n k : Int) (h : k < 1 ∨ 4 < k) (w : World) :
    Calls Try.prog 32 #[.int .i64 n, .int .i64 k] w fun e w' => e = .returned (.bool false) ∧ w = w' := by
  rcases h with h | h
  · go_enter Try.func32, Try.ntmps32
    go_wp2_with (go_at_call 35; (with_reducible refine (wideValid_low _ h _).mono ?_); rintro e w' ⟨rfl, rfl⟩)
    go_ret
    exact ⟨rfl, rfl⟩
  · go_enter Try.func32, Try.ntmps32
    go_wp2_with (go_at_call 35; (with_reducible refine (wideValid_high _ h _).mono ?_); rintro e w' ⟨rfl, rfl⟩)
    go_ret
    exact ⟨rfl, rfl⟩

theorem fitsWide_neg (n k : Int) (h : 1 ≤ k) (h' : k ≤ 4) (hn : n < 0) (w : World) :
    Calls Try.prog 32 #[.int .i64 n, .int .i64 k] w fun e w' => e = .returned (.bool false) ∧ w = w' := by
  go_enter Try.func32, Try.ntmps32
  go_wp2_with (first | (go_at_call 35; (with_reducible refine (wideValid_yes _ h h' _).mono ?_); rintro e w' ⟨rfl, rfl⟩))
  go_ret
  exact ⟨rfl, rfl⟩

theorem fitsWide_big1 (n : Int) (hn : 256 ≤ n) (w : World) :
    Calls Try.prog 32 #[.int .i64 n, .int .i64 1] w fun e w' => e = .returned (.bool false) ∧ w = w' := by
  have h0 : 0 ≤ n := by omega
  have hd : (n / 256 == 0) = false := by simp; omega
  go_enter Try.func32, Try.ntmps32
  go_wp2_with (first | (go_at_call 35; (with_reducible refine (wideValid_yes _ (by omega) (by omega) _).mono ?_); rintro e w' ⟨rfl, rfl⟩))
  go_ret
  exact ⟨rfl, rfl⟩

theorem fitsWide_1 (n : Int) (h0 : 0 ≤ n) (hn : n < 256) (w : World) :
    Calls Try.prog 32 #[.int .i64 n, .int .i64 1] w fun e w' => e = .returned (.bool true) ∧ w = w' := by
  have hd : (n / 256 == 0) = true := by simp; omega
  go_enter Try.func32, Try.ntmps32
  go_wp2_with (first | (go_at_call 35; (with_reducible refine (wideValid_yes _ (by omega) (by omega) _).mono ?_); rintro e w' ⟨rfl, rfl⟩))
  go_ret
  exact ⟨rfl, rfl⟩

theorem fitsWide_big2 (n : Int) (hn : 65536 ≤ n) (w : World) :
    Calls Try.prog 32 #[.int .i64 n, .int .i64 2] w fun e w' => e = .returned (.bool false) ∧ w = w' := by
  have h0 : 0 ≤ n := by omega
  have hd : (n / 65536 == 0) = false := by simp; omega
  go_enter Try.func32, Try.ntmps32
  go_wp2_with (first | (go_at_call 35; (with_reducible refine (wideValid_yes _ (by omega) (by omega) _).mono ?_); rintro e w' ⟨rfl, rfl⟩))
  go_ret
  exact ⟨rfl, rfl⟩

theorem fitsWide_2 (n : Int) (h0 : 0 ≤ n) (hn : n < 65536) (w : World) :
    Calls Try.prog 32 #[.int .i64 n, .int .i64 2] w fun e w' => e = .returned (.bool true) ∧ w = w' := by
  have hd : (n / 65536 == 0) = true := by simp; omega
  go_enter Try.func32, Try.ntmps32
  go_wp2_with (first | (go_at_call 35; (with_reducible refine (wideValid_yes _ (by omega) (by omega) _).mono ?_); rintro e w' ⟨rfl, rfl⟩))
  go_ret
  exact ⟨rfl, rfl⟩

theorem fitsWide_big3 (n : Int) (hn : 16777216 ≤ n) (w : World) :
    Calls Try.prog 32 #[.int .i64 n, .int .i64 3] w fun e w' => e = .returned (.bool false) ∧ w = w' := by
  have h0 : 0 ≤ n := by omega
  have hd : (n / 16777216 == 0) = false := by simp; omega
  go_enter Try.func32, Try.ntmps32
  go_wp2_with (first | (go_at_call 35; (with_reducible refine (wideValid_yes _ (by omega) (by omega) _).mono ?_); rintro e w' ⟨rfl, rfl⟩))
  go_ret
  exact ⟨rfl, rfl⟩

theorem fitsWide_3 (n : Int) (h0 : 0 ≤ n) (hn : n < 16777216) (w : World) :
    Calls Try.prog 32 #[.int .i64 n, .int .i64 3] w fun e w' => e = .returned (.bool true) ∧ w = w' := by
  have hd : (n / 16777216 == 0) = true := by simp; omega
  go_enter Try.func32, Try.ntmps32
  go_wp2_with (first | (go_at_call 35; (with_reducible refine (wideValid_yes _ (by omega) (by omega) _).mono ?_); rintro e w' ⟨rfl, rfl⟩))
  go_ret
  exact ⟨rfl, rfl⟩

theorem fitsWide_big4 (n : Int) (hn : 4294967296 ≤ n) (w : World) :
    Calls Try.prog 32 #[.int .i64 n, .int .i64 4] w fun e w' => e = .returned (.bool false) ∧ w = w' := by
  have h0 : 0 ≤ n := by omega
  have hd : (n / 4294967296 == 0) = false := by simp; omega
  go_enter Try.func32, Try.ntmps32
  go_wp2_with (first | (go_at_call 35; (with_reducible refine (wideValid_yes _ (by omega) (by omega) _).mono ?_); rintro e w' ⟨rfl, rfl⟩))
  go_ret
  exact ⟨rfl, rfl⟩

theorem fitsWide_4 (n : Int) (h0 : 0 ≤ n) (hn : n < 4294967296) (w : World) :
    Calls Try.prog 32 #[.int .i64 n, .int .i64 4] w fun e w' => e = .returned (.bool true) ∧ w = w' := by
  have hd : (n / 4294967296 == 0) = true := by simp; omega
  go_enter Try.func32, Try.ntmps32
  go_wp2_with (first | (go_at_call 35; (with_reducible refine (wideValid_yes _ (by omega) (by omega) _).mono ?_); rintro e w' ⟨rfl, rfl⟩))
  go_ret
  exact ⟨rfl, rfl⟩

theorem signedOf_bad (n k : Int) (h : k < 1 ∨ 4 < k) (w : World) :
    Calls Try.prog 21 #[.int .i64 n, .int .i64 k] w fun e w' => e = .returned (.int .i64 0) ∧ w = w' := by
  go_enter Try.func21, Try.ntmps21
  go_wp2_with (first | (go_at_call 32; (with_reducible refine (fitsWide_bad _ _ h _).mono ?_); rintro e w' ⟨rfl, rfl⟩))
  go_ret
  exact ⟨rfl, rfl⟩

theorem signedOf_neg (n k : Int) (h : 1 ≤ k) (h' : k ≤ 4) (hn : n < 0) (w : World) :
    Calls Try.prog 21 #[.int .i64 n, .int .i64 k] w fun e w' => e = .returned (.int .i64 0) ∧ w = w' := by
  go_enter Try.func21, Try.ntmps21
  go_wp2_with (first | (go_at_call 32; (with_reducible refine (fitsWide_neg _ _ h h' hn _).mono ?_); rintro e w' ⟨rfl, rfl⟩))
  go_ret
  exact ⟨rfl, rfl⟩

theorem signedOf_big1 (n : Int) (hn : 256 ≤ n) (w : World) :
    Calls Try.prog 21 #[.int .i64 n, .int .i64 1] w fun e w' => e = .returned (.int .i64 0) ∧ w = w' := by
  go_enter Try.func21, Try.ntmps21
  go_wp2_with (first | (go_at_call 32; (with_reducible refine (fitsWide_big1 _ hn _).mono ?_); rintro e w' ⟨rfl, rfl⟩))
  go_ret
  exact ⟨rfl, rfl⟩

theorem signedOf_lo1 (n : Int) (h0 : 0 ≤ n) (hn : n < 128) (w : World) :
    Calls Try.prog 21 #[.int .i64 n, .int .i64 1] w fun e w' => e = .returned (.int .i64 n) ∧ w = w' := by
  have hd : (n / 128 == 0) = true := by simp; omega
  go_enter Try.func21, Try.ntmps21
  go_wp2_with (first | (go_at_call 32; (with_reducible refine (fitsWide_1 _ h0 (by omega) _).mono ?_); rintro e w' ⟨rfl, rfl⟩))
  go_ret
  exact ⟨rfl, rfl⟩

theorem signedOf_hi1 (n : Int) (h0 : 128 ≤ n) (hn : n < 256) (w : World) :
    Calls Try.prog 21 #[.int .i64 n, .int .i64 1] w fun e w' => e = .returned (.int .i64 (n - 256)) ∧ w = w' := by
  have hd : (n / 128 == 0) = false := by simp; omega
  go_enter Try.func21, Try.ntmps21
  go_wp2_with (first | (go_at_call 32; (with_reducible refine (fitsWide_1 _ (by omega) hn _).mono ?_); rintro e w' ⟨rfl, rfl⟩))
  go_ret
  exact ⟨ret_int (by omega), rfl⟩

theorem signedOf_big2 (n : Int) (hn : 65536 ≤ n) (w : World) :
    Calls Try.prog 21 #[.int .i64 n, .int .i64 2] w fun e w' => e = .returned (.int .i64 0) ∧ w = w' := by
  go_enter Try.func21, Try.ntmps21
  go_wp2_with (first | (go_at_call 32; (with_reducible refine (fitsWide_big2 _ hn _).mono ?_); rintro e w' ⟨rfl, rfl⟩))
  go_ret
  exact ⟨rfl, rfl⟩

theorem signedOf_lo2 (n : Int) (h0 : 0 ≤ n) (hn : n < 32768) (w : World) :
    Calls Try.prog 21 #[.int .i64 n, .int .i64 2] w fun e w' => e = .returned (.int .i64 n) ∧ w = w' := by
  have hd : (n / 32768 == 0) = true := by simp; omega
  go_enter Try.func21, Try.ntmps21
  go_wp2_with (first | (go_at_call 32; (with_reducible refine (fitsWide_2 _ h0 (by omega) _).mono ?_); rintro e w' ⟨rfl, rfl⟩))
  go_ret
  exact ⟨rfl, rfl⟩

theorem signedOf_hi2 (n : Int) (h0 : 32768 ≤ n) (hn : n < 65536) (w : World) :
    Calls Try.prog 21 #[.int .i64 n, .int .i64 2] w fun e w' => e = .returned (.int .i64 (n - 65536)) ∧ w = w' := by
  have hd : (n / 32768 == 0) = false := by simp; omega
  go_enter Try.func21, Try.ntmps21
  go_wp2_with (first | (go_at_call 32; (with_reducible refine (fitsWide_2 _ (by omega) hn _).mono ?_); rintro e w' ⟨rfl, rfl⟩))
  go_ret
  exact ⟨ret_int (by omega), rfl⟩

theorem signedOf_big3 (n : Int) (hn : 16777216 ≤ n) (w : World) :
    Calls Try.prog 21 #[.int .i64 n, .int .i64 3] w fun e w' => e = .returned (.int .i64 0) ∧ w = w' := by
  go_enter Try.func21, Try.ntmps21
  go_wp2_with (first | (go_at_call 32; (with_reducible refine (fitsWide_big3 _ hn _).mono ?_); rintro e w' ⟨rfl, rfl⟩))
  go_ret
  exact ⟨rfl, rfl⟩

theorem signedOf_lo3 (n : Int) (h0 : 0 ≤ n) (hn : n < 8388608) (w : World) :
    Calls Try.prog 21 #[.int .i64 n, .int .i64 3] w fun e w' => e = .returned (.int .i64 n) ∧ w = w' := by
  have hd : (n / 8388608 == 0) = true := by simp; omega
  go_enter Try.func21, Try.ntmps21
  go_wp2_with (first | (go_at_call 32; (with_reducible refine (fitsWide_3 _ h0 (by omega) _).mono ?_); rintro e w' ⟨rfl, rfl⟩))
  go_ret
  exact ⟨rfl, rfl⟩

theorem signedOf_hi3 (n : Int) (h0 : 8388608 ≤ n) (hn : n < 16777216) (w : World) :
    Calls Try.prog 21 #[.int .i64 n, .int .i64 3] w fun e w' => e = .returned (.int .i64 (n - 16777216)) ∧ w = w' := by
  have hd : (n / 8388608 == 0) = false := by simp; omega
  go_enter Try.func21, Try.ntmps21
  go_wp2_with (first | (go_at_call 32; (with_reducible refine (fitsWide_3 _ (by omega) hn _).mono ?_); rintro e w' ⟨rfl, rfl⟩))
  go_ret
  exact ⟨ret_int (by omega), rfl⟩

theorem signedOf_big4 (n : Int) (hn : 4294967296 ≤ n) (w : World) :
    Calls Try.prog 21 #[.int .i64 n, .int .i64 4] w fun e w' => e = .returned (.int .i64 0) ∧ w = w' := by
  go_enter Try.func21, Try.ntmps21
  go_wp2_with (first | (go_at_call 32; (with_reducible refine (fitsWide_big4 _ hn _).mono ?_); rintro e w' ⟨rfl, rfl⟩))
  go_ret
  exact ⟨rfl, rfl⟩

theorem signedOf_lo4 (n : Int) (h0 : 0 ≤ n) (hn : n < 2147483648) (w : World) :
    Calls Try.prog 21 #[.int .i64 n, .int .i64 4] w fun e w' => e = .returned (.int .i64 n) ∧ w = w' := by
  have hd : (n / 2147483648 == 0) = true := by simp; omega
  go_enter Try.func21, Try.ntmps21
  go_wp2_with (first | (go_at_call 32; (with_reducible refine (fitsWide_4 _ h0 (by omega) _).mono ?_); rintro e w' ⟨rfl, rfl⟩))
  go_ret
  exact ⟨rfl, rfl⟩

theorem signedOf_hi4 (n : Int) (h0 : 2147483648 ≤ n) (hn : n < 4294967296) (w : World) :
    Calls Try.prog 21 #[.int .i64 n, .int .i64 4] w fun e w' => e = .returned (.int .i64 (n - 4294967296)) ∧ w = w' := by
  have hd : (n / 2147483648 == 0) = false := by simp; omega
  go_enter Try.func21, Try.ntmps21
  go_wp2_with (first | (go_at_call 32; (with_reducible refine (fitsWide_4 _ (by omega) hn _).mono ?_); rintro e w' ⟨rfl, rfl⟩))
  go_ret
  exact ⟨ret_int (by omega), rfl⟩

theorem signedOf'_bad (n k : Int) (h : k < 1 ∨ 4 < k) (w : World) :
    Calls Try.prog 22 #[.int .i64 n, .int .i64 k] w fun e w' => e = .returned (.int .i64 0) ∧ w = w' := by
  rcases h with h | h
  · go_enter Try.func22, Try.ntmps22
    go_wp2_with (first | (go_at_call 33; (with_reducible refine (l1In_low _ _ _ h _).mono ?_); rintro e w' ⟨rfl, rfl⟩))
    go_ret
    exact ⟨rfl, rfl⟩
  · go_enter Try.func22, Try.ntmps22
    go_wp2_with (first | (go_at_call 33; (with_reducible refine (l1In_high _ _ _ h _).mono ?_); rintro e w' ⟨rfl, rfl⟩))
    go_ret
    exact ⟨rfl, rfl⟩

theorem signedOf'_neg1 (n : Int) (hn : n < 0) (w : World) :
    Calls Try.prog 22 #[.int .i64 n, .int .i64 1] w fun e w' => e = .returned (.int .i64 0) ∧ w = w' := by
  go_enter Try.func22, Try.ntmps22
  go_wp2_with (first | (go_at_call 34; (with_reducible refine (l1Power_1 _).mono ?_); rintro e w' ⟨rfl, rfl⟩) | (go_at_call 33; (with_reducible refine (l1In_yes 1 1 4 (by omega) (by omega) _).mono ?_); rintro e w' ⟨rfl, rfl⟩) | (go_at_call 33; (with_reducible refine (l1In_low n _ _ hn _).mono ?_); rintro e w' ⟨rfl, rfl⟩))
  go_ret
  exact ⟨rfl, rfl⟩

theorem signedOf'_big1 (n : Int) (hn : 256 ≤ n) (w : World) :
    Calls Try.prog 22 #[.int .i64 n, .int .i64 1] w fun e w' => e = .returned (.int .i64 0) ∧ w = w' := by
  go_enter Try.func22, Try.ntmps22
  go_wp2_with (first | (go_at_call 34; (with_reducible refine (l1Power_1 _).mono ?_); rintro e w' ⟨rfl, rfl⟩) | (go_at_call 33; (with_reducible refine (l1In_yes 1 1 4 (by omega) (by omega) _).mono ?_); rintro e w' ⟨rfl, rfl⟩) | (go_at_call 33; (with_reducible refine (l1In_high n _ _ (by omega) _).mono ?_); rintro e w' ⟨rfl, rfl⟩))
  go_ret
  exact ⟨rfl, rfl⟩

theorem signedOf'_lo1 (n : Int) (h0 : 0 ≤ n) (hn : n < 128) (w : World) :
    Calls Try.prog 22 #[.int .i64 n, .int .i64 1] w fun e w' => e = .returned (.int .i64 n) ∧ w = w' := by
  go_enter Try.func22, Try.ntmps22
  go_wp2_with (first | (go_at_call 34; (with_reducible refine (l1Power_1 _).mono ?_); rintro e w' ⟨rfl, rfl⟩) | (go_at_call 33; (with_reducible refine (l1In_yes 1 1 4 (by omega) (by omega) _).mono ?_); rintro e w' ⟨rfl, rfl⟩) | (go_at_call 33; (with_reducible refine (l1In_yes n _ _ h0 (by omega) _).mono ?_); rintro e w' ⟨rfl, rfl⟩))
  go_ret
  exact ⟨rfl, rfl⟩

theorem signedOf'_hi1 (n : Int) (h0 : 128 ≤ n) (hn : n < 256) (w : World) :
    Calls Try.prog 22 #[.int .i64 n, .int .i64 1] w fun e w' => e = .returned (.int .i64 (n - 256)) ∧ w = w' := by
  go_enter Try.func22, Try.ntmps22
  go_wp2_with (first | (go_at_call 34; (with_reducible refine (l1Power_1 _).mono ?_); rintro e w' ⟨rfl, rfl⟩) | (go_at_call 33; (with_reducible refine (l1In_yes 1 1 4 (by omega) (by omega) _).mono ?_); rintro e w' ⟨rfl, rfl⟩) | (go_at_call 33; (with_reducible refine (l1In_yes n _ _ (by omega) (by omega) _).mono ?_); rintro e w' ⟨rfl, rfl⟩))
  go_ret
  exact ⟨ret_int (by omega), rfl⟩

theorem signedOf'_neg2 (n : Int) (hn : n < 0) (w : World) :
    Calls Try.prog 22 #[.int .i64 n, .int .i64 2] w fun e w' => e = .returned (.int .i64 0) ∧ w = w' := by
  go_enter Try.func22, Try.ntmps22
  go_wp2_with (first | (go_at_call 34; (with_reducible refine (l1Power_2 _).mono ?_); rintro e w' ⟨rfl, rfl⟩) | (go_at_call 33; (with_reducible refine (l1In_yes 2 1 4 (by omega) (by omega) _).mono ?_); rintro e w' ⟨rfl, rfl⟩) | (go_at_call 33; (with_reducible refine (l1In_low n _ _ hn _).mono ?_); rintro e w' ⟨rfl, rfl⟩))
  go_ret
  exact ⟨rfl, rfl⟩

theorem signedOf'_big2 (n : Int) (hn : 65536 ≤ n) (w : World) :
    Calls Try.prog 22 #[.int .i64 n, .int .i64 2] w fun e w' => e = .returned (.int .i64 0) ∧ w = w' := by
  go_enter Try.func22, Try.ntmps22
  go_wp2_with (first | (go_at_call 34; (with_reducible refine (l1Power_2 _).mono ?_); rintro e w' ⟨rfl, rfl⟩) | (go_at_call 33; (with_reducible refine (l1In_yes 2 1 4 (by omega) (by omega) _).mono ?_); rintro e w' ⟨rfl, rfl⟩) | (go_at_call 33; (with_reducible refine (l1In_high n _ _ (by omega) _).mono ?_); rintro e w' ⟨rfl, rfl⟩))
  go_ret
  exact ⟨rfl, rfl⟩

theorem signedOf'_lo2 (n : Int) (h0 : 0 ≤ n) (hn : n < 32768) (w : World) :
    Calls Try.prog 22 #[.int .i64 n, .int .i64 2] w fun e w' => e = .returned (.int .i64 n) ∧ w = w' := by
  go_enter Try.func22, Try.ntmps22
  go_wp2_with (first | (go_at_call 34; (with_reducible refine (l1Power_2 _).mono ?_); rintro e w' ⟨rfl, rfl⟩) | (go_at_call 33; (with_reducible refine (l1In_yes 2 1 4 (by omega) (by omega) _).mono ?_); rintro e w' ⟨rfl, rfl⟩) | (go_at_call 33; (with_reducible refine (l1In_yes n _ _ h0 (by omega) _).mono ?_); rintro e w' ⟨rfl, rfl⟩))
  go_ret
  exact ⟨rfl, rfl⟩

theorem signedOf'_hi2 (n : Int) (h0 : 32768 ≤ n) (hn : n < 65536) (w : World) :
    Calls Try.prog 22 #[.int .i64 n, .int .i64 2] w fun e w' => e = .returned (.int .i64 (n - 65536)) ∧ w = w' := by
  go_enter Try.func22, Try.ntmps22
  go_wp2_with (first | (go_at_call 34; (with_reducible refine (l1Power_2 _).mono ?_); rintro e w' ⟨rfl, rfl⟩) | (go_at_call 33; (with_reducible refine (l1In_yes 2 1 4 (by omega) (by omega) _).mono ?_); rintro e w' ⟨rfl, rfl⟩) | (go_at_call 33; (with_reducible refine (l1In_yes n _ _ (by omega) (by omega) _).mono ?_); rintro e w' ⟨rfl, rfl⟩))
  go_ret
  exact ⟨ret_int (by omega), rfl⟩

theorem signedOf'_neg3 (n : Int) (hn : n < 0) (w : World) :
    Calls Try.prog 22 #[.int .i64 n, .int .i64 3] w fun e w' => e = .returned (.int .i64 0) ∧ w = w' := by
  go_enter Try.func22, Try.ntmps22
  go_wp2_with (first | (go_at_call 34; (with_reducible refine (l1Power_3 _).mono ?_); rintro e w' ⟨rfl, rfl⟩) | (go_at_call 33; (with_reducible refine (l1In_yes 3 1 4 (by omega) (by omega) _).mono ?_); rintro e w' ⟨rfl, rfl⟩) | (go_at_call 33; (with_reducible refine (l1In_low n _ _ hn _).mono ?_); rintro e w' ⟨rfl, rfl⟩))
  go_ret
  exact ⟨rfl, rfl⟩

theorem signedOf'_big3 (n : Int) (hn : 16777216 ≤ n) (w : World) :
    Calls Try.prog 22 #[.int .i64 n, .int .i64 3] w fun e w' => e = .returned (.int .i64 0) ∧ w = w' := by
  go_enter Try.func22, Try.ntmps22
  go_wp2_with (first | (go_at_call 34; (with_reducible refine (l1Power_3 _).mono ?_); rintro e w' ⟨rfl, rfl⟩) | (go_at_call 33; (with_reducible refine (l1In_yes 3 1 4 (by omega) (by omega) _).mono ?_); rintro e w' ⟨rfl, rfl⟩) | (go_at_call 33; (with_reducible refine (l1In_high n _ _ (by omega) _).mono ?_); rintro e w' ⟨rfl, rfl⟩))
  go_ret
  exact ⟨rfl, rfl⟩

theorem signedOf'_lo3 (n : Int) (h0 : 0 ≤ n) (hn : n < 8388608) (w : World) :
    Calls Try.prog 22 #[.int .i64 n, .int .i64 3] w fun e w' => e = .returned (.int .i64 n) ∧ w = w' := by
  go_enter Try.func22, Try.ntmps22
  go_wp2_with (first | (go_at_call 34; (with_reducible refine (l1Power_3 _).mono ?_); rintro e w' ⟨rfl, rfl⟩) | (go_at_call 33; (with_reducible refine (l1In_yes 3 1 4 (by omega) (by omega) _).mono ?_); rintro e w' ⟨rfl, rfl⟩) | (go_at_call 33; (with_reducible refine (l1In_yes n _ _ h0 (by omega) _).mono ?_); rintro e w' ⟨rfl, rfl⟩))
  go_ret
  exact ⟨rfl, rfl⟩

theorem signedOf'_hi3 (n : Int) (h0 : 8388608 ≤ n) (hn : n < 16777216) (w : World) :
    Calls Try.prog 22 #[.int .i64 n, .int .i64 3] w fun e w' => e = .returned (.int .i64 (n - 16777216)) ∧ w = w' := by
  go_enter Try.func22, Try.ntmps22
  go_wp2_with (first | (go_at_call 34; (with_reducible refine (l1Power_3 _).mono ?_); rintro e w' ⟨rfl, rfl⟩) | (go_at_call 33; (with_reducible refine (l1In_yes 3 1 4 (by omega) (by omega) _).mono ?_); rintro e w' ⟨rfl, rfl⟩) | (go_at_call 33; (with_reducible refine (l1In_yes n _ _ (by omega) (by omega) _).mono ?_); rintro e w' ⟨rfl, rfl⟩))
  go_ret
  exact ⟨ret_int (by omega), rfl⟩

theorem signedOf'_neg4 (n : Int) (hn : n < 0) (w : World) :
    Calls Try.prog 22 #[.int .i64 n, .int .i64 4] w fun e w' => e = .returned (.int .i64 0) ∧ w = w' := by
  go_enter Try.func22, Try.ntmps22
  go_wp2_with (first | (go_at_call 34; (with_reducible refine (l1Power_4 _).mono ?_); rintro e w' ⟨rfl, rfl⟩) | (go_at_call 33; (with_reducible refine (l1In_yes 4 1 4 (by omega) (by omega) _).mono ?_); rintro e w' ⟨rfl, rfl⟩) | (go_at_call 33; (with_reducible refine (l1In_low n _ _ hn _).mono ?_); rintro e w' ⟨rfl, rfl⟩))
  go_ret
  exact ⟨rfl, rfl⟩

theorem signedOf'_big4 (n : Int) (hn : 4294967296 ≤ n) (w : World) :
    Calls Try.prog 22 #[.int .i64 n, .int .i64 4] w fun e w' => e = .returned (.int .i64 0) ∧ w = w' := by
  go_enter Try.func22, Try.ntmps22
  go_wp2_with (first | (go_at_call 34; (with_reducible refine (l1Power_4 _).mono ?_); rintro e w' ⟨rfl, rfl⟩) | (go_at_call 33; (with_reducible refine (l1In_yes 4 1 4 (by omega) (by omega) _).mono ?_); rintro e w' ⟨rfl, rfl⟩) | (go_at_call 33; (with_reducible refine (l1In_high n _ _ (by omega) _).mono ?_); rintro e w' ⟨rfl, rfl⟩))
  go_ret
  exact ⟨rfl, rfl⟩

theorem signedOf'_lo4 (n : Int) (h0 : 0 ≤ n) (hn : n < 2147483648) (w : World) :
    Calls Try.prog 22 #[.int .i64 n, .int .i64 4] w fun e w' => e = .returned (.int .i64 n) ∧ w = w' := by
  go_enter Try.func22, Try.ntmps22
  go_wp2_with (first | (go_at_call 34; (with_reducible refine (l1Power_4 _).mono ?_); rintro e w' ⟨rfl, rfl⟩) | (go_at_call 33; (with_reducible refine (l1In_yes 4 1 4 (by omega) (by omega) _).mono ?_); rintro e w' ⟨rfl, rfl⟩) | (go_at_call 33; (with_reducible refine (l1In_yes n _ _ h0 (by omega) _).mono ?_); rintro e w' ⟨rfl, rfl⟩))
  go_ret
  exact ⟨rfl, rfl⟩

theorem signedOf'_hi4 (n : Int) (h0 : 2147483648 ≤ n) (hn : n < 4294967296) (w : World) :
    Calls Try.prog 22 #[.int .i64 n, .int .i64 4] w fun e w' => e = .returned (.int .i64 (n - 4294967296)) ∧ w = w' := by
  go_enter Try.func22, Try.ntmps22
  go_wp2_with (first | (go_at_call 34; (with_reducible refine (l1Power_4 _).mono ?_); rintro e w' ⟨rfl, rfl⟩) | (go_at_call 33; (with_reducible refine (l1In_yes 4 1 4 (by omega) (by omega) _).mono ?_); rintro e w' ⟨rfl, rfl⟩) | (go_at_call 33; (with_reducible refine (l1In_yes n _ _ (by omega) (by omega) _).mono ?_); rintro e w' ⟨rfl, rfl⟩))
  go_ret
  exact ⟨ret_int (by omega), rfl⟩

end Go.Proofs.Ytiplcfgfababaaa
