import Derived.Test.YtjcfjpoodahlfaaGreatDoorMem
namespace Go.Proofs.YtjcfjpoodahlfaaGreatDoor
open Go.RowKit
theorem alignUp'_low (n to : Int) (h : n < 0) (w : World) :
    Calls Tryz.prog 73 #[.int .i64 n, .int .i64 to] w fun e w' => e = .returned (.int .i64 (-1)) ∧ w = w' := by
  go_enter Tryz.func73, Tryz.ntmps73
  go_wp2_with (first | (go_at_call 71; (with_reducible refine (l1In_low _ _ _ h _).mono ?_); rintro e w' ⟨rfl, rfl⟩))
  go_ret
  exact ⟨rfl, rfl⟩
theorem alignUp'_high (n to : Int) (h : 1000000 < n) (w : World) :
    Calls Tryz.prog 73 #[.int .i64 n, .int .i64 to] w fun e w' => e = .returned (.int .i64 (-1)) ∧ w = w' := by
  go_enter Tryz.func73, Tryz.ntmps73
  go_wp2_with (first | (go_at_call 71; (with_reducible refine (l1In_high _ _ _ h _).mono ?_); rintro e w' ⟨rfl, rfl⟩))
  go_ret
  exact ⟨rfl, rfl⟩
theorem alignUp'_no (n to : Int) (h0 : 0 ≤ n) (h : n ≤ 1000000) (h1 : (to == 1) = false) (h2 : (to == 2) = false) (h4 : (to == 4) = false) (h8 : (to == 8) = false) (w : World) :
    Calls Tryz.prog 73 #[.int .i64 n, .int .i64 to] w fun e w' => e = .returned (.int .i64 (-1)) ∧ w = w' := by
  have g1 : (to != 1) = true := by simp only [bne, h1]; rfl
  have g2 : (to != 2) = true := by simp only [bne, h2]; rfl
  have g4 : (to != 4) = true := by simp only [bne, h4]; rfl
  have g8 : (to != 8) = true := by simp only [bne, h8]; rfl
  go_enter Tryz.func73, Tryz.ntmps73
  go_wp2_with (first | (go_at_call 71; (with_reducible refine (l1In_yes _ _ _ h0 h _).mono ?_); rintro e w' ⟨rfl, rfl⟩))
  go_ret
  exact ⟨rfl, rfl⟩
theorem alignUp'_1 (n : Int) (h : 0 ≤ n) (h' : n ≤ 1000000) (w : World) :
    Calls Tryz.prog 73 #[.int .i64 n, .int .i64 1] w fun e w' => e = .returned (.int .i64 ((n + 0) / 1 * 1)) ∧ w = w' := by
  go_enter Tryz.func73, Tryz.ntmps73
  go_wp2_with (first | (go_at_call 71; (with_reducible refine (l1In_yes _ _ _ h h' _).mono ?_); rintro e w' ⟨rfl, rfl⟩))
  go_ret
  exact ⟨ret_int (by omega), rfl⟩
theorem alignUp'_2 (n : Int) (h : 0 ≤ n) (h' : n ≤ 1000000) (w : World) :
    Calls Tryz.prog 73 #[.int .i64 n, .int .i64 2] w fun e w' => e = .returned (.int .i64 ((n + 1) / 2 * 2)) ∧ w = w' := by
  go_enter Tryz.func73, Tryz.ntmps73
  go_wp2_with (first | (go_at_call 71; (with_reducible refine (l1In_yes _ _ _ h h' _).mono ?_); rintro e w' ⟨rfl, rfl⟩))
  go_ret
  exact ⟨ret_int (by omega), rfl⟩
theorem alignUp'_4 (n : Int) (h : 0 ≤ n) (h' : n ≤ 1000000) (w : World) :
    Calls Tryz.prog 73 #[.int .i64 n, .int .i64 4] w fun e w' => e = .returned (.int .i64 ((n + 3) / 4 * 4)) ∧ w = w' := by
  go_enter Tryz.func73, Tryz.ntmps73
  go_wp2_with (first | (go_at_call 71; (with_reducible refine (l1In_yes _ _ _ h h' _).mono ?_); rintro e w' ⟨rfl, rfl⟩))
  go_ret
  exact ⟨ret_int (by omega), rfl⟩
theorem alignUp'_8 (n : Int) (h : 0 ≤ n) (h' : n ≤ 1000000) (w : World) :
    Calls Tryz.prog 73 #[.int .i64 n, .int .i64 8] w fun e w' => e = .returned (.int .i64 ((n + 7) / 8 * 8)) ∧ w = w' := by
  go_enter Tryz.func73, Tryz.ntmps73
  go_wp2_with (first | (go_at_call 71; (with_reducible refine (l1In_yes _ _ _ h h' _).mono ?_); rintro e w' ⟨rfl, rfl⟩))
  go_ret
  exact ⟨ret_int (by omega), rfl⟩
theorem l1Power_1  (w : World) :
    Calls Tryz.prog 72 #[.int .i64 1] w fun e w' => e = .returned (.int .i64 256) ∧ w = w' := by
  go_enter Tryz.func72, Tryz.ntmps72
  go_wp2
  go_rounds 5
  go_ret
  exact ⟨rfl, rfl⟩
theorem l1Power_2  (w : World) :
    Calls Tryz.prog 72 #[.int .i64 2] w fun e w' => e = .returned (.int .i64 65536) ∧ w = w' := by
  go_enter Tryz.func72, Tryz.ntmps72
  go_wp2
  go_rounds 5
  go_ret
  exact ⟨rfl, rfl⟩
theorem l1Power_3  (w : World) :
    Calls Tryz.prog 72 #[.int .i64 3] w fun e w' => e = .returned (.int .i64 16777216) ∧ w = w' := by
  go_enter Tryz.func72, Tryz.ntmps72
  go_wp2
  go_rounds 5
  go_ret
  exact ⟨rfl, rfl⟩
theorem l1Power_4  (w : World) :
    Calls Tryz.prog 72 #[.int .i64 4] w fun e w' => e = .returned (.int .i64 4294967296) ∧ w = w' := by
  go_enter Tryz.func72, Tryz.ntmps72
  go_wp2
  go_rounds 5
  go_ret
  exact ⟨rfl, rfl⟩
theorem wideValid_yes (k : Int) (h : 1 ≤ k) (h' : k ≤ 4) (w : World) :
    Calls Tryz.prog 115 #[.int .i64 k] w fun e w' => e = .returned (.bool true) ∧ w = w' := by
  go_enter Tryz.func115, Tryz.ntmps115
  go_wp2
  go_ret
  exact ⟨rfl, rfl⟩
theorem wideValid_low (k : Int) (h : k < 1) (w : World) :
    Calls Tryz.prog 115 #[.int .i64 k] w fun e w' => e = .returned (.bool false) ∧ w = w' := by
  go_enter Tryz.func115, Tryz.ntmps115
  go_wp2
  go_ret
  exact ⟨rfl, rfl⟩
theorem wideValid_high (k : Int) (h : 4 < k) (w : World) :
    Calls Tryz.prog 115 #[.int .i64 k] w fun e w' => e = .returned (.bool false) ∧ w = w' := by
  have h' : 1 ≤ k := by omega
  have hd : decide (k ≤ 4) = false := by simp; omega
  go_enter Tryz.func115, Tryz.ntmps115
  go_wp2
  go_ret
  exact ⟨rfl, rfl⟩
theorem fitsWide_bad (n k : Int) (h : k < 1 ∨ 4 < k) (w : World) :
    Calls Tryz.prog 114 #[.int .i64 n, .int .i64 k] w fun e w' => e = .returned (.bool false) ∧ w = w' := by
  rcases h with h | h
  · go_enter Tryz.func114, Tryz.ntmps114
    go_wp2_with (go_at_call 115; (with_reducible refine (wideValid_low _ h _).mono ?_); rintro e w' ⟨rfl, rfl⟩)
    go_ret
    exact ⟨rfl, rfl⟩
  · go_enter Tryz.func114, Tryz.ntmps114
    go_wp2_with (go_at_call 115; (with_reducible refine (wideValid_high _ h _).mono ?_); rintro e w' ⟨rfl, rfl⟩)
    go_ret
    exact ⟨rfl, rfl⟩
theorem fitsWide_neg (n k : Int) (h : 1 ≤ k) (h' : k ≤ 4) (hn : n < 0) (w : World) :
    Calls Tryz.prog 114 #[.int .i64 n, .int .i64 k] w fun e w' => e = .returned (.bool false) ∧ w = w' := by
  go_enter Tryz.func114, Tryz.ntmps114
  go_wp2_with (first | (go_at_call 115; (with_reducible refine (wideValid_yes _ h h' _).mono ?_); rintro e w' ⟨rfl, rfl⟩))
  go_ret
  exact ⟨rfl, rfl⟩
theorem fitsWide_big1 (n : Int) (hn : 256 ≤ n) (w : World) :
    Calls Tryz.prog 114 #[.int .i64 n, .int .i64 1] w fun e w' => e = .returned (.bool false) ∧ w = w' := by
  have h0 : 0 ≤ n := by omega
  have hd : (n / 256 == 0) = false := by simp; omega
  go_enter Tryz.func114, Tryz.ntmps114
  go_wp2_with (first | (go_at_call 115; (with_reducible refine (wideValid_yes _ (by omega) (by omega) _).mono ?_); rintro e w' ⟨rfl, rfl⟩))
  go_ret
  exact ⟨rfl, rfl⟩
theorem fitsWide_1 (n : Int) (h0 : 0 ≤ n) (hn : n < 256) (w : World) :
    Calls Tryz.prog 114 #[.int .i64 n, .int .i64 1] w fun e w' => e = .returned (.bool true) ∧ w = w' := by
  have hd : (n / 256 == 0) = true := by simp; omega
  go_enter Tryz.func114, Tryz.ntmps114
  go_wp2_with (first | (go_at_call 115; (with_reducible refine (wideValid_yes _ (by omega) (by omega) _).mono ?_); rintro e w' ⟨rfl, rfl⟩))
  go_ret
  exact ⟨rfl, rfl⟩
theorem fitsWide_big2 (n : Int) (hn : 65536 ≤ n) (w : World) :
    Calls Tryz.prog 114 #[.int .i64 n, .int .i64 2] w fun e w' => e = .returned (.bool false) ∧ w = w' := by
  have h0 : 0 ≤ n := by omega
  have hd : (n / 65536 == 0) = false := by simp; omega
  go_enter Tryz.func114, Tryz.ntmps114
  go_wp2_with (first | (go_at_call 115; (with_reducible refine (wideValid_yes _ (by omega) (by omega) _).mono ?_); rintro e w' ⟨rfl, rfl⟩))
  go_ret
  exact ⟨rfl, rfl⟩
theorem fitsWide_2 (n : Int) (h0 : 0 ≤ n) (hn : n < 65536) (w : World) :
    Calls Tryz.prog 114 #[.int .i64 n, .int .i64 2] w fun e w' => e = .returned (.bool true) ∧ w = w' := by
  have hd : (n / 65536 == 0) = true := by simp; omega
  go_enter Tryz.func114, Tryz.ntmps114
  go_wp2_with (first | (go_at_call 115; (with_reducible refine (wideValid_yes _ (by omega) (by omega) _).mono ?_); rintro e w' ⟨rfl, rfl⟩))
  go_ret
  exact ⟨rfl, rfl⟩
theorem fitsWide_big3 (n : Int) (hn : 16777216 ≤ n) (w : World) :
    Calls Tryz.prog 114 #[.int .i64 n, .int .i64 3] w fun e w' => e = .returned (.bool false) ∧ w = w' := by
  have h0 : 0 ≤ n := by omega
  have hd : (n / 16777216 == 0) = false := by simp; omega
  go_enter Tryz.func114, Tryz.ntmps114
  go_wp2_with (first | (go_at_call 115; (with_reducible refine (wideValid_yes _ (by omega) (by omega) _).mono ?_); rintro e w' ⟨rfl, rfl⟩))
  go_ret
  exact ⟨rfl, rfl⟩
theorem fitsWide_3 (n : Int) (h0 : 0 ≤ n) (hn : n < 16777216) (w : World) :
    Calls Tryz.prog 114 #[.int .i64 n, .int .i64 3] w fun e w' => e = .returned (.bool true) ∧ w = w' := by
  have hd : (n / 16777216 == 0) = true := by simp; omega
  go_enter Tryz.func114, Tryz.ntmps114
  go_wp2_with (first | (go_at_call 115; (with_reducible refine (wideValid_yes _ (by omega) (by omega) _).mono ?_); rintro e w' ⟨rfl, rfl⟩))
  go_ret
  exact ⟨rfl, rfl⟩
theorem fitsWide_big4 (n : Int) (hn : 4294967296 ≤ n) (w : World) :
    Calls Tryz.prog 114 #[.int .i64 n, .int .i64 4] w fun e w' => e = .returned (.bool false) ∧ w = w' := by
  have h0 : 0 ≤ n := by omega
  have hd : (n / 4294967296 == 0) = false := by simp; omega
  go_enter Tryz.func114, Tryz.ntmps114
  go_wp2_with (first | (go_at_call 115; (with_reducible refine (wideValid_yes _ (by omega) (by omega) _).mono ?_); rintro e w' ⟨rfl, rfl⟩))
  go_ret
  exact ⟨rfl, rfl⟩
theorem fitsWide_4 (n : Int) (h0 : 0 ≤ n) (hn : n < 4294967296) (w : World) :
    Calls Tryz.prog 114 #[.int .i64 n, .int .i64 4] w fun e w' => e = .returned (.bool true) ∧ w = w' := by
  have hd : (n / 4294967296 == 0) = true := by simp; omega
  go_enter Tryz.func114, Tryz.ntmps114
  go_wp2_with (first | (go_at_call 115; (with_reducible refine (wideValid_yes _ (by omega) (by omega) _).mono ?_); rintro e w' ⟨rfl, rfl⟩))
  go_ret
  exact ⟨rfl, rfl⟩
open Go.RowKit
def upTo (n to : Int) : Int := if n < 0 ∨ 1000000 < n then -1 else if to = 1 ∨ to = 2 ∨ to = 4 ∨ to = 8 then (n + to - 1) / to * to else -1
theorem alignUp'_any (n to : Int) (w : World) : Calls Tryz.prog 73 #[.int .i64 n, .int .i64 to] w fun e w' => e = .returned (.int .i64 (upTo n to)) ∧ w = w' := by
  by_cases hn : n < 0
  · have e : upTo n to = -1 := by unfold upTo; rw [if_pos (.inl hn)]
    rw [e]; exact alignUp'_low n to hn w
  by_cases hb : 1000000 < n
  · have e : upTo n to = -1 := by unfold upTo; rw [if_pos (.inr hb)]
    rw [e]; exact alignUp'_high n to hb w
  have g : ¬ (n < 0 ∨ 1000000 < n) := by omega
  by_cases t1 : to = 1
  · subst t1
    have e : upTo n 1 = (n + 0) / 1 * 1 := by unfold upTo; rw [if_neg g, if_pos (by omega)]; omega
    rw [e]; exact alignUp'_1 n (by omega) (by omega) w
  by_cases t2 : to = 2
  · subst t2
    have e : upTo n 2 = (n + 1) / 2 * 2 := by unfold upTo; rw [if_neg g, if_pos (by omega)]; omega
    rw [e]; exact alignUp'_2 n (by omega) (by omega) w
  by_cases t4 : to = 4
  · subst t4
    have e : upTo n 4 = (n + 3) / 4 * 4 := by unfold upTo; rw [if_neg g, if_pos (by omega)]; omega
    rw [e]; exact alignUp'_4 n (by omega) (by omega) w
  by_cases t8 : to = 8
  · subst t8
    have e : upTo n 8 = (n + 7) / 8 * 8 := by unfold upTo; rw [if_neg g, if_pos (by omega)]; omega
    rw [e]; exact alignUp'_8 n (by omega) (by omega) w
  have e : upTo n to = -1 := by unfold upTo; rw [if_neg g, if_neg (by omega)]
  rw [e]; exact alignUp'_no n to (by omega) (by omega) (by simpa using t1) (by simpa using t2) (by simpa using t4) (by simpa using t8) w
