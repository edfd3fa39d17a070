/-
  The walk of FnSignedOf.
-/
import Derived.Test.YtiplcfgfababaaaLawsC
namespace Go.Proofs.Ytiplcfgfababaaa
open Go.RowKit

theorem drawSignedOf_any (w : World) (a : Option Addr) (cap : Nat) (l : List Int) (h : Ints w .u8 w.heap.size a l) (hcap : l.length ≤ cap) (hlen : cap ≤ 9223372036854775807) :
    Calls Try.prog 20 #[.slice a l.length cap] w fun e w' => ∃ n k : Int, e = .returned (.tuple #[.int .i64 n, .int .i64 k]) ∧ Below w.heap.size w w' := by
  go_enter Try.func20, Try.ntmps20
  go_wp2_with fail
  refine (drawPutNumber_any w a cap l h hcap hlen).mono ?_
  rintro e w1 ⟨n, k, rfl, hb1⟩
  clear h
  go_wp2_with fail
  go_ret2
  exact ⟨_, _, rfl, hb1⟩

set_option maxHeartbeats 4000000 in
theorem law_SignedOf (w : World) (a : Option Addr) (len cap : Nat) (h : Came w a len cap) :
    Calls Try.prog 5 #[.slice a len cap] w fun e w' => e = .returned (.bool true) ∧ Below w.heap.size w w' := by
  obtain ⟨l, h, rfl, hcap, hmax⟩ := h
  by_cases hbig : 1048576 < l.length
  · have hd : (1048576 : Int) < (l.length : Int) := by omega
    go_enter Try.func5, Try.ntmps5
    go_wp2
    go_ret
    exact ⟨rfl, Below.refl _ _⟩
  have hd : ¬ (1048576 : Int) < (l.length : Int) := by omega
  go_enter Try.func5, Try.ntmps5
  go_wp2_with fail
  refine (drawSignedOf_any w a cap l h hcap hmax).mono ?_
  rintro e w1 ⟨n, k, rfl, hb1⟩
  obtain ⟨L, hL⟩ : ∃ L, L = (putList n k).length := ⟨_, rfl⟩
  have hs : L ≤ 4 := by rw [hL]; exact putList_short n k
  have HL := hidden hL
  clear hL h
  go_wp2_with fail
  refine (signedOf_any n k w1).mono ?_
  rintro e _ ⟨rfl, rfl⟩
  go_wp2_with fail
  refine (signedOf'_any n k w1).mono ?_
  rintro e _ ⟨rfl, rfl⟩
  go_wp2_with fail
  refine (putNumber_any n k w1).mono ?_
  rintro e w2 ⟨a2, he2, ho2, hb2⟩
  rw [← HL.out] at he2
  obtain rfl := he2
  have hbw : Below w.heap.size w w2 := hb1.trans (hb2.mono hb1.size)
  clear hb1 hb2 ho2
  rcases Nat.eq_zero_or_pos L with hz | hz
  · have hz' : ((L : Int) == 0) = true := by simp [hz]
    have hsg : (sgn n k == 0) = true := by
      have h0 := HL.out
      rw [hz] at h0
      by_cases hb : k < 1 ∨ 4 < k ∨ n < 0 ∨ pw k ≤ n
      · rw [sgn_bad hb]; rfl
      · rw [putList_yes (by omega) (by omega) (by omega) (by omega), bytesOf_length] at h0; omega
    clear hz
    go_wp2_with fail
    refine (alive_any _).mono ?_
    rintro e _ ⟨rfl, rfl⟩
    go_wp2_with fail
    go_ret
    exact ⟨rfl, hbw⟩
  · have hz' : ((L : Int) == 0) = false := by simp; omega
    obtain ⟨_, _, hk1, hk4, hn0, hn1⟩ := getVal_put n k (by rw [← HL.out]; exact hz)
    have hc : k = 1 ∨ k = 2 ∨ k = 3 ∨ k = 4 := by omega
    clear HL hz
    rcases hc with rfl | rfl | rfl | rfl
    · have hp : pw 1 = 256 := rfl
      rw [hp] at hn1
      by_cases hl : n < 128
      · have hsg : sgn n 1 = n := sgn_lo (by omega) (by omega)
        clear hp hk1 hk4
        rw [hsg]
        clear hsg
        go_wp2_with fail
        go_ret
        exact ⟨ret_bool (by simp; omega), hbw⟩
      · have hsg : sgn n 1 = n - 256 := sgn_hi (by omega) (by omega)
        have hne : (n - 256 == n) = false := by simp; omega
        clear hp hk1 hk4
        rw [hsg]
        clear hsg
        go_wp2_with fail
        go_ret
        exact ⟨ret_bool (by simp; omega), hbw⟩
    · have hp : pw 2 = 65536 := rfl
      rw [hp] at hn1
      by_cases hl : n < 32768
      · have hsg : sgn n 2 = n := sgn_lo (by omega) (by omega)
        clear hp hk1 hk4
        rw [hsg]
        clear hsg
        go_wp2_with fail
        go_ret
        exact ⟨ret_bool (by simp; omega), hbw⟩
      · have hsg : sgn n 2 = n - 65536 := sgn_hi (by omega) (by omega)
        have hne : (n - 65536 == n) = false := by simp; omega
        clear hp hk1 hk4
        rw [hsg]
        clear hsg
        go_wp2_with fail
        go_ret
        exact ⟨ret_bool (by simp; omega), hbw⟩
    · have hp : pw 3 = 16777216 := rfl
      rw [hp] at hn1
      by_cases hl : n < 8388608
      · have hsg : sgn n 3 = n := sgn_lo (by omega) (by omega)
        clear hp hk1 hk4
        rw [hsg]
        clear hsg
        go_wp2_with fail
        go_ret
        exact ⟨ret_bool (by simp; omega), hbw⟩
      · have hsg : sgn n 3 = n - 16777216 := sgn_hi (by omega) (by omega)
        have hne : (n - 16777216 == n) = false := by simp; omega
        clear hp hk1 hk4
        rw [hsg]
        clear hsg
        go_wp2_with fail
        go_ret
        exact ⟨ret_bool (by simp; omega), hbw⟩
    · have hp : pw 4 = 4294967296 := rfl
      rw [hp] at hn1
      by_cases hl : n < 2147483648
      · have hsg : sgn n 4 = n := sgn_lo (by omega) (by omega)
        clear hp hk1 hk4
        rw [hsg]
        clear hsg
        go_wp2_with fail
        go_ret
        exact ⟨ret_bool (by simp; omega), hbw⟩
      · have hsg : sgn n 4 = n - 4294967296 := sgn_hi (by omega) (by omega)
        have hne : (n - 4294967296 == n) = false := by simp; omega
        clear hp hk1 hk4
        rw [hsg]
        clear hsg
        go_wp2_with fail
        go_ret
        exact ⟨ret_bool (by simp; omega), hbw⟩

end Go.Proofs.Ytiplcfgfababaaa
