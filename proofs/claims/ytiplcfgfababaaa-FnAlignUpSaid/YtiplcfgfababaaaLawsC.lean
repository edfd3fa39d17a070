/-
  The walks of FnPutNumber and FnSignedOf.
-/
import Derived.Test.YtiplcfgfababaaaDrawA
import Derived.Test.YtiplcfgfababaaaPutS
import Derived.Test.YtiplcfgfababaaaNumAny
import Derived.Test.YtiplcfgfababaaaGet
namespace Go.Proofs.Ytiplcfgfababaaa
open Go.RowKit

theorem getVal_put (n k : Int) (h : 0 < (putList n k).length) : getVal (putList n k) 0 k = n ∧ ((putList n k).length : Int) = k ∧ 1 ≤ k ∧ k ≤ 4 ∧ 0 ≤ n ∧ n < pw k := by
  by_cases hb : k < 1 ∨ 4 < k ∨ n < 0 ∨ pw k ≤ n
  · rw [putList_no hb] at h; simp at h
  have hc : k = 1 ∨ k = 2 ∨ k = 3 ∨ k = 4 := by omega
  rw [putList_yes (by omega) (by omega) (by omega) (by omega)]
  rcases hc with rfl | rfl | rfl | rfl
  · have hp : pw 1 = 256 := rfl
    show getVal (bytesOf n 1) 0 1 = n ∧ ((bytesOf n 1).length : Int) = 1 ∧ _
    rw [bytesOf_1 n (by omega) (by omega)]
    refine ⟨?_, rfl, by omega, by omega, by omega, by omega⟩
    simp [getVal, leAt] <;> omega
  · have hp : pw 2 = 65536 := rfl
    show getVal (bytesOf n 2) 0 2 = n ∧ ((bytesOf n 2).length : Int) = 2 ∧ _
    rw [bytesOf_2 n (by omega) (by omega)]
    refine ⟨?_, rfl, by omega, by omega, by omega, by omega⟩
    simp [getVal, leAt] <;> omega
  · have hp : pw 3 = 16777216 := rfl
    show getVal (bytesOf n 3) 0 3 = n ∧ ((bytesOf n 3).length : Int) = 3 ∧ _
    rw [bytesOf_3 n (by omega) (by omega)]
    refine ⟨?_, rfl, by omega, by omega, by omega, by omega⟩
    simp [getVal, leAt] <;> omega
  · have hp : pw 4 = 4294967296 := rfl
    show getVal (bytesOf n 4) 0 4 = n ∧ ((bytesOf n 4).length : Int) = 4 ∧ _
    rw [bytesOf_4 n (by omega) (by omega)]
    refine ⟨?_, rfl, by omega, by omega, by omega, by omega⟩
    simp [getVal, leAt] <;> omega

/-- What the step of a row tells of the bytes that came in. -/
def Came (w : World) (a : Option Addr) (len cap : Nat) : Prop := ∃ l, Ints w .u8 w.heap.size a l ∧ l.length = len ∧ len ≤ cap ∧ cap ≤ 9223372036854775807

set_option maxHeartbeats 2000000 in
theorem law_PutNumber (w : World) (a : Option Addr) (len cap : Nat) (h : Came w a len cap) :
    Calls Try.prog 3 #[.slice a len cap] w fun e w' => e = .returned (.bool true) ∧ Below w.heap.size w w' := by
  obtain ⟨l, h, rfl, hcap, hmax⟩ := h
  by_cases hbig : 1048576 < l.length
  · have hd : (1048576 : Int) < (l.length : Int) := by omega
    go_enter Try.func3, Try.ntmps3
    go_wp2
    go_ret
    exact ⟨rfl, Below.refl _ _⟩
  have hd : ¬ (1048576 : Int) < (l.length : Int) := by omega
  go_enter Try.func3, Try.ntmps3
  go_wp2_with fail
  refine (drawPutNumber_any w a cap l h hcap hmax).mono ?_
  rintro e w1 ⟨n, k, rfl, hb1⟩
  obtain ⟨L, hL⟩ : ∃ L, L = (putList n k).length := ⟨_, rfl⟩
  have hs : L ≤ 4 := by rw [hL]; exact putList_short n k
  have HL := hidden hL
  clear hL h
  go_wp2_with fail
  refine (putNumber_any n k w1).mono ?_
  rintro e w2 ⟨a2, he2, ho2, hb2⟩
  rw [← HL.out] at he2
  obtain rfl := he2
  go_wp2_with fail
  refine (putNumber'_any n k w2).mono ?_
  rintro e w3 ⟨a3, c3, he3, hi3, hb3⟩
  rw [← HL.out] at he3
  obtain rfl := he3
  go_wp2_with fail
  have hx := ho2.ints.below hb3
  have hq := sameBytes_yes w3 w2.heap.size w3.heap.size a2 a3 L c3 (putList n k) hx hi3 (by rw [← HL.out]; omega)
  rw [← HL.out] at hq
  refine hq.mono ?_
  clear hq
  rintro e _ ⟨rfl, m, rfl⟩
  have hbw : Below w.heap.size w (w3.drewN m) := below_drewN ((hb1.trans (hb2.mono hb1.size)).trans (hb3.mono (hb1.trans (hb2.mono hb1.size)).size)) m
  have hX := hidden (hx.drewN m)
  clear hx hi3 hb3 ho2 hb2 hb1
  rcases Nat.eq_zero_or_pos L with hz | hz
  · have hz' : ((L : Int) == 0) = true := by simp [hz]
    clear hz
    go_wp2_with fail
    refine (alive_any _).mono ?_
    rintro e _ ⟨rfl, rfl⟩
    go_wp2_with fail
    go_ret
    exact ⟨rfl, hbw⟩
  · have hz' : ((L : Int) == 0) = false := by simp; omega
    obtain ⟨hg, hk, _⟩ := getVal_put n k (by rw [← HL.out]; exact hz)
    rw [← HL.out] at hk
    obtain rfl := hk
    have hq := getNumber_any (w3.drewN m) w2.heap.size a2 L (putList n L) hX.out (by rw [← HL.out]; omega) 0 L
    rw [hg, ← HL.out] at hq
    have HQ := hidden hq
    clear hq hg
    go_wp2_with fail
    refine HQ.out.mono ?_
    clear HQ
    rintro e _ ⟨rfl, rfl⟩
    go_wp2_with fail
    go_ret
    exact ⟨rfl, hbw⟩

end Go.Proofs.Ytiplcfgfababaaa
