/-
  Headers: spec.HeaderValid and spec.PutHeader.
-/
import Derived.Test.YtgpnjnpcgmhaaaaMem
import Derived.Test.YtgpnjnpcgmhaaaaPut
import Derived.Test.YtgpnjnpcgmhaaaaGet
namespace Go.Proofs.Ytgpnjnpcgmhaaaa
open Go.RowKit

structure Hd where
  sec : Int
  sym : Int
  fix : Int
  nam : Int
def Hd.agg (h : Hd) : Value := .agg #[.int .i64 h.sec, .int .i64 h.sym, .int .i64 h.fix, .int .i64 h.nam]
/-- Is a header valid? -/
def hdOk (h : Hd) : Bool := decide (0 ≤ h.sec ∧ h.sec ≤ 8) && (decide (0 ≤ h.sym ∧ h.sym ≤ 12) && (decide (0 ≤ h.fix ∧ h.fix ≤ 48) && decide (1 ≤ h.nam ∧ h.nam ≤ 400)))
theorem hdOk_iff {h : Hd} : hdOk h = true ↔ (0 ≤ h.sec ∧ h.sec ≤ 8) ∧ (0 ≤ h.sym ∧ h.sym ≤ 12) ∧ (0 ≤ h.fix ∧ h.fix ≤ 48) ∧ 1 ≤ h.nam ∧ h.nam ≤ 400 := by
  unfold hdOk
  simp only [Bool.and_eq_true, decide_eq_true_eq]
theorem l1In_val (n lo hi : Int) (w : World) : Calls Try.prog 11 #[.int .i64 n, .int .i64 lo, .int .i64 hi] w fun e w' => e = .returned (.bool (decide (lo ≤ n ∧ n ≤ hi))) ∧ w = w' := by
  by_cases h1 : n < lo
  · rw [show decide (lo ≤ n ∧ n ≤ hi) = false by simp; omega]; exact l1In_low n lo hi h1 w
  by_cases h2 : hi < n
  · rw [show decide (lo ≤ n ∧ n ≤ hi) = false by simp; omega]; exact l1In_high n lo hi h2 w
  rw [show decide (lo ≤ n ∧ n ≤ hi) = true by simp; omega]; exact l1In_yes n lo hi (by omega) (by omega) w
set_option maxHeartbeats 1000000 in
theorem headerValid'_any (w : World) (h : Hd) : Calls Try.prog 6 #[h.agg] w fun e w' => e = .returned (.bool (hdOk h)) ∧ Below w.heap.size w w' := by
  obtain ⟨a, b, c, d⟩ := h
  obtain ⟨ok, hok⟩ : ∃ q, q = hdOk ⟨a, b, c, d⟩ := ⟨_, rfl⟩
  have HOK : Hid (ok = (decide (0 ≤ a ∧ a ≤ 8) && (decide (0 ≤ b ∧ b ≤ 12) && (decide (0 ≤ c ∧ c ≤ 48) && decide (1 ≤ d ∧ d ≤ 400))))) := hok
  rw [← hok]
  clear hok
  unfold Hd.agg
  have hB : Below w.heap.size w (w.alloc (.cells #[.int .i64 a, .int .i64 b, .int .i64 c, .int .i64 d] 24)) := (Below.refl _ _).alloc (Nat.le_refl _) _
  go_enter Try.func6, Try.ntmps6
  go_wp2_with fail
  refine (l1In_val a 0 8 _).mono ?_
  rintro e _ ⟨rfl, rfl⟩
  obtain ⟨x0, hx0⟩ : ∃ q, decide (0 ≤ a ∧ a ≤ 8) = q := ⟨_, rfl⟩
  rw [hx0] at HOK ⊢
  clear hx0
  rcases x0 with _ | _
  · have HF : Hid (ok = false) := by show _ = _; rw [HOK.out]; simp
    go_wp2_with fail
    go_ret
    exact ⟨ret_bool HF.out.symm, hB⟩
  go_wp2_with fail
  refine (l1In_val b 0 12 _).mono ?_
  rintro e _ ⟨rfl, rfl⟩
  obtain ⟨x1, hx1⟩ : ∃ q, decide (0 ≤ b ∧ b ≤ 12) = q := ⟨_, rfl⟩
  rw [hx1] at HOK ⊢
  clear hx1
  rcases x1 with _ | _
  · have HF : Hid (ok = false) := by show _ = _; rw [HOK.out]; simp
    go_wp2_with fail
    go_ret
    exact ⟨ret_bool HF.out.symm, hB⟩
  go_wp2_with fail
  refine (l1In_val c 0 48 _).mono ?_
  rintro e _ ⟨rfl, rfl⟩
  obtain ⟨x2, hx2⟩ : ∃ q, decide (0 ≤ c ∧ c ≤ 48) = q := ⟨_, rfl⟩
  rw [hx2] at HOK ⊢
  clear hx2
  rcases x2 with _ | _
  · have HF : Hid (ok = false) := by show _ = _; rw [HOK.out]; simp
    go_wp2_with fail
    go_ret
    exact ⟨ret_bool HF.out.symm, hB⟩
  go_wp2_with fail
  refine (l1In_val d 1 400 _).mono ?_
  rintro e _ ⟨rfl, rfl⟩
  obtain ⟨x3, hx3⟩ : ∃ q, decide (1 ≤ d ∧ d ≤ 400) = q := ⟨_, rfl⟩
  rw [hx3] at HOK ⊢
  clear hx3
  have HF : Hid (ok = x3) := by show _ = _; rw [HOK.out]; simp
  go_wp2_with fail
  go_ret
  exact ⟨ret_bool HF.out.symm, hB⟩
/-- The bytes of a header. -/
def putHd (h : Hd) : List Int := if hdOk h then [111, 98, 106, 1, h.sec, h.sym, h.fix, h.nam % 256, h.nam / 256, 0] else []
theorem putHd_wf (h : Hd) : ∀ x ∈ putHd h, (Lit.int .u8 x).wf = true := fun x hx => by
  unfold putHd at hx
  split at hx
  · rename_i hk
    obtain ⟨h1, h2, h3, h4⟩ := hdOk_iff.1 hk
    simp at hx
    rcases hx with rfl | rfl | rfl | rfl | rfl | rfl | rfl | rfl | rfl | rfl <;> exact wf_u8.mpr ⟨by omega, by omega⟩
  · cases hx
theorem putHd_short (h : Hd) : (putHd h).length ≤ 10 := by
  unfold putHd
  split <;> simp
theorem ret_val {u v : Value} (h : u = v) : Ending.returned u = Ending.returned v := by rw [h]




































































































end Go.Proofs.Ytgpnjnpcgmhaaaa
