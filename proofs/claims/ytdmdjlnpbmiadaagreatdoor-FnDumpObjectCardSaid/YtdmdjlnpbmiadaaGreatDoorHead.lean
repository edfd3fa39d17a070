/-
  Headers: spec.HeaderValid and spec.PutHeader.
-/
import Derived.Test.YtdmdjlnpbmiadaaGreatDoorMem
import Derived.Test.YtdmdjlnpbmiadaaGreatDoorPut
import Derived.Test.YtdmdjlnpbmiadaaGreatDoorGet
namespace Go.Proofs.YtdmdjlnpbmiadaaGreatDoor
open Go.RowKit

structure Hd where
  sec : Int
  sym : Int
  fix : Int
  nam : Int
def Hd.agg (h : Hd) : Value := .agg #[.int .i64 h.sec, .int .i64 h.sym, .int .i64 h.fix, .int .i64 h.nam]
/-- Is a header valid? -/
def hdOk (h : Hd) : Bool := decide (0 ≤ h.sec ∧ h.sec ≤ 8) && (decide (0 ≤ h.sym ∧ h.sym ≤ 12) && (decide (0 ≤ h.fix ∧ h.fix ≤ 48) && decide (1 ≤ h.nam ∧ h.nam ≤ 400)))
theorem hdOk_iff {h : Hd} : hdOk h = true ↔ (0 ≤ h.sec ∧ h.sec ≤ 8) ∧ (0 ≤ h.sym ∧ h.sym ≤ 12) ∧ (0 ≤ h.fix ∧ h.fix ≤ 48) ∧ 1 ≤ h.nam ∧ h.nam ≤ 400 := by
  unfold hdOk
  simp only [Bool.and_eq_true, decide_eq_true_eq]
theorem l1In_val (n lo hi : Int) (w : World) : Calls Tryz.prog 41 #[.int .i64 n, .int .i64 lo, .int .i64 hi] w fun e w' => e = .returned (.bool (decide (lo ≤ n ∧ n ≤ hi))) ∧ w = w' := by
  by_cases h1 : n < lo
  · rw [show decide (lo ≤ n ∧ n ≤ hi) = false by simp; omega]; exact l1In_low n lo hi h1 w
  by_cases h2 : hi < n
  · rw [show decide (lo ≤ n ∧ n ≤ hi) = false by simp; omega]; exact l1In_high n lo hi h2 w
  rw [show decide (lo ≤ n ∧ n ≤ hi) = true by simp; omega]; exact l1In_yes n lo hi (by omega) (by omega) w





















































/-- The bytes of a header. -/
def putHd (h : Hd) : List Int := if hdOk h then [111, 98, 106, 1, h.sec, h.sym, h.fix, h.nam % 256, h.nam / 256, 0] else []
theorem putHd_wf (h : Hd) : ∀ x ∈ putHd h, (Lit.int .u8 x).wf = true := fun x hx => by
  unfold putHd at hx
  split at hx
  · rename_i hk
    obtain ⟨h1, h2, h3, h4⟩ := hdOk_iff.1 hk
    simp at hx
    rcases hx with rfl | rfl | rfl | rfl | rfl | rfl | rfl | rfl | rfl | rfl <;> exact wf_u8.mpr ⟨by omega, by omega⟩
  · cases hx
theorem putHd_short (h : Hd) : (putHd h).length ≤ 10 := by
  unfold putHd
  split <;> simp
theorem ret_val {u v : Value} (h : u = v) : Ending.returned u = Ending.returned v := by rw [h]




































































































end Go.Proofs.YtdmdjlnpbmiadaaGreatDoor
