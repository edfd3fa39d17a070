/-
  spec.GetHeader.
-/
import Derived.Test.YtdmdjlnpbmiadaaGreatDoorHead
import Derived.Test.YtdmdjlnpbmiadaaGreatDoorRegionV
import Derived.Deep.Cut
import Derived.Deep.CutRange
import Derived.IntWalk
import Derived.Laws.ResultCell
namespace Go.Proofs.YtdmdjlnpbmiadaaGreatDoor
open Go.RowKit

theorem results_cell_row3h {P : Program} {fn : Func} {p u : Tmp} {ty : TypeId} (h : fn.results = #[.cell p ty, .tmp u]) (tmps : Array Value) (w : World) (g : Nat) (t : TypeId) (cs : Array Value) (fr : Nat × Nat) (d : TypeDesc)
    (hp : tmps.getD p undef = .pointer (some ⟨g, 0, none⟩)) (hg : w.heap[g]? = some (.cells cs t fr))
    (hu : P.underlying ty = some d) (hd : (match d with | .struct _ | .array _ _ => true | _ => false) = true) (hi : (P.info? ty).map (·.size) = some cs.size) :
    (results fn tmps).run P w = .ok (.tuple #[.agg cs, tmps.getD u undef]) w := by
  rw [results_cell_tmp h, hp]
  simp [asAddr, run_loadVar_row w g t ty cs fr d hg hu hd hi, Result.andThen]
/-- The header that the bytes tell. -/
def hdAt (l : List Int) : Hd := ⟨l.getD 4 0, l.getD 5 0, l.getD 6 0, getVal l 7 2⟩
/-- Do the bytes begin with it? -/
def isHd (l : List Int) : Bool := decide (10 ≤ l.length) && decide (l.take 10 = putHd (hdAt l))
def noHd : Hd := ⟨0, 0, 0, 0⟩
def getHd (l : List Int) : Hd := if isHd l then hdAt l else noHd
theorem isHd_no {l : List Int} (h10 : 10 ≤ l.length) {k : Nat} (hk : k < 10) (h : (putHd (hdAt l)).length ≤ k ∨ (putHd (hdAt l)).getD k 0 ≠ l.getD k 0) : isHd l = false := by
  unfold isHd
  rw [Bool.and_eq_false_iff]
  right
  simp only [decide_eq_false_iff_not]
  intro e
  rcases h with h | h
  · have := congrArg List.length e
    rw [List.length_take] at this
    omega
  · apply h
    rw [← e, List.getD_eq_getElem?_getD, List.getD_eq_getElem?_getD, List.getElem?_take, if_pos hk]
theorem isHd_yes {l : List Int} (h10 : 10 ≤ l.length) (h : (putHd (hdAt l)).length = 10) (h2 : ∀ j, j < 10 → (putHd (hdAt l)).getD j 0 = l.getD j 0) : isHd l = true := by
  unfold isHd
  rw [Bool.and_eq_true]
  refine ⟨by simpa using h10, ?_⟩
  simp only [decide_eq_true_eq]
  apply List.ext_getElem
  · rw [List.length_take]; omega
  · intro i h1 h3
    have hi : i < 10 := by rw [List.length_take] at h1; omega
    have := h2 i hi
    rw [List.getD_eq_getElem?_getD, List.getD_eq_getElem?_getD, List.getElem?_eq_getElem h3, List.getElem?_eq_getElem (show i < l.length by omega)] at this
    rw [List.getElem_take]
    simpa using this.symm























































































































































































































































































































































end Go.Proofs.YtdmdjlnpbmiadaaGreatDoor
