/-
  What the seat's own types are in memory; a block that is filled one by one.
-/
import Derived.Test.YtdbedkjnoppkmaaMem
import Derived.Test.YtdbedkjnoppkmaaRows
import Derived.Deep.OwnRows
namespace Go.Proofs.Ytdbedkjnoppkmaa
open Go.RowKit

theorem Try.info_u8 : (Try.prog.info? 5).map (fun i => (i.zero, i.size, i.bytes)) = some (some (.int .u8 0), 1, 1) := by kernel_rfl
/-- The cells of a block that has been filled up to k. -/
def Filled (k : IntKind) (cs : Array Value) (l : List Int) (n : Nat) : Prop := cs.size = l.length ∧ ∀ j, j < n → cs[j]? = some (.int k (l.getD j 0))
theorem Filled.start (k : IntKind) (l : List Int) (z : Value) : Filled k (madeCells #[z] l.length) l 0 := ⟨size_madeCells _ _, fun j hj => by omega⟩
theorem Filled.next {k : IntKind} {cs : Array Value} {l : List Int} {n : Nat} (h : Filled k cs l n) (hn : n < l.length) : Filled k (cs.setIfInBounds n (.int k (l.getD n 0))) l (n + 1) := by
  refine ⟨by simp [h.1], fun j hj => ?_⟩
  rw [Array.getElem?_setIfInBounds]
  by_cases e : n = j
  · subst e; simp [h.1, hn]
  · rw [if_neg e]; exact h.2 j (by omega)
theorem Filled.all {k : IntKind} {cs : Array Value} {l : List Int} {n : Nat} (h : Filled k cs l n) (hn : n = l.length) : cs = (l.map (Value.int k)).toArray := by
  apply Array.ext_getElem?
  intro i
  by_cases hi : i < l.length
  · rw [h.2 i (by omega)]
    simp [List.getD, List.getElem?_eq_getElem hi]
  · rw [Array.getElem?_eq_none (by rw [h.1]; omega)]
    rw [Array.getElem?_eq_none (by simp; omega)]

end Go.Proofs.Ytdbedkjnoppkmaa
