/-
  spec.l4Copy: the copy of an object.
-/
import Derived.Test.YtiocchmlmcoieaaCopO
import Derived.Deep.RegionWith
import Derived.Deep.CutBlock
import Derived.IntWalk
namespace Go.Proofs.Ytiocchmlmcoieaa
open Go.RowKit

/-- What stands while an object is copied: the argument, the place of the answer, the object so far. -/
structure CpS (w W : World) (va vb : Value) (q : Nat) (vs vm : Value) (L : List Sp) (ms : List Sm) : Prop where
  below : Below w.heap.size w W
  arg : Has W w.heap.size 29 #[va, vb]
  res : Has W (w.heap.size + 1) 29 #[.slice none 0 0, .slice none 0 0]
  ob : Ob W q w.heap.size vs vm L ms
  far : w.heap.size + 1 < q
theorem CpS.answer {w W : World} {va vb : Value} {q : Nat} {a1 a2 : Option Addr} {n m c1 c2 : Nat} {L : List Sp} {ms : List Sm} (h : CpS w W va vb q (.slice a1 n c1) (.slice a2 m c2) L ms) (hn : n = L.length) (hm : m = ms.length) :
    Has ((W.setCell ⟨w.heap.size + 1, 0, none⟩ (.slice a1 n c1)).setCell ⟨w.heap.size + 1, 1, none⟩ (.slice a2 m c2)) (w.heap.size + 1) 29 #[.slice a1 n c1, .slice a2 m c2] ∧
      AnsO w (L.map Sp.s, ms) (.returned (.agg #[.slice a1 n c1, .slice a2 m c2])) ((W.setCell ⟨w.heap.size + 1, 0, none⟩ (.slice a1 n c1)).setCell ⟨w.heap.size + 1, 1, none⟩ (.slice a2 m c2)) := by
  have hne : q ≠ w.heap.size + 1 := by have := h.far; omega
  have r1 := h.res.put 0 (.slice a1 n c1)
  have o1 := h.ob.away h.res hne 0 (.slice a1 n c1)
  have b1 : Below w.heap.size w (W.setCell ⟨w.heap.size + 1, 0, none⟩ (.slice a1 n c1)) := h.below.grown (only_put' 0 _) h.below.size (by intro q hq; injection hq with hq; omega)
  exact ⟨r1.put 1 _, (o1.away r1 hne 1 _).ans (b1.grown (only_put' 1 _) b1.size (by intro q hq; injection hq with hq; omega)) hn hm⟩
theorem take_next {α : Type} {l : List α} {k : Nat} {y : α} (h : l[k]? = some y) : l.take (k + 1) = l.take k ++ [y] := by
  rw [List.take_add_one, h]; rfl















































































































































































































end Go.Proofs.Ytiocchmlmcoieaa
