/-
  While an object is kept in part: the part so far, and its symbols' places.
-/
import Derived.Test.YtjpclpjhigongaaKepI
import Derived.Test.YtjpclpjhigongaaKepR
namespace Go.Proofs.Ytjpclpjhigongaa
open Go.RowKit

/-- The cells of a section. -/
def secCells (y : Sp) : List Value := [.string y.s.name, .int .i64 y.s.kind, .int .i64 y.s.align, .slice y.a1 y.s.bytes.length y.c1, .int .i64 y.s.size, .slice y.a2 y.s.fixs.length y.c2]
/-- The part that is kept so far: its block, and the row of its sections. -/
structure PtS (w W : World) (vs vm : Value) (L : List Sp) : Prop where
  below : Below w.heap.size w W
  obj : Has W w.heap.size 26 #[vs, vm]
  row : W.ownsRow w.heap.size 64 6 vs L.length (flatS L)
section
variable {w W W' : World} {vs vm : Value} {L : List Sp}
theorem PtS.new (w : World) (vm : Value) : PtS w (w.alloc (.cells #[.slice none 0 0, vm] 26)) (.slice none 0 0) vm [] :=
  ⟨(Below.refl _ _).alloc (Nat.le_refl _) _, Has.new _ _ _, World.ownsRow_nil _ _ _ _⟩
theorem PtS.only (h : PtS w W vs vm L) (hb : Below W.heap.size W W') : PtS w W' vs vm L :=
  ⟨h.below.trans (hb.mono h.below.size), h.obj.below hb h.obj.lt, h.row.kept (grown_only hb) (Classical.em _)⟩
theorem PtS.alloc (h : PtS w W vs vm L) (o : Obj) : PtS w (W.alloc o) vs vm L := h.only ((Below.refl _ _).alloc (Nat.le_refl _) o)
theorem PtS.app (h : PtS w W vs vm L) {y : Sp} {v' : Value} (hg0 : W.grownBy W' vs.ownBlock) (hr : W'.ownsRow w.heap.size 64 6 v' (L.length + 1) (flatS L ++ secCells y)) :
    Below w.heap.size w W' ∧ Has W' w.heap.size 26 #[vs, vm] ∧ PtS w (W'.setCell ⟨w.heap.size, 0, none⟩ v') v' vm (L ++ [y]) := by
  have ho : Has W' w.heap.size 26 #[vs, vm] := h.obj.grown hg0 (h.obj.other h.row (by decide))
  have hb : Below w.heap.size w W' := h.below.grown hg0 h.below.size (fun q hq => (h.row.lt q hq).1)
  have hg : W'.grownBy (W'.setCell ⟨w.heap.size, 0, none⟩ v') (some w.heap.size) := only_put' 0 _
  refine ⟨hb, ho, hb.grown hg hb.size (by intro q hq; injection hq with hq; omega), ho.put 0 _, ?_⟩
  rw [flatS_snoc, List.length_append]
  exact World.ownsRow.kept hr hg (row_apart hr ho (by decide))
end
/-- Around a section that is put behind the others. -/
def JP (w : World) (vs vm : Value) (L : List Sp) (y : Sp) (q : Nat) : Nat → World → (Nat → Value) → Prop
  | 0, W, _ => PtS w W vs vm L
  | 1, W, vals => PtS w W vs vm L ∧ ∃ g, vals 0 = .slice (some ⟨g, 0, none⟩) 1 1 ∧ Has W g 64 (secCells y).toArray
  | 2, W, vals => ∃ a c, vals 1 = .slice a (q + 1) c ∧ Below w.heap.size w W ∧ Has W w.heap.size 26 #[vs, vm] ∧ PtS w (W.setCell ⟨w.heap.size, 0, none⟩ (.slice a (q + 1) c)) (.slice a (q + 1) c) vm (L ++ [y])
  | _, W, _ => ∃ a c, PtS w W (.slice a (q + 1) c) vm (L ++ [y])
theorem JP.below {w : World} {vs vm : Value} {L : List Sp} {y : Sp} {q k : Nat} {W : World} {vals : Nat → Value} (h : JP w vs vm L y q k W vals) : Below w.heap.size w W := by
  match k, h with
  | 0, h => exact PtS.below h
  | 1, h => exact PtS.below h.1
  | 2, h => obtain ⟨_, _, _, h1, _⟩ := h; exact h1
  | _ + 3, h => obtain ⟨_, _, h⟩ := h; exact PtS.below h
theorem JP.obj {w : World} {vs vm : Value} {L : List Sp} {y : Sp} {q k : Nat} {W : World} {vals : Nat → Value} (h : JP w vs vm L y q k W vals) (hk : k ≤ 1) : Has W w.heap.size 26 #[vs, vm] := by
  match k, h, hk with
  | 0, h, _ => exact PtS.obj h
  | 1, h, _ => exact PtS.obj h.1
/-- Around a symbol's new place. -/
def JL (w13 w9 : World) (qb : Nat) (vs vm : Value) (LL : List Sp) (ms : List Sm) : Nat → World → (Nat → Value) → Prop
  | 0, W, _ => ∃ z, W = w13.drewN z
  | _, W, _ => Hid (Ob W qb w9.heap.size vs vm LL ms) ∧ Hid (Below w9.heap.size w9 W)
theorem JL.at0 {w13 w9 : World} {qb : Nat} {vs vm : Value} {LL : List Sp} {ms : List Sm} {k : Nat} {W : World} {vals : Nat → Value} (h : JL w13 w9 qb vs vm LL ms k W vals) (hk : k = 0) : ∃ z, W = w13.drewN z := by
  subst hk; exact h
end Go.Proofs.Ytjpclpjhigongaa
