/-
  Contracts of the draws of bytes.
-/
import Derived.Test.YtgpnjnpcgmhaaaaRegion
import Derived.Test.YtgpnjnpcgmhaaaaBase
namespace Go.Proofs.Ytgpnjnpcgmhaaaa
open Go.RowKit

theorem lits_at_k (k : IntKind) (cs : Array Value) (zs : List Int) (hcs : cs = (zs.map (Value.int k)).toArray) (i : Nat) (hi : i < zs.length) : cs[i]? = some (.int k (zs.getD i 0)) := by
  subst hcs
  simp [List.getD, List.getElem?_eq_getElem hi]
theorem lit_read_k (k : IntKind) {t : TypeId} {w : World} {b : Nat} {cs : Array Value} (zs : List Int) (lo hi : Int) (h : Has w b t cs) (hcs : cs = (zs.map (Value.int k)).toArray) (hz : ∀ z ∈ zs, lo ≤ z ∧ z < hi) (i : Nat) (hi' : i < zs.length) :
    ∃ z, w.cell? ⟨b, i, none⟩ = some (.int k z) ∧ lo ≤ z ∧ z < hi :=
  ⟨_, (h.cell i).trans (lits_at_k k cs zs hcs i hi'), lits_in zs lo hi hz i hi'⟩

/-- What the draw of bytes leaves. -/
def DrawnBytes (w : World) (B g : Nat) (P most : Int) (e : Ending) (w' : World) : Prop :=
  ∃ (v : Value) (l : List Int), e = .returned v ∧ w'.ownsRow w.heap.size 5 1 v l.length (l.map (Value.int .u8)) ∧ (∀ x ∈ l, (Lit.int .u8 x).wf = true) ∧ (l.length : Int) ≤ most ∧
    Rd w' B g (P + 1 + 2 * most) ∧ w.grownBy w' (some g)







































































/-- What the draw of bytes, a place and a width leaves. -/
def DrawnPlace (w : World) (e : Ending) (w' : World) : Prop :=
  ∃ (a : Option Addr) (c : Nat) (l : List Int) (n k : Int), e = .returned (.tuple #[.slice a l.length c, .int .i64 n, .int .i64 k]) ∧ l.length ≤ c ∧ Ints w' .u8 w'.heap.size a l ∧ l.length ≤ 9 ∧ -1 ≤ n ∧ n ≤ 8 ∧ 0 ≤ k ∧ k ≤ 5 ∧ Below w.heap.size w w'




































end Go.Proofs.Ytgpnjnpcgmhaaaa
