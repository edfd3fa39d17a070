/-
  spec.DrawNamesTwice, with the capacity told.
-/
import Derived.Test.YtiocchmlmcoieaaDrawOL
namespace Go.Proofs.Ytiocchmlmcoieaa
open Go.RowKit

theorem OL.cap {W : World} {base : Nat} {a : Option Addr} {c : Nat} {L M : List Oj} (h : OL W base (.slice a L.length c) L M) : L.length ≤ c ∧ c ≤ maxLen := by
  rcases h.row.2 with ⟨e, h0⟩ | ⟨g, cap, cur, e, _, _, k1, k2, _⟩
  · have e2 := (Value.slice.inj e).2.2
    exact ⟨by omega, by rw [e2]; exact Nat.zero_le _⟩
  · have e2 := (Value.slice.inj e).2.2
    rw [e2]
    exact ⟨k1, k2⟩
/-- Objects that were drawn, and the room that they lie in. -/
def GotC (w : World) (e : Ending) (w' : World) : Prop :=
  ∃ (a : Option Addr) (c : Nat) (L : List Oj), e = .returned (.slice a L.length c) ∧ (L.length ≤ c ∧ c ≤ maxLen) ∧ L.length ≤ 5 ∧ (∀ y ∈ L, y.few) ∧ Objs w' w'.heap.size a L ∧ Below w.heap.size w w'
theorem gotC_mk {w w1 w' : World} {g : Nat} {P : Int} {B : Nat} {e : Ending} (hb : Below w.heap.size w w1) (hg : w.heap.size ≤ g) (h : DrawnL w1 B g P e w') : GotC w e w' := by
  obtain ⟨a, c, L, rfl, hl, d⟩ := h
  exact ⟨a, c, L, rfl, d.list.cap, hl, d.few, d.list.objs', hb.grown d.grown hb.size (by intro q hq; injection hq with hq; omega)⟩





















end Go.Proofs.Ytiocchmlmcoieaa
