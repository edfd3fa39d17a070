/-
  Draws that are an object alone.
-/
import Derived.Test.YtiocchmlmcoieaaDrawO
namespace Go.Proofs.Ytiocchmlmcoieaa
open Go.RowKit

/-- An object that was drawn. -/
def GotO (w : World) (e : Ending) (w' : World) : Prop := ∃ (ss : List Sp) (ms : List Sm) (a1 a2 : Option Addr) (c1 c2 : Nat), e = .returned (.agg #[.slice a1 ss.length c1, .slice a2 ms.length c2]) ∧ ss.length ≤ 8 ∧ ms.length ≤ 20 ∧ (∀ y ∈ ss, y.s.small) ∧ (∀ m ∈ ms, m.small) ∧ Sects w' w'.heap.size a1 ss ∧ Syms w' w'.heap.size a2 ms ∧ (∃ base, w'.ownsRow base 82 4 (.slice a2 ms.length c2) ms.length (flatM ms)) ∧ Below w.heap.size w w'















































































end Go.Proofs.Ytiocchmlmcoieaa
