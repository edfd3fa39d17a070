/-
  FnSectionSize: the law's walk over what stands of impl.SectionSize.
-/
import Derived.Test.YtelihledjjeeaaaSecI
import Derived.Test.YtelihledjjeeaaaLawS4
namespace Go.Proofs.Ytelihledjjeeaaa
open Go.RowKit

theorem fin_SectionSize (w : World) (a0 : Option Addr) (len cap : Nat) (h : Came w a0 len cap) :
    Calls Try.prog 4 #[.slice a0 len cap] w fun e w' => e = .returned (.bool true) ∧ Below w.heap.size w w' :=
  law_SectionSize wantSectionSize w a0 len cap h

end Go.Proofs.Ytelihledjjeeaaa
