/-
  FnSectionValid: the law's walk over what stands of impl.SectionValid.
-/
import Derived.Test.YtelihledjjeeaaaSecK
import Derived.Test.YtelihledjjeeaaaLawS5
namespace Go.Proofs.Ytelihledjjeeaaa
open Go.RowKit

theorem fin_SectionValid (w : World) (a0 : Option Addr) (len cap : Nat) (h : Came w a0 len cap) :
    Calls Try.prog 5 #[.slice a0 len cap] w fun e w' => e = .returned (.bool true) ∧ Below w.heap.size w w' :=
  law_SectionValid wantSectionValid w a0 len cap h

end Go.Proofs.Ytelihledjjeeaaa
