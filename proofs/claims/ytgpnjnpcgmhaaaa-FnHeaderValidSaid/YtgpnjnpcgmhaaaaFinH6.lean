/-
  FnHeaderValid: the law's walk over what stands of the program.
-/
import Derived.Test.YtgpnjnpcgmhaaaaFieldsI
import Derived.Test.YtgpnjnpcgmhaaaaLawH6
namespace Go.Proofs.Ytgpnjnpcgmhaaaa
open Go.RowKit

theorem fin_HeaderValid (w : World) (a0 : Option Addr) (len cap : Nat) (h : Came w a0 len cap) :
    Calls Try.prog 3 #[.slice a0 len cap] w fun e w' => e = .returned (.bool true) ∧ Below w.heap.size w w' :=
  law_HeaderValid headerValid_any w a0 len cap h

end Go.Proofs.Ytgpnjnpcgmhaaaa
