/-
  FnGetHeader: the law's walk over what stands of the program.
-/
import Derived.Test.YtplkhpkbfhpjeaaGetHI
import Derived.Test.YtplkhpkbfhpjeaaPutHI
import Derived.Test.YtplkhpkbfhpjeaaLawH3
namespace Go.Proofs.Ytplkhpkbfhpjeaa
open Go.RowKit

theorem fin_GetHeader (w : World) (a0 : Option Addr) (len cap : Nat) (h : Came w a0 len cap) :
    Calls Try.prog 4 #[.slice a0 len cap] w fun e w' => e = .returned (.bool true) ∧ Below w.heap.size w w' :=
  law_GetHeader wantGetHeader wantPutHeader w a0 len cap h

end Go.Proofs.Ytplkhpkbfhpjeaa
