/-
  FnExactGetHeader: the law's walk over what stands of the program.
-/
import Derived.Test.YtplkhpkbfhpjeaaGetHI
import Derived.Test.YtplkhpkbfhpjeaaLawH1
namespace Go.Proofs.Ytplkhpkbfhpjeaa
open Go.RowKit

theorem fin_ExactGetHeader (w : World) (a : Option Addr) (len cap : Nat) (h : ∃ l, Ints w .u8 w.heap.size a l ∧ l.length = len ∧ len ≤ 9223372036854775807) :
    Calls Try.prog 7 #[.slice a len cap] w fun e w' => e = .returned (.bool true) ∧ Below w.heap.size w w' :=
  law_ExactGetHeader wantGetHeader w a len cap h

end Go.Proofs.Ytplkhpkbfhpjeaa
