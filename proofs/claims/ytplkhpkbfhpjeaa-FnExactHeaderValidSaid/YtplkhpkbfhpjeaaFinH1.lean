/-
  FnExactHeaderValid: the law's walk over what stands of the program.
-/
import Derived.Test.YtplkhpkbfhpjeaaFieldsI
import Derived.Test.YtplkhpkbfhpjeaaLawH1
import Derived.Test.YtplkhpkbfhpjeaaOpenH
namespace Go.Proofs.Ytplkhpkbfhpjeaa
open Go.RowKit

theorem fin_ExactHeaderValid (w : World) (h : Hd) (hf : h.fits) :
    Calls Try.prog 5 #[h.agg] w fun e w' => e = .returned (.bool true) ∧ Below w.heap.size w w' :=
  law_ExactHeaderValid wantHeaderValid w h hf

end Go.Proofs.Ytplkhpkbfhpjeaa
