/-
  FnExactPutHeader: the law's walk over what stands of the program.
-/
import Derived.Test.YtplkhpkbfhpjeaaPutHI
import Derived.Test.YtplkhpkbfhpjeaaLawH2
import Derived.Test.YtplkhpkbfhpjeaaOpenH
namespace Go.Proofs.Ytplkhpkbfhpjeaa
open Go.RowKit

theorem fin_ExactPutHeader (w : World) (h : Hd) (hf : h.fits) :
    Calls Try.prog 6 #[h.agg] w fun e w' => e = .returned (.bool true) ∧ Below w.heap.size w w' :=
  law_ExactPutHeader wantPutHeader w h hf

end Go.Proofs.Ytplkhpkbfhpjeaa
