/-
  FnExactFixupWide: the law's walk over what stands of impl.FixupWide.
-/
import Derived.Test.YtelihledjjeeaaaSecI
import Derived.Test.YtelihledjjeeaaaLawS1
import Derived.Test.YtelihledjjeeaaaOpenX
namespace Go.Proofs.Ytelihledjjeeaaa
open Go.RowKit

theorem fin_ExactFixupWide (w : World) (k : Int) (hk : I64 k) :
    Calls Try.prog 6 #[.int .i64 k] w fun e w' => e = .returned (.bool true) ∧ Below w.heap.size w w' :=
  law_ExactFixupWide wantFixupWide w k hk

end Go.Proofs.Ytelihledjjeeaaa
