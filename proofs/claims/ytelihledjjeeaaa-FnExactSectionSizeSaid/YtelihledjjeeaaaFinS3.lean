/-
  FnExactSectionSize: the law's walk over what stands of impl.SectionSize.
-/
import Derived.Test.YtelihledjjeeaaaSecI
import Derived.Test.YtelihledjjeeaaaLawS1
import Derived.Test.YtelihledjjeeaaaOpenX
namespace Go.Proofs.Ytelihledjjeeaaa
open Go.RowKit

theorem fin_ExactSectionSize (w : World) (s : Sx) (a1 : Option Addr) (c1 : Nat) (a2 : Option Addr) (c2 : Nat) (h1 : Ints w .u8 w.heap.size a1 s.bytes) (h2 : Fixs w w.heap.size a2 s.fixs) (hf : s.fits) :
    Calls Try.prog 7 #[s.agg a1 c1 a2 c2] w fun e w' => e = .returned (.bool true) ∧ Below w.heap.size w w' :=
  law_ExactSectionSize wantSectionSize w s a1 c1 a2 c2 h1 h2 hf

end Go.Proofs.Ytelihledjjeeaaa
