/-
  FnExactSectionValid: the law's walk over what stands of impl.SectionValid.
-/
import Derived.Test.YtelihledjjeeaaaSecK
import Derived.Test.YtelihledjjeeaaaLawS1
import Derived.Test.YtelihledjjeeaaaOpenX
namespace Go.Proofs.Ytelihledjjeeaaa
open Go.RowKit

theorem fin_ExactSectionValid (w : World) (s : Sx) (a1 : Option Addr) (c1 : Nat) (a2 : Option Addr) (c2 : Nat) (h1 : Ints w .u8 w.heap.size a1 s.bytes) (h2 : Fixs w w.heap.size a2 s.fixs) (hf : s.fits) (many : Int) (hmany : I64 many) :
    Calls Try.prog 8 #[s.agg a1 c1 a2 c2, .int .i64 many] w fun e w' => e = .returned (.bool true) ∧ Below w.heap.size w w' :=
  law_ExactSectionValid wantSectionValid w s a1 c1 a2 c2 h1 h2 hf many hmany

end Go.Proofs.Ytelihledjjeeaaa
