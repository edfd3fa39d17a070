/-
  FnExactSymbolValid: the laws' walks over what stands of the program.
-/
import Derived.Test.YtdbedkjnoppkmaaSymI
import Derived.Test.YtdbedkjnoppkmaaLawO1
import Derived.Test.YtdbedkjnoppkmaaOpenO
namespace Go.Proofs.Ytdbedkjnoppkmaa
open Go.RowKit

theorem fin_ExactSymbolValid (w : World) (s : Sm) (hs : s.fits) (a : Option Addr) (c n : Nat) (l : List Sp) (hn : n = l.length) (h1 : Sects w w.heap.size a l) (hlen : n ≤ 9223372036854775807) (hl : ∀ y ∈ l, y.s.fits) :
    Calls Try.prog 6 #[s.agg, .slice a n c] w fun e w' => e = .returned (.bool true) ∧ Below w.heap.size w w' :=
  law_ExactSymbolValid wantSymbolValid w s hs a c n l hn h1 hlen hl

end Go.Proofs.Ytdbedkjnoppkmaa
