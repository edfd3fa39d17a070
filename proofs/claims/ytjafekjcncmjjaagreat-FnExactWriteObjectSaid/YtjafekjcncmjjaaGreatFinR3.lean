/-
  FnExactWriteObject: the law's walk over what stands of the program.
-/
import Derived.Test.YtjafekjcncmjjaaGreatGotT
import Derived.Test.YtjafekjcncmjjaaGreatWrObjI
import Derived.Test.YtjafekjcncmjjaaGreatLawR3
import Derived.Test.YtjafekjcncmjjaaGreatOpenO
namespace Go.Proofs.YtjafekjcncmjjaaGreat
open Go.RowKit

theorem fin_ExactWriteObject (w : World) (a1 a2 : Option Addr) (c1 c2 n m : Nat) (l : List Sp) (ms : List Sm) (hn : n = l.length) (hm : m = ms.length) (h1 : Sects w w.heap.size a1 l) (h2 : Syms w w.heap.size a2 ms) (hlen : n ≤ 9223372036854775807) (hlem : m ≤ 9223372036854775807)
    (hl : ∀ y ∈ l, y.s.fits) (hs : ∀ x ∈ ms, x.fits) :
    Calls Tryz.prog 3 #[.agg #[.slice a1 n c1, .slice a2 m c2]] w fun e w' => e = .returned (.bool true) ∧ Below w.heap.size w w' :=
  law_ExactWriteObject (wantWriteObject gotNameTable) w a1 a2 c1 c2 n m l ms hn hm h1 h2 hlen hlem hl hs

end Go.Proofs.YtjafekjcncmjjaaGreat
