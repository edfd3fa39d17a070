/-
  FnObjectValid: the law's walk over what stands of the program.
-/
import Derived.Test.YtdbedkjnoppkmaaOpenI
import Derived.Test.YtdbedkjnoppkmaaLawO4
namespace Go.Proofs.Ytdbedkjnoppkmaa
open Go.RowKit

theorem fin_ObjectValid (w : World) (a0 : Option Addr) (len cap : Nat) (h : Came w a0 len cap) :
    Calls Try.prog 4 #[.slice a0 len cap] w fun e w' => e = .returned (.bool true) ∧ Below w.heap.size w w' :=
  law_ObjectValid wantObjectValid w a0 len cap h

end Go.Proofs.Ytdbedkjnoppkmaa
