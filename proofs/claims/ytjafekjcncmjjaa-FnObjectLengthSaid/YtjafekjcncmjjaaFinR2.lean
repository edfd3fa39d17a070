/-
  FnObjectLength: the law's walk over what stands of the program.
-/
import Derived.Test.YtjafekjcncmjjaaGotT
import Derived.Test.YtjafekjcncmjjaaWrObjI
import Derived.Test.YtjafekjcncmjjaaLawR2
namespace Go.Proofs.Ytjafekjcncmjjaa
open Go.RowKit

theorem fin_ObjectLength (w : World) (a0 : Option Addr) (len cap : Nat) (h : Came w a0 len cap) :
    Calls Try.prog 3 #[.slice a0 len cap] w fun e w' => e = .returned (.bool true) ∧ Below w.heap.size w w' :=
  law_ObjectLength (wantObjectLength gotNameTable) (wantWriteObject gotNameTable) w a0 len cap h

end Go.Proofs.Ytjafekjcncmjjaa
