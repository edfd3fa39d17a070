/-
  FnNameTable: the law's walk over what stands of the program's functions.
-/
import Derived.Test.YtdaddhliedocaaaGotP
import Derived.Test.YtdaddhliedocaaaGotT
import Derived.Test.YtdaddhliedocaaaLawN3
namespace Go.Proofs.Ytdaddhliedocaaa
open Go.RowKit

theorem fin_NameTable (w : World) (a0 : Option Addr) (len cap : Nat) (h : Came w a0 len cap) :
    Calls Try.prog 4 #[.slice a0 len cap] w fun e w' => e = .returned (.bool true) ∧ Below w.heap.size w w' :=
  law_NameTable gotNameTable gotNameAt gotPlaceOf w a0 len cap h

end Go.Proofs.Ytdaddhliedocaaa
