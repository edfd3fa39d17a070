/-
  FnNameValid and FnExactNameValid: the laws' walks over what stands of impl.NameValid.
-/
import Derived.Test.YtdaddhliedocaaaGotN
import Derived.Test.YtdaddhliedocaaaLawN4
import Derived.Test.YtdaddhliedocaaaLawX2
namespace Go.Proofs.Ytdaddhliedocaaa
open Go.RowKit

theorem fin_NameValid (w : World) (a0 : Option Addr) (len cap : Nat) (h : Came w a0 len cap) :
    Calls Try.prog 3 #[.slice a0 len cap] w fun e w' => e = .returned (.bool true) ∧ Below w.heap.size w w' :=
  law_NameValid gotNameValid w a0 len cap h
theorem fin_ExactNameValid (w : World) (s : ByteArray) (hs : s.size ≤ maxLen) :
    Calls Try.prog 8 #[.string s] w fun e w' => e = .returned (.bool true) ∧ Below w.heap.size w w' :=
  law_ExactNameValid gotNameValid w s hs

end Go.Proofs.Ytdaddhliedocaaa
