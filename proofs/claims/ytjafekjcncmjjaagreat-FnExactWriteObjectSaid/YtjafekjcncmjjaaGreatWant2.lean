/-
  What is wanted of the program's functions of chapter 2; each is a text's own, and proved of the code elsewhere.
-/
import Derived.Test.YtjafekjcncmjjaaGreatSortP
import Derived.Test.YtjafekjcncmjjaaGreatMem
import Derived.Test.YtjafekjcncmjjaaGreatRegion
import Derived.Test.YtjafekjcncmjjaaGreatTableS
namespace Go.Proofs.YtjafekjcncmjjaaGreat
open Go.RowKit

def WantNameValid : Prop := ∀ (w : World) (s : ByteArray), s.size ≤ maxLen → Calls Tryz.prog 80 #[.string s] w fun e w' => e = .returned (.bool (nameOk s.data.toList)) ∧ Below w.heap.size w w'


def WantPlaceOf : Prop := ∀ (w : World) (B : Nat) (a : Option Addr) (cap : Nat) (l : List Int), Ints w .u8 B a l → B ≤ w.heap.size → l.length ≤ cap → cap ≤ 9223372036854775807 → ∀ s : ByteArray, s.size ≤ maxLen →
  Calls Tryz.prog 74 #[.slice a l.length cap, .string s] w fun e w' => e = .returned (.int .i64 (firstAt l s 0 l.length)) ∧ Below w.heap.size w w'
def WantNameTable : Prop := ∀ (w : World) (B : Nat) (a : Option Addr) (cap : Nat) (names : List ByteArray), Vals w B a (names.map Value.string) → B ≤ w.heap.size → names.length ≤ 9223372036854775807 → (∀ x ∈ names, x.size ≤ maxLen) →
  Calls Tryz.prog 50 #[.slice a names.length cap] w (Tabled w (nameTab names))

end Go.Proofs.YtjafekjcncmjjaaGreat
