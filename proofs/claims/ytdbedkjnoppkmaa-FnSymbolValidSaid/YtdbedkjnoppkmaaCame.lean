/-
  What a law is told of the bytes that came in.
-/
import Derived.Test.YtdbedkjnoppkmaaMem
namespace Go.Proofs.Ytdbedkjnoppkmaa
open Go.RowKit

/-- A slice of bytes that came in: a list, read. -/
def Came (w : World) (a : Option Addr) (len cap : Nat) : Prop := ∃ l, Ints w .u8 w.heap.size a l ∧ l.length = len ∧ len ≤ cap ∧ cap ≤ 9223372036854775807

end Go.Proofs.Ytdbedkjnoppkmaa
