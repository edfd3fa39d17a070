/-
  FnHexText, FnReadHex, FnExactHexText and FnExactReadHex over what the program's functions do.
-/
import Derived.Test.YtdmdjlnpbmiadaaHexI
import Derived.Test.YtdmdjlnpbmiadaaLawD2
namespace Go.Proofs.Ytdmdjlnpbmiadaa
open Go.RowKit

theorem fin_HexText (w : World) (a0 : Option Addr) (len cap : Nat) (h : Came w a0 len cap) : Calls Try.prog 3 #[.slice a0 len cap] w fun e w' => e = .returned (.bool true) ∧ Below w.heap.size w w' := law_HexText wantHexText wantReadHex w a0 len cap h
theorem fin_ReadHex (w : World) (a0 : Option Addr) (len cap : Nat) (h : Came w a0 len cap) : Calls Try.prog 4 #[.slice a0 len cap] w fun e w' => e = .returned (.bool true) ∧ Below w.heap.size w w' := law_ReadHex wantHexText wantReadHex w a0 len cap h
theorem fin_ExactHexText (w : World) (a : Option Addr) (len cap : Nat) (h : ∃ l, Ints w .u8 w.heap.size a l ∧ l.length = len ∧ len ≤ 9223372036854775807) : Calls Try.prog 5 #[.slice a len cap] w fun e w' => e = .returned (.bool true) ∧ Below w.heap.size w w' := law_ExactHexText wantHexText w a len cap h
theorem fin_ExactReadHex (w : World) (s : ByteArray) (h : s.size ≤ maxLen) : Calls Try.prog 6 #[.string s] w fun e w' => e = .returned (.bool true) ∧ Below w.heap.size w w' := law_ExactReadHex wantReadHex w s h
end Go.Proofs.Ytdmdjlnpbmiadaa
