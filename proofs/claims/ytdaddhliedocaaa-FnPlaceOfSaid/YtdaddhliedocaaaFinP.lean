/-
  FnNameAt, FnPlaceOf, FnExactNameAt and FnExactPlaceOf: the laws' walks over what stands of the program's functions.
-/
import Derived.Test.YtdaddhliedocaaaGotP
import Derived.Test.YtdaddhliedocaaaLawN1
import Derived.Test.YtdaddhliedocaaaLawN2
import Derived.Test.YtdaddhliedocaaaLawX2
namespace Go.Proofs.Ytdaddhliedocaaa
open Go.RowKit

theorem wf_i64' {x : Int} (h : (Lit.int .i64 x).wf = true) : -9223372036854775808 ≤ x ∧ x ≤ 9223372036854775807 := by
  simp [Lit.wf, IntKind.min, IntKind.max, IntKind.signed, IntKind.bits] at h; omega
theorem fin_NameAt (w : World) (a0 : Option Addr) (len cap : Nat) (h : Came w a0 len cap) :
    Calls Try.prog 5 #[.slice a0 len cap] w fun e w' => e = .returned (.bool true) ∧ Below w.heap.size w w' :=
  law_NameAt gotNameAt w a0 len cap h
theorem fin_PlaceOf (w : World) (a0 : Option Addr) (len cap : Nat) (h : Came w a0 len cap) :
    Calls Try.prog 6 #[.slice a0 len cap] w fun e w' => e = .returned (.bool true) ∧ Below w.heap.size w w' :=
  law_PlaceOf gotNameAt gotPlaceOf w a0 len cap h
theorem fin_ExactPlaceOf (w : World) (a : Option Addr) (len cap : Nat) (s : ByteArray) (hs : s.size ≤ maxLen) (h : ∃ l, Ints w .u8 w.heap.size a l ∧ l.length = len ∧ len ≤ 9223372036854775807) :
    Calls Try.prog 11 #[.slice a len cap, .string s] w fun e w' => e = .returned (.bool true) ∧ Below w.heap.size w w' :=
  law_ExactPlaceOf gotPlaceOf w a len cap s hs h
theorem fin_ExactNameAt (w : World) (a : Option Addr) (len cap : Nat) (n : Int) (hn0 : -9223372036854775808 ≤ n) (hn1 : n ≤ 9223372036854775807) (h : ∃ l, Ints w .u8 w.heap.size a l ∧ l.length = len ∧ len ≤ 9223372036854775807) :
    Calls Try.prog 10 #[.slice a len cap, .int .i64 n] w fun e w' => e = .returned (.bool true) ∧ Below w.heap.size w w' :=
  law_ExactNameAt gotNameAt w a len cap n hn0 hn1 h

end Go.Proofs.Ytdaddhliedocaaa
