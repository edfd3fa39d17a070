/-
  What is wanted of the program's functions of chapter 3; each is proved of the code elsewhere.
-/
import Derived.Test.YtiocchmlmcoieaaSecs
namespace Go.Proofs.Ytiocchmlmcoieaa
open Go.RowKit

/-- A number of the machine. -/
def I64 (n : Int) : Prop := -9223372036854775808 ≤ n ∧ n ≤ 9223372036854775807
/-- A section whose numbers are the machine's. -/
structure Sx.fits (s : Sx) : Prop where
  name : s.name.size ≤ maxLen
  kind : I64 s.kind
  align : I64 s.align
  size : I64 s.size
  bytes : s.bytes.length ≤ 9223372036854775807
  count : s.fixs.length ≤ 9223372036854775807
  fixs : ∀ f ∈ s.fixs, I64 f.pl ∧ I64 f.kind ∧ I64 f.to ∧ I64 f.add
def WantFixupWide : Prop := ∀ (w : World) (k : Int), I64 k → Calls Try.prog 115 #[.int .i64 k] w fun e w' => e = .returned (.int .i64 (wideOf k)) ∧ Below w.heap.size w w'
def WantSectionSize : Prop := ∀ (w : World) (B : Nat) (s : Sx) (a1 : Option Addr) (c1 : Nat) (a2 : Option Addr) (c2 : Nat), Ints w .u8 B a1 s.bytes → Fixs w B a2 s.fixs → B ≤ w.heap.size → s.fits →
  Calls Try.prog 16 #[s.agg a1 c1 a2 c2] w fun e w' => e = .returned (.int .i64 s.long) ∧ Below w.heap.size w w'
def WantSectionValid : Prop := ∀ (w : World) (B : Nat) (s : Sx) (many : Int) (a1 : Option Addr) (c1 : Nat) (a2 : Option Addr) (c2 : Nat), Ints w .u8 B a1 s.bytes → Fixs w B a2 s.fixs → B ≤ w.heap.size → s.fits → I64 many →
  Calls Try.prog 83 #[s.agg a1 c1 a2 c2, .int .i64 many] w fun e w' => e = .returned (.bool (sectOk s many)) ∧ Below w.heap.size w w'

end Go.Proofs.Ytiocchmlmcoieaa
