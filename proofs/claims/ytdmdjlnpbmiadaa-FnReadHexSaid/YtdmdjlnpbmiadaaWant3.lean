/-
  What is wanted of the program's functions of chapter 3; each is proved of the code elsewhere.
-/
import Derived.Test.YtdmdjlnpbmiadaaSecs
namespace Go.Proofs.Ytdmdjlnpbmiadaa
open Go.RowKit

/-- A number of the machine. -/
def I64 (n : Int) : Prop := -9223372036854775808 ≤ n ∧ n ≤ 9223372036854775807
/-- A section whose numbers are the machine's. -/
structure Sx.fits (s : Sx) : Prop where
  name : s.name.size ≤ maxLen
  kind : I64 s.kind
  align : I64 s.align
  size : I64 s.size
  bytes : s.bytes.length ≤ 9223372036854775807
  count : s.fixs.length ≤ 9223372036854775807
  fixs : ∀ f ∈ s.fixs, I64 f.pl ∧ I64 f.kind ∧ I64 f.to ∧ I64 f.add






end Go.Proofs.Ytdmdjlnpbmiadaa
