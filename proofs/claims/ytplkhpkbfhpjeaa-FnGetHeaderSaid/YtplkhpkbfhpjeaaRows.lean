/-
  No cell of these rows narrows 'for every input' (looked for: loops, veiled, ifaces, maps, wideKeys, modest, calm, conditions, laid).
  DERIVED. THE GIVEN ROWS OF THIS SEAT. 5 by the template 'for every input the law returns true; each argument reads behind the call as it read before'; 0 by the template 'total and deterministic' (their statements: YtplkhpkbfhpjeaaTotals.lean).
  GIVEN WITH THE SEED: the statements are not yours to turn. If you find one false, say at which input.
  Laid BY PROGRAM, IN A SANDBOX (cutbox-rows.mjs): the forced cells as the released guide's own fill.sh prints them over the translation 6a9abaf5368bf2c8… (all of the seat's roots in one cut). By AI agents, Wed Nov 11 2026. No macro, syntax, notation, axiom, sorry.
-/
import Derived.Test.YtplkhpkbfhpjeaaChecked
import GoSem.Claim
import GoSem.ClaimJoined
import GoSem.ClaimMapViews
import Derived.JoinedTies
import Derived.KernelRfl
namespace Go.Proofs.Ytplkhpkbfhpjeaa
/- THE CELL 'sum', in the pinned program and in every row, IS THE sha256 OF THE DUMP (.gsa) THAT YtplkhpkbfhpjeaaProg.lean LOADS. Nothing in Lean hashes anything: it is a label: what it is worth is what the hold of that sum in a sandbox is worth. -/
noncomputable def Try.pinned : Pinned := { name := "ytplkhpkbfhpjeaa", sum := "6a9abaf5368bf2c853bab2bd97da1e8ef02f104037c5c4ddb2a59c1eb9706bdc", checked := Try.checked }
namespace Rows
def none {H : Type} : Left H := { results := [], args := [] }

/-- 'laws.FnPutHeader': WHATEVER THE INPUT: true; the input reads as it did. -/
def fnPutHeaderSpec : ChangeSpec := { name := "fnPutHeader", fn := fun _ => fun
  | [d] => { results := [.lit (.bool true)], args := [d] }
  | _ => none }
def fnPutHeaderRow : OpenClaim := { program := "ytplkhpkbfhpjeaa", sum := "6a9abaf5368bf2c853bab2bd97da1e8ef02f104037c5c4ddb2a59c1eb9706bdc", func := "loop.example/objectlinker/laws.FnPutHeader", spec := "fnPutHeader", apart := false }
def FnPutHeaderSaid : Prop := fnPutHeaderRow.holds Try.pinned (OpenSpec.ofChange fnPutHeaderSpec)

/-- ITS FALSE NEIGHBOUR: 'it returns false'. Refute it at one input. -/
def fnPutHeaderWrong : ChangeSpec := { name := "fnPutHeader", fn := fun _ => fun
  | [d] => { results := [.lit (.bool false)], args := [d] }
  | _ => none }
def FnPutHeaderWrongFalsely : Prop := fnPutHeaderRow.holds Try.pinned (OpenSpec.ofChange fnPutHeaderWrong)

/-- 'laws.FnGetHeader': WHATEVER THE INPUT: true; the input reads as it did. -/
def fnGetHeaderSpec : ChangeSpec := { name := "fnGetHeader", fn := fun _ => fun
  | [d] => { results := [.lit (.bool true)], args := [d] }
  | _ => none }
def fnGetHeaderRow : OpenClaim := { program := "ytplkhpkbfhpjeaa", sum := "6a9abaf5368bf2c853bab2bd97da1e8ef02f104037c5c4ddb2a59c1eb9706bdc", func := "loop.example/objectlinker/laws.FnGetHeader", spec := "fnGetHeader", apart := false }
def FnGetHeaderSaid : Prop := fnGetHeaderRow.holds Try.pinned (OpenSpec.ofChange fnGetHeaderSpec)

/-- ITS FALSE NEIGHBOUR: 'it returns false'. Refute it at one input. -/
def fnGetHeaderWrong : ChangeSpec := { name := "fnGetHeader", fn := fun _ => fun
  | [d] => { results := [.lit (.bool false)], args := [d] }
  | _ => none }
def FnGetHeaderWrongFalsely : Prop := fnGetHeaderRow.holds Try.pinned (OpenSpec.ofChange fnGetHeaderWrong)

/-- 'laws.FnExactHeaderValid': WHATEVER THE INPUT: true; the input reads as it did. -/
def fnExactHeaderValidSpec : ChangeSpec := { name := "fnExactHeaderValid", fn := fun _ => fun
  | [d] => { results := [.lit (.bool true)], args := [d] }
  | _ => none }
def fnExactHeaderValidRow : OpenClaim := { program := "ytplkhpkbfhpjeaa", sum := "6a9abaf5368bf2c853bab2bd97da1e8ef02f104037c5c4ddb2a59c1eb9706bdc", func := "loop.example/objectlinker/laws.FnExactHeaderValid", spec := "fnExactHeaderValid", apart := false }
def FnExactHeaderValidSaid : Prop := fnExactHeaderValidRow.holds Try.pinned (OpenSpec.ofChange fnExactHeaderValidSpec)

/-- ITS FALSE NEIGHBOUR: 'it returns false'. Refute it at one input. -/
def fnExactHeaderValidWrong : ChangeSpec := { name := "fnExactHeaderValid", fn := fun _ => fun
  | [d] => { results := [.lit (.bool false)], args := [d] }
  | _ => none }
def FnExactHeaderValidWrongFalsely : Prop := fnExactHeaderValidRow.holds Try.pinned (OpenSpec.ofChange fnExactHeaderValidWrong)

/-- 'laws.FnExactPutHeader': WHATEVER THE INPUT: true; the input reads as it did. -/
def fnExactPutHeaderSpec : ChangeSpec := { name := "fnExactPutHeader", fn := fun _ => fun
  | [d] => { results := [.lit (.bool true)], args := [d] }
  | _ => none }
def fnExactPutHeaderRow : OpenClaim := { program := "ytplkhpkbfhpjeaa", sum := "6a9abaf5368bf2c853bab2bd97da1e8ef02f104037c5c4ddb2a59c1eb9706bdc", func := "loop.example/objectlinker/laws.FnExactPutHeader", spec := "fnExactPutHeader", apart := false }
def FnExactPutHeaderSaid : Prop := fnExactPutHeaderRow.holds Try.pinned (OpenSpec.ofChange fnExactPutHeaderSpec)

/-- ITS FALSE NEIGHBOUR: 'it returns false'. Refute it at one input. -/
def fnExactPutHeaderWrong : ChangeSpec := { name := "fnExactPutHeader", fn := fun _ => fun
  | [d] => { results := [.lit (.bool false)], args := [d] }
  | _ => none }
def FnExactPutHeaderWrongFalsely : Prop := fnExactPutHeaderRow.holds Try.pinned (OpenSpec.ofChange fnExactPutHeaderWrong)

/-- 'laws.FnExactGetHeader': WHATEVER THE INPUT: true; the input reads as it did. -/
def fnExactGetHeaderSpec : ChangeSpec := { name := "fnExactGetHeader", fn := fun _ => fun
  | [d] => { results := [.lit (.bool true)], args := [d] }
  | _ => none }
def fnExactGetHeaderRow : OpenClaim := { program := "ytplkhpkbfhpjeaa", sum := "6a9abaf5368bf2c853bab2bd97da1e8ef02f104037c5c4ddb2a59c1eb9706bdc", func := "loop.example/objectlinker/laws.FnExactGetHeader", spec := "fnExactGetHeader", apart := false }
def FnExactGetHeaderSaid : Prop := fnExactGetHeaderRow.holds Try.pinned (OpenSpec.ofChange fnExactGetHeaderSpec)

/-- ITS FALSE NEIGHBOUR: 'it returns false'. Refute it at one input. -/
def fnExactGetHeaderWrong : ChangeSpec := { name := "fnExactGetHeader", fn := fun _ => fun
  | [d] => { results := [.lit (.bool false)], args := [d] }
  | _ => none }
def FnExactGetHeaderWrongFalsely : Prop := fnExactGetHeaderRow.holds Try.pinned (OpenSpec.ofChange fnExactGetHeaderWrong)

/- THE SECOND FORM. 'bulk': how many values and letters a reading holds, each counted each time it is reached (what is shared counts as often as it is met; a slice's spare places count too). A statement '..UptoSaid' is the law's where the arguments, and the package variables that the reading takes, are together of bulk at most 1048576: NARROWER than '..Said'. Prove '..Said' where nothing that the law and all that it calls make is longer than what came in: it says more and counts as full. Else prove '..UptoSaid'. A law counts once. -/
mutual
def uptoBulk {H : Type} : DataW H → Nat
  | .lit (.string bytes) => bytes.length + 1
  | .lit _ => 1
  | .nil => 1
  | .ptr d => uptoBulk d + 1
  | .slice elems spare => uptoBulkAll elems + uptoBulkAll spare + 1
  | .agg parts => uptoBulkAll parts + 1
  | .iface _ d => uptoBulk d + 1
  | .map entries => uptoBulkEntries entries + 1
  | .held _ => 1
def uptoBulkAll {H : Type} : List (DataW H) → Nat
  | [] => 0
  | d :: r => uptoBulk d + uptoBulkAll r
def uptoBulkEntries {H : Type} : List (Lit × DataW H) → Nat
  | [] => 0
  | x :: r => uptoBulkEntry x + uptoBulkEntries r
def uptoBulkEntry {H : Type} : Lit × DataW H → Nat
  | (.string bytes, d) => bytes.length + uptoBulk d + 1
  | (_, d) => uptoBulk d + 1
 end
def uptoSmall : (H : Type) → List (DataW H) → Bool := fun _ ds => decide (uptoBulkAll ds ≤ 1048576)
def OpenSpec.upto (s : _root_.Go.ChangeSpec) : _root_.Go.OpenSpec := { _root_.Go.OpenSpec.ofChange s with cond := some uptoSmall }

/-- 'laws.FnPutHeader', WHERE WHAT IT READS IS OF BULK AT MOST 1048576: true; the input reads as it did. -/
def fnPutHeaderUptoRow : OpenClaim := { program := "ytplkhpkbfhpjeaa", sum := "6a9abaf5368bf2c853bab2bd97da1e8ef02f104037c5c4ddb2a59c1eb9706bdc", func := "loop.example/objectlinker/laws.FnPutHeader", spec := "fnPutHeader", apart := false, narrowed := true }
def FnPutHeaderUptoSaid : Prop := fnPutHeaderUptoRow.holds Try.pinned (OpenSpec.upto fnPutHeaderSpec)

/-- 'laws.FnGetHeader', WHERE WHAT IT READS IS OF BULK AT MOST 1048576: true; the input reads as it did. -/
def fnGetHeaderUptoRow : OpenClaim := { program := "ytplkhpkbfhpjeaa", sum := "6a9abaf5368bf2c853bab2bd97da1e8ef02f104037c5c4ddb2a59c1eb9706bdc", func := "loop.example/objectlinker/laws.FnGetHeader", spec := "fnGetHeader", apart := false, narrowed := true }
def FnGetHeaderUptoSaid : Prop := fnGetHeaderUptoRow.holds Try.pinned (OpenSpec.upto fnGetHeaderSpec)

/-- 'laws.FnExactHeaderValid', WHERE WHAT IT READS IS OF BULK AT MOST 1048576: true; the input reads as it did. -/
def fnExactHeaderValidUptoRow : OpenClaim := { program := "ytplkhpkbfhpjeaa", sum := "6a9abaf5368bf2c853bab2bd97da1e8ef02f104037c5c4ddb2a59c1eb9706bdc", func := "loop.example/objectlinker/laws.FnExactHeaderValid", spec := "fnExactHeaderValid", apart := false, narrowed := true }
def FnExactHeaderValidUptoSaid : Prop := fnExactHeaderValidUptoRow.holds Try.pinned (OpenSpec.upto fnExactHeaderValidSpec)

/-- 'laws.FnExactPutHeader', WHERE WHAT IT READS IS OF BULK AT MOST 1048576: true; the input reads as it did. -/
def fnExactPutHeaderUptoRow : OpenClaim := { program := "ytplkhpkbfhpjeaa", sum := "6a9abaf5368bf2c853bab2bd97da1e8ef02f104037c5c4ddb2a59c1eb9706bdc", func := "loop.example/objectlinker/laws.FnExactPutHeader", spec := "fnExactPutHeader", apart := false, narrowed := true }
def FnExactPutHeaderUptoSaid : Prop := fnExactPutHeaderUptoRow.holds Try.pinned (OpenSpec.upto fnExactPutHeaderSpec)

/-- 'laws.FnExactGetHeader', WHERE WHAT IT READS IS OF BULK AT MOST 1048576: true; the input reads as it did. -/
def fnExactGetHeaderUptoRow : OpenClaim := { program := "ytplkhpkbfhpjeaa", sum := "6a9abaf5368bf2c853bab2bd97da1e8ef02f104037c5c4ddb2a59c1eb9706bdc", func := "loop.example/objectlinker/laws.FnExactGetHeader", spec := "fnExactGetHeader", apart := false, narrowed := true }
def FnExactGetHeaderUptoSaid : Prop := fnExactGetHeaderUptoRow.holds Try.pinned (OpenSpec.upto fnExactGetHeaderSpec)

end Rows
end Go.Proofs.Ytplkhpkbfhpjeaa
