/-
  No cell of these rows narrows 'for every input' (looked for: loops, veiled, ifaces, maps, wideKeys, modest, calm, conditions, laid).
  DERIVED. THE GIVEN ROWS OF THIS SEAT. 9 by the template 'for every input the law returns true; each argument reads behind the call as it read before'; 0 by the template 'total and deterministic' (their statements: YtiplcfgfababaaaTotals.lean).
  GIVEN WITH THE SEED: the statements are not yours to turn. If you find one false, say at which input.
  Laid BY PROGRAM, IN A SANDBOX (cutbox-rows.mjs): the forced cells as the released guide's own fill.sh prints them over the translation 2067374c269da40c… (all of the seat's roots in one cut). By AI agents, Wed Nov 11 2026. No macro, syntax, notation, axiom, sorry.
-/
import Derived.Test.YtiplcfgfababaaaChecked
import GoSem.Claim
import GoSem.ClaimJoined
import GoSem.ClaimMapViews
import Derived.JoinedTies
import Derived.KernelRfl
namespace Go.Proofs.Ytiplcfgfababaaa
/- THE CELL 'sum', in the pinned program and in every row, IS THE sha256 OF THE DUMP (.gsa) THAT YtiplcfgfababaaaProg.lean LOADS. Nothing in Lean hashes anything: it is a label: what it is worth is what the hold of that sum in a sandbox is worth. -/
noncomputable def Try.pinned : Pinned := { name := "ytiplcfgfababaaa", sum := "2067374c269da40c70b4db69639254277d4d1fb599fc32bfc0e6c70455dde5db", checked := Try.checked }
namespace Rows
def none {H : Type} : Left H := { results := [], args := [] }

/-- 'laws.FnPutNumber': WHATEVER THE INPUT: true; the input reads as it did. -/
def fnPutNumberSpec : ChangeSpec := { name := "fnPutNumber", fn := fun _ => fun
  | [d] => { results := [.lit (.bool true)], args := [d] }
  | _ => none }
def fnPutNumberRow : OpenClaim := { program := "ytiplcfgfababaaa", sum := "2067374c269da40c70b4db69639254277d4d1fb599fc32bfc0e6c70455dde5db", func := "loop.example/objectlinker/laws.FnPutNumber", spec := "fnPutNumber", apart := false }
def FnPutNumberSaid : Prop := fnPutNumberRow.holds Try.pinned (OpenSpec.ofChange fnPutNumberSpec)

/-- ITS FALSE NEIGHBOUR: 'it returns false'. Refute it at one input. -/
def fnPutNumberWrong : ChangeSpec := { name := "fnPutNumber", fn := fun _ => fun
  | [d] => { results := [.lit (.bool false)], args := [d] }
  | _ => none }
def FnPutNumberWrongFalsely : Prop := fnPutNumberRow.holds Try.pinned (OpenSpec.ofChange fnPutNumberWrong)

/-- 'laws.FnGetNumber': WHATEVER THE INPUT: true; the input reads as it did. -/
def fnGetNumberSpec : ChangeSpec := { name := "fnGetNumber", fn := fun _ => fun
  | [d] => { results := [.lit (.bool true)], args := [d] }
  | _ => none }
def fnGetNumberRow : OpenClaim := { program := "ytiplcfgfababaaa", sum := "2067374c269da40c70b4db69639254277d4d1fb599fc32bfc0e6c70455dde5db", func := "loop.example/objectlinker/laws.FnGetNumber", spec := "fnGetNumber", apart := false }
def FnGetNumberSaid : Prop := fnGetNumberRow.holds Try.pinned (OpenSpec.ofChange fnGetNumberSpec)

/-- ITS FALSE NEIGHBOUR: 'it returns false'. Refute it at one input. -/
def fnGetNumberWrong : ChangeSpec := { name := "fnGetNumber", fn := fun _ => fun
  | [d] => { results := [.lit (.bool false)], args := [d] }
  | _ => none }
def FnGetNumberWrongFalsely : Prop := fnGetNumberRow.holds Try.pinned (OpenSpec.ofChange fnGetNumberWrong)

/-- 'laws.FnSignedOf': WHATEVER THE INPUT: true; the input reads as it did. -/
def fnSignedOfSpec : ChangeSpec := { name := "fnSignedOf", fn := fun _ => fun
  | [d] => { results := [.lit (.bool true)], args := [d] }
  | _ => none }
def fnSignedOfRow : OpenClaim := { program := "ytiplcfgfababaaa", sum := "2067374c269da40c70b4db69639254277d4d1fb599fc32bfc0e6c70455dde5db", func := "loop.example/objectlinker/laws.FnSignedOf", spec := "fnSignedOf", apart := false }
def FnSignedOfSaid : Prop := fnSignedOfRow.holds Try.pinned (OpenSpec.ofChange fnSignedOfSpec)

/-- ITS FALSE NEIGHBOUR: 'it returns false'. Refute it at one input. -/
def fnSignedOfWrong : ChangeSpec := { name := "fnSignedOf", fn := fun _ => fun
  | [d] => { results := [.lit (.bool false)], args := [d] }
  | _ => none }
def FnSignedOfWrongFalsely : Prop := fnSignedOfRow.holds Try.pinned (OpenSpec.ofChange fnSignedOfWrong)

/-- 'laws.FnAlignUp': WHATEVER THE INPUT: true; the input reads as it did. -/
def fnAlignUpSpec : ChangeSpec := { name := "fnAlignUp", fn := fun _ => fun
  | [d] => { results := [.lit (.bool true)], args := [d] }
  | _ => none }
def fnAlignUpRow : OpenClaim := { program := "ytiplcfgfababaaa", sum := "2067374c269da40c70b4db69639254277d4d1fb599fc32bfc0e6c70455dde5db", func := "loop.example/objectlinker/laws.FnAlignUp", spec := "fnAlignUp", apart := false }
def FnAlignUpSaid : Prop := fnAlignUpRow.holds Try.pinned (OpenSpec.ofChange fnAlignUpSpec)

/-- ITS FALSE NEIGHBOUR: 'it returns false'. Refute it at one input. -/
def fnAlignUpWrong : ChangeSpec := { name := "fnAlignUp", fn := fun _ => fun
  | [d] => { results := [.lit (.bool false)], args := [d] }
  | _ => none }
def FnAlignUpWrongFalsely : Prop := fnAlignUpRow.holds Try.pinned (OpenSpec.ofChange fnAlignUpWrong)

/-- 'laws.FnNumberJoin': WHATEVER THE INPUT: true; the input reads as it did. -/
def fnNumberJoinSpec : ChangeSpec := { name := "fnNumberJoin", fn := fun _ => fun
  | [d] => { results := [.lit (.bool true)], args := [d] }
  | _ => none }
def fnNumberJoinRow : OpenClaim := { program := "ytiplcfgfababaaa", sum := "2067374c269da40c70b4db69639254277d4d1fb599fc32bfc0e6c70455dde5db", func := "loop.example/objectlinker/laws.FnNumberJoin", spec := "fnNumberJoin", apart := false }
def FnNumberJoinSaid : Prop := fnNumberJoinRow.holds Try.pinned (OpenSpec.ofChange fnNumberJoinSpec)

/-- ITS FALSE NEIGHBOUR: 'it returns false'. Refute it at one input. -/
def fnNumberJoinWrong : ChangeSpec := { name := "fnNumberJoin", fn := fun _ => fun
  | [d] => { results := [.lit (.bool false)], args := [d] }
  | _ => none }
def FnNumberJoinWrongFalsely : Prop := fnNumberJoinRow.holds Try.pinned (OpenSpec.ofChange fnNumberJoinWrong)

/-- 'laws.FnExactPutNumber': WHATEVER THE INPUT: true; the input reads as it did. -/
def fnExactPutNumberSpec : ChangeSpec := { name := "fnExactPutNumber", fn := fun _ => fun
  | [d1, d2] => { results := [.lit (.bool true)], args := [d1, d2] }
  | _ => none }
def fnExactPutNumberRow : OpenClaim := { program := "ytiplcfgfababaaa", sum := "2067374c269da40c70b4db69639254277d4d1fb599fc32bfc0e6c70455dde5db", func := "loop.example/objectlinker/laws.FnExactPutNumber", spec := "fnExactPutNumber", apart := false }
def FnExactPutNumberSaid : Prop := fnExactPutNumberRow.holds Try.pinned (OpenSpec.ofChange fnExactPutNumberSpec)

/-- ITS FALSE NEIGHBOUR: 'it returns false'. Refute it at one input. -/
def fnExactPutNumberWrong : ChangeSpec := { name := "fnExactPutNumber", fn := fun _ => fun
  | [d1, d2] => { results := [.lit (.bool false)], args := [d1, d2] }
  | _ => none }
def FnExactPutNumberWrongFalsely : Prop := fnExactPutNumberRow.holds Try.pinned (OpenSpec.ofChange fnExactPutNumberWrong)

/-- 'laws.FnExactGetNumber': WHATEVER THE INPUT: true; the input reads as it did. -/
def fnExactGetNumberSpec : ChangeSpec := { name := "fnExactGetNumber", fn := fun _ => fun
  | [d1, d2, d3] => { results := [.lit (.bool true)], args := [d1, d2, d3] }
  | _ => none }
def fnExactGetNumberRow : OpenClaim := { program := "ytiplcfgfababaaa", sum := "2067374c269da40c70b4db69639254277d4d1fb599fc32bfc0e6c70455dde5db", func := "loop.example/objectlinker/laws.FnExactGetNumber", spec := "fnExactGetNumber", apart := false }
def FnExactGetNumberSaid : Prop := fnExactGetNumberRow.holds Try.pinned (OpenSpec.ofChange fnExactGetNumberSpec)

/-- ITS FALSE NEIGHBOUR: 'it returns false'. Refute it at one input. -/
def fnExactGetNumberWrong : ChangeSpec := { name := "fnExactGetNumber", fn := fun _ => fun
  | [d1, d2, d3] => { results := [.lit (.bool false)], args := [d1, d2, d3] }
  | _ => none }
def FnExactGetNumberWrongFalsely : Prop := fnExactGetNumberRow.holds Try.pinned (OpenSpec.ofChange fnExactGetNumberWrong)

/-- 'laws.FnExactSignedOf': WHATEVER THE INPUT: true; the input reads as it did. -/
def fnExactSignedOfSpec : ChangeSpec := { name := "fnExactSignedOf", fn := fun _ => fun
  | [d1, d2] => { results := [.lit (.bool true)], args := [d1, d2] }
  | _ => none }
def fnExactSignedOfRow : OpenClaim := { program := "ytiplcfgfababaaa", sum := "2067374c269da40c70b4db69639254277d4d1fb599fc32bfc0e6c70455dde5db", func := "loop.example/objectlinker/laws.FnExactSignedOf", spec := "fnExactSignedOf", apart := false }
def FnExactSignedOfSaid : Prop := fnExactSignedOfRow.holds Try.pinned (OpenSpec.ofChange fnExactSignedOfSpec)

/-- ITS FALSE NEIGHBOUR: 'it returns false'. Refute it at one input. -/
def fnExactSignedOfWrong : ChangeSpec := { name := "fnExactSignedOf", fn := fun _ => fun
  | [d1, d2] => { results := [.lit (.bool false)], args := [d1, d2] }
  | _ => none }
def FnExactSignedOfWrongFalsely : Prop := fnExactSignedOfRow.holds Try.pinned (OpenSpec.ofChange fnExactSignedOfWrong)

/-- 'laws.FnExactAlignUp': WHATEVER THE INPUT: true; the input reads as it did. -/
def fnExactAlignUpSpec : ChangeSpec := { name := "fnExactAlignUp", fn := fun _ => fun
  | [d1, d2] => { results := [.lit (.bool true)], args := [d1, d2] }
  | _ => none }
def fnExactAlignUpRow : OpenClaim := { program := "ytiplcfgfababaaa", sum := "2067374c269da40c70b4db69639254277d4d1fb599fc32bfc0e6c70455dde5db", func := "loop.example/objectlinker/laws.FnExactAlignUp", spec := "fnExactAlignUp", apart := false }
def FnExactAlignUpSaid : Prop := fnExactAlignUpRow.holds Try.pinned (OpenSpec.ofChange fnExactAlignUpSpec)

/-- ITS FALSE NEIGHBOUR: 'it returns false'. Refute it at one input. -/
def fnExactAlignUpWrong : ChangeSpec := { name := "fnExactAlignUp", fn := fun _ => fun
  | [d1, d2] => { results := [.lit (.bool false)], args := [d1, d2] }
  | _ => none }
def FnExactAlignUpWrongFalsely : Prop := fnExactAlignUpRow.holds Try.pinned (OpenSpec.ofChange fnExactAlignUpWrong)

/- THE SECOND FORM. 'bulk': how many values and letters a reading holds, each counted each time it is reached (what is shared counts as often as it is met; a slice's spare places count too). A statement '..UptoSaid' is the law's where the arguments, and the package variables that the reading takes, are together of bulk at most 1048576: NARROWER than '..Said'. Prove '..Said' where nothing that the law and all that it calls make is longer than what came in: it says more and counts as full. Else prove '..UptoSaid'. A law counts once. -/
mutual
def uptoBulk {H : Type} : DataW H → Nat
  | .lit (.string bytes) => bytes.length + 1
  | .lit _ => 1
  | .nil => 1
  | .ptr d => uptoBulk d + 1
  | .slice elems spare => uptoBulkAll elems + uptoBulkAll spare + 1
  | .agg parts => uptoBulkAll parts + 1
  | .iface _ d => uptoBulk d + 1
  | .map entries => uptoBulkEntries entries + 1
  | .held _ => 1
def uptoBulkAll {H : Type} : List (DataW H) → Nat
  | [] => 0
  | d :: r => uptoBulk d + uptoBulkAll r
def uptoBulkEntries {H : Type} : List (Lit × DataW H) → Nat
  | [] => 0
  | x :: r => uptoBulkEntry x + uptoBulkEntries r
def uptoBulkEntry {H : Type} : Lit × DataW H → Nat
  | (.string bytes, d) => bytes.length + uptoBulk d + 1
  | (_, d) => uptoBulk d + 1
 end
def uptoSmall : (H : Type) → List (DataW H) → Bool := fun _ ds => decide (uptoBulkAll ds ≤ 1048576)
def OpenSpec.upto (s : _root_.Go.ChangeSpec) : _root_.Go.OpenSpec := { _root_.Go.OpenSpec.ofChange s with cond := some uptoSmall }

/-- 'laws.FnPutNumber', WHERE WHAT IT READS IS OF BULK AT MOST 1048576: true; the input reads as it did. -/
def fnPutNumberUptoRow : OpenClaim := { program := "ytiplcfgfababaaa", sum := "2067374c269da40c70b4db69639254277d4d1fb599fc32bfc0e6c70455dde5db", func := "loop.example/objectlinker/laws.FnPutNumber", spec := "fnPutNumber", apart := false, narrowed := true }
def FnPutNumberUptoSaid : Prop := fnPutNumberUptoRow.holds Try.pinned (OpenSpec.upto fnPutNumberSpec)

/-- 'laws.FnGetNumber', WHERE WHAT IT READS IS OF BULK AT MOST 1048576: true; the input reads as it did. -/
def fnGetNumberUptoRow : OpenClaim := { program := "ytiplcfgfababaaa", sum := "2067374c269da40c70b4db69639254277d4d1fb599fc32bfc0e6c70455dde5db", func := "loop.example/objectlinker/laws.FnGetNumber", spec := "fnGetNumber", apart := false, narrowed := true }
def FnGetNumberUptoSaid : Prop := fnGetNumberUptoRow.holds Try.pinned (OpenSpec.upto fnGetNumberSpec)

/-- 'laws.FnSignedOf', WHERE WHAT IT READS IS OF BULK AT MOST 1048576: true; the input reads as it did. -/
def fnSignedOfUptoRow : OpenClaim := { program := "ytiplcfgfababaaa", sum := "2067374c269da40c70b4db69639254277d4d1fb599fc32bfc0e6c70455dde5db", func := "loop.example/objectlinker/laws.FnSignedOf", spec := "fnSignedOf", apart := false, narrowed := true }
def FnSignedOfUptoSaid : Prop := fnSignedOfUptoRow.holds Try.pinned (OpenSpec.upto fnSignedOfSpec)

/-- 'laws.FnAlignUp', WHERE WHAT IT READS IS OF BULK AT MOST 1048576: true; the input reads as it did. -/
def fnAlignUpUptoRow : OpenClaim := { program := "ytiplcfgfababaaa", sum := "2067374c269da40c70b4db69639254277d4d1fb599fc32bfc0e6c70455dde5db", func := "loop.example/objectlinker/laws.FnAlignUp", spec := "fnAlignUp", apart := false, narrowed := true }
def FnAlignUpUptoSaid : Prop := fnAlignUpUptoRow.holds Try.pinned (OpenSpec.upto fnAlignUpSpec)

/-- 'laws.FnNumberJoin', WHERE WHAT IT READS IS OF BULK AT MOST 1048576: true; the input reads as it did. -/
def fnNumberJoinUptoRow : OpenClaim := { program := "ytiplcfgfababaaa", sum := "2067374c269da40c70b4db69639254277d4d1fb599fc32bfc0e6c70455dde5db", func := "loop.example/objectlinker/laws.FnNumberJoin", spec := "fnNumberJoin", apart := false, narrowed := true }
def FnNumberJoinUptoSaid : Prop := fnNumberJoinUptoRow.holds Try.pinned (OpenSpec.upto fnNumberJoinSpec)

/-- 'laws.FnExactPutNumber', WHERE WHAT IT READS IS OF BULK AT MOST 1048576: true; the input reads as it did. -/
def fnExactPutNumberUptoRow : OpenClaim := { program := "ytiplcfgfababaaa", sum := "2067374c269da40c70b4db69639254277d4d1fb599fc32bfc0e6c70455dde5db", func := "loop.example/objectlinker/laws.FnExactPutNumber", spec := "fnExactPutNumber", apart := false, narrowed := true }
def FnExactPutNumberUptoSaid : Prop := fnExactPutNumberUptoRow.holds Try.pinned (OpenSpec.upto fnExactPutNumberSpec)

/-- 'laws.FnExactGetNumber', WHERE WHAT IT READS IS OF BULK AT MOST 1048576: true; the input reads as it did. -/
def fnExactGetNumberUptoRow : OpenClaim := { program := "ytiplcfgfababaaa", sum := "2067374c269da40c70b4db69639254277d4d1fb599fc32bfc0e6c70455dde5db", func := "loop.example/objectlinker/laws.FnExactGetNumber", spec := "fnExactGetNumber", apart := false, narrowed := true }
def FnExactGetNumberUptoSaid : Prop := fnExactGetNumberUptoRow.holds Try.pinned (OpenSpec.upto fnExactGetNumberSpec)

/-- 'laws.FnExactSignedOf', WHERE WHAT IT READS IS OF BULK AT MOST 1048576: true; the input reads as it did. -/
def fnExactSignedOfUptoRow : OpenClaim := { program := "ytiplcfgfababaaa", sum := "2067374c269da40c70b4db69639254277d4d1fb599fc32bfc0e6c70455dde5db", func := "loop.example/objectlinker/laws.FnExactSignedOf", spec := "fnExactSignedOf", apart := false, narrowed := true }
def FnExactSignedOfUptoSaid : Prop := fnExactSignedOfUptoRow.holds Try.pinned (OpenSpec.upto fnExactSignedOfSpec)

/-- 'laws.FnExactAlignUp', WHERE WHAT IT READS IS OF BULK AT MOST 1048576: true; the input reads as it did. -/
def fnExactAlignUpUptoRow : OpenClaim := { program := "ytiplcfgfababaaa", sum := "2067374c269da40c70b4db69639254277d4d1fb599fc32bfc0e6c70455dde5db", func := "loop.example/objectlinker/laws.FnExactAlignUp", spec := "fnExactAlignUp", apart := false, narrowed := true }
def FnExactAlignUpUptoSaid : Prop := fnExactAlignUpUptoRow.holds Try.pinned (OpenSpec.upto fnExactAlignUpSpec)

end Rows
end Go.Proofs.Ytiplcfgfababaaa
