/-
  No cell of these rows narrows 'for every input' (looked for: loops, veiled, ifaces, maps, wideKeys, modest, calm, conditions, laid).
  DERIVED. THE GIVEN ROWS OF THIS SEAT. 6 by the template 'for every input the law returns true; each argument reads behind the call as it read before'; 0 by the template 'total and deterministic' (their statements: YtelihledjjeeaaaTotals.lean).
  GIVEN WITH THE SEED: the statements are not yours to turn. If you find one false, say at which input.
  Laid BY PROGRAM, IN A SANDBOX (cutbox-rows.mjs): the forced cells as the released guide's own fill.sh prints them over the translation eb7dae675a2c56d9… (all of the seat's roots in one cut). By AI agents, Wed Nov 11 2026. No macro, syntax, notation, axiom, sorry.
-/
import Derived.Test.YtelihledjjeeaaaChecked
import GoSem.Claim
import GoSem.ClaimJoined
import GoSem.ClaimMapViews
import Derived.JoinedTies
import Derived.KernelRfl
namespace Go.Proofs.Ytelihledjjeeaaa
/- THE CELL 'sum', in the pinned program and in every row, IS THE sha256 OF THE DUMP (.gsa) THAT YtelihledjjeeaaaProg.lean LOADS. Nothing in Lean hashes anything: it is a label: what it is worth is what the hold of that sum in a sandbox is worth. -/
noncomputable def Try.pinned : Pinned := { name := "ytelihledjjeeaaa", sum := "eb7dae675a2c56d931f38cdbb8ae039fd6a837faf0cc064d8ac41541e15e40cb", checked := Try.checked }
namespace Rows
def none {H : Type} : Left H := { results := [], args := [] }

/-- 'laws.FnFixupWide': WHATEVER THE INPUT: true; the input reads as it did. -/
def fnFixupWideSpec : ChangeSpec := { name := "fnFixupWide", fn := fun _ => fun
  | [d] => { results := [.lit (.bool true)], args := [d] }
  | _ => none }
def fnFixupWideRow : OpenClaim := { program := "ytelihledjjeeaaa", sum := "eb7dae675a2c56d931f38cdbb8ae039fd6a837faf0cc064d8ac41541e15e40cb", func := "loop.example/objectlinker/laws.FnFixupWide", spec := "fnFixupWide", apart := false }
def FnFixupWideSaid : Prop := fnFixupWideRow.holds Try.pinned (OpenSpec.ofChange fnFixupWideSpec)

/-- ITS FALSE NEIGHBOUR: 'it returns false'. Refute it at one input. -/
def fnFixupWideWrong : ChangeSpec := { name := "fnFixupWide", fn := fun _ => fun
  | [d] => { results := [.lit (.bool false)], args := [d] }
  | _ => none }
def FnFixupWideWrongFalsely : Prop := fnFixupWideRow.holds Try.pinned (OpenSpec.ofChange fnFixupWideWrong)

/-- 'laws.FnSectionSize': WHATEVER THE INPUT: true; the input reads as it did. -/
def fnSectionSizeSpec : ChangeSpec := { name := "fnSectionSize", fn := fun _ => fun
  | [d] => { results := [.lit (.bool true)], args := [d] }
  | _ => none }
def fnSectionSizeRow : OpenClaim := { program := "ytelihledjjeeaaa", sum := "eb7dae675a2c56d931f38cdbb8ae039fd6a837faf0cc064d8ac41541e15e40cb", func := "loop.example/objectlinker/laws.FnSectionSize", spec := "fnSectionSize", unfollowed := true, recurses := true, apart := false }
def FnSectionSizeSaid : Prop := fnSectionSizeRow.holds Try.pinned (OpenSpec.ofChange fnSectionSizeSpec)

/-- ITS FALSE NEIGHBOUR: 'it returns false'. Refute it at one input. -/
def fnSectionSizeWrong : ChangeSpec := { name := "fnSectionSize", fn := fun _ => fun
  | [d] => { results := [.lit (.bool false)], args := [d] }
  | _ => none }
def FnSectionSizeWrongFalsely : Prop := fnSectionSizeRow.holds Try.pinned (OpenSpec.ofChange fnSectionSizeWrong)

/-- 'laws.FnSectionValid': WHATEVER THE INPUT: true; the input reads as it did. -/
def fnSectionValidSpec : ChangeSpec := { name := "fnSectionValid", fn := fun _ => fun
  | [d] => { results := [.lit (.bool true)], args := [d] }
  | _ => none }
def fnSectionValidRow : OpenClaim := { program := "ytelihledjjeeaaa", sum := "eb7dae675a2c56d931f38cdbb8ae039fd6a837faf0cc064d8ac41541e15e40cb", func := "loop.example/objectlinker/laws.FnSectionValid", spec := "fnSectionValid", unfollowed := true, recurses := true, apart := false }
def FnSectionValidSaid : Prop := fnSectionValidRow.holds Try.pinned (OpenSpec.ofChange fnSectionValidSpec)

/-- ITS FALSE NEIGHBOUR: 'it returns false'. Refute it at one input. -/
def fnSectionValidWrong : ChangeSpec := { name := "fnSectionValid", fn := fun _ => fun
  | [d] => { results := [.lit (.bool false)], args := [d] }
  | _ => none }
def FnSectionValidWrongFalsely : Prop := fnSectionValidRow.holds Try.pinned (OpenSpec.ofChange fnSectionValidWrong)

/-- 'laws.FnExactFixupWide': WHATEVER THE INPUT: true; the input reads as it did. -/
def fnExactFixupWideSpec : ChangeSpec := { name := "fnExactFixupWide", fn := fun _ => fun
  | [d] => { results := [.lit (.bool true)], args := [d] }
  | _ => none }
def fnExactFixupWideRow : OpenClaim := { program := "ytelihledjjeeaaa", sum := "eb7dae675a2c56d931f38cdbb8ae039fd6a837faf0cc064d8ac41541e15e40cb", func := "loop.example/objectlinker/laws.FnExactFixupWide", spec := "fnExactFixupWide", apart := false }
def FnExactFixupWideSaid : Prop := fnExactFixupWideRow.holds Try.pinned (OpenSpec.ofChange fnExactFixupWideSpec)

/-- ITS FALSE NEIGHBOUR: 'it returns false'. Refute it at one input. -/
def fnExactFixupWideWrong : ChangeSpec := { name := "fnExactFixupWide", fn := fun _ => fun
  | [d] => { results := [.lit (.bool false)], args := [d] }
  | _ => none }
def FnExactFixupWideWrongFalsely : Prop := fnExactFixupWideRow.holds Try.pinned (OpenSpec.ofChange fnExactFixupWideWrong)

/-- 'laws.FnExactSectionSize': WHATEVER THE INPUT: true; the input reads as it did. -/
def fnExactSectionSizeSpec : ChangeSpec := { name := "fnExactSectionSize", fn := fun _ => fun
  | [d] => { results := [.lit (.bool true)], args := [d] }
  | _ => none }
def fnExactSectionSizeRow : OpenClaim := { program := "ytelihledjjeeaaa", sum := "eb7dae675a2c56d931f38cdbb8ae039fd6a837faf0cc064d8ac41541e15e40cb", func := "loop.example/objectlinker/laws.FnExactSectionSize", spec := "fnExactSectionSize", unfollowed := true, recurses := true, apart := false }
def FnExactSectionSizeSaid : Prop := fnExactSectionSizeRow.holds Try.pinned (OpenSpec.ofChange fnExactSectionSizeSpec)

/-- ITS FALSE NEIGHBOUR: 'it returns false'. Refute it at one input. -/
def fnExactSectionSizeWrong : ChangeSpec := { name := "fnExactSectionSize", fn := fun _ => fun
  | [d] => { results := [.lit (.bool false)], args := [d] }
  | _ => none }
def FnExactSectionSizeWrongFalsely : Prop := fnExactSectionSizeRow.holds Try.pinned (OpenSpec.ofChange fnExactSectionSizeWrong)

/-- 'laws.FnExactSectionValid': WHATEVER THE INPUT: true; the input reads as it did. -/
def fnExactSectionValidSpec : ChangeSpec := { name := "fnExactSectionValid", fn := fun _ => fun
  | [d1, d2] => { results := [.lit (.bool true)], args := [d1, d2] }
  | _ => none }
def fnExactSectionValidRow : OpenClaim := { program := "ytelihledjjeeaaa", sum := "eb7dae675a2c56d931f38cdbb8ae039fd6a837faf0cc064d8ac41541e15e40cb", func := "loop.example/objectlinker/laws.FnExactSectionValid", spec := "fnExactSectionValid", unfollowed := true, recurses := true, apart := false }
def FnExactSectionValidSaid : Prop := fnExactSectionValidRow.holds Try.pinned (OpenSpec.ofChange fnExactSectionValidSpec)

/-- ITS FALSE NEIGHBOUR: 'it returns false'. Refute it at one input. -/
def fnExactSectionValidWrong : ChangeSpec := { name := "fnExactSectionValid", fn := fun _ => fun
  | [d1, d2] => { results := [.lit (.bool false)], args := [d1, d2] }
  | _ => none }
def FnExactSectionValidWrongFalsely : Prop := fnExactSectionValidRow.holds Try.pinned (OpenSpec.ofChange fnExactSectionValidWrong)

/- THE SECOND FORM. 'bulk': how many values and letters a reading holds, each counted each time it is reached (what is shared counts as often as it is met; a slice's spare places count too). A statement '..UptoSaid' is the law's where the arguments, and the package variables that the reading takes, are together of bulk at most 1048576: NARROWER than '..Said'. Prove '..Said' where nothing that the law and all that it calls make is longer than what came in: it says more and counts as full. Else prove '..UptoSaid'. A law counts once. -/
mutual
def uptoBulk {H : Type} : DataW H → Nat
  | .lit (.string bytes) => bytes.length + 1
  | .lit _ => 1
  | .nil => 1
  | .ptr d => uptoBulk d + 1
  | .slice elems spare => uptoBulkAll elems + uptoBulkAll spare + 1
  | .agg parts => uptoBulkAll parts + 1
  | .iface _ d => uptoBulk d + 1
  | .map entries => uptoBulkEntries entries + 1
  | .held _ => 1
def uptoBulkAll {H : Type} : List (DataW H) → Nat
  | [] => 0
  | d :: r => uptoBulk d + uptoBulkAll r
def uptoBulkEntries {H : Type} : List (Lit × DataW H) → Nat
  | [] => 0
  | x :: r => uptoBulkEntry x + uptoBulkEntries r
def uptoBulkEntry {H : Type} : Lit × DataW H → Nat
  | (.string bytes, d) => bytes.length + uptoBulk d + 1
  | (_, d) => uptoBulk d + 1
 end
def uptoSmall : (H : Type) → List (DataW H) → Bool := fun _ ds => decide (uptoBulkAll ds ≤ 1048576)
def OpenSpec.upto (s : _root_.Go.ChangeSpec) : _root_.Go.OpenSpec := { _root_.Go.OpenSpec.ofChange s with cond := some uptoSmall }

/-- 'laws.FnFixupWide', WHERE WHAT IT READS IS OF BULK AT MOST 1048576: true; the input reads as it did. -/
def fnFixupWideUptoRow : OpenClaim := { program := "ytelihledjjeeaaa", sum := "eb7dae675a2c56d931f38cdbb8ae039fd6a837faf0cc064d8ac41541e15e40cb", func := "loop.example/objectlinker/laws.FnFixupWide", spec := "fnFixupWide", apart := false, narrowed := true }
def FnFixupWideUptoSaid : Prop := fnFixupWideUptoRow.holds Try.pinned (OpenSpec.upto fnFixupWideSpec)

/-- 'laws.FnSectionSize', WHERE WHAT IT READS IS OF BULK AT MOST 1048576: true; the input reads as it did. -/
def fnSectionSizeUptoRow : OpenClaim := { program := "ytelihledjjeeaaa", sum := "eb7dae675a2c56d931f38cdbb8ae039fd6a837faf0cc064d8ac41541e15e40cb", func := "loop.example/objectlinker/laws.FnSectionSize", spec := "fnSectionSize", unfollowed := true, recurses := true, apart := false, narrowed := true }
def FnSectionSizeUptoSaid : Prop := fnSectionSizeUptoRow.holds Try.pinned (OpenSpec.upto fnSectionSizeSpec)

/-- 'laws.FnSectionValid', WHERE WHAT IT READS IS OF BULK AT MOST 1048576: true; the input reads as it did. -/
def fnSectionValidUptoRow : OpenClaim := { program := "ytelihledjjeeaaa", sum := "eb7dae675a2c56d931f38cdbb8ae039fd6a837faf0cc064d8ac41541e15e40cb", func := "loop.example/objectlinker/laws.FnSectionValid", spec := "fnSectionValid", unfollowed := true, recurses := true, apart := false, narrowed := true }
def FnSectionValidUptoSaid : Prop := fnSectionValidUptoRow.holds Try.pinned (OpenSpec.upto fnSectionValidSpec)

/-- 'laws.FnExactFixupWide', WHERE WHAT IT READS IS OF BULK AT MOST 1048576: true; the input reads as it did. -/
def fnExactFixupWideUptoRow : OpenClaim := { program := "ytelihledjjeeaaa", sum := "eb7dae675a2c56d931f38cdbb8ae039fd6a837faf0cc064d8ac41541e15e40cb", func := "loop.example/objectlinker/laws.FnExactFixupWide", spec := "fnExactFixupWide", apart := false, narrowed := true }
def FnExactFixupWideUptoSaid : Prop := fnExactFixupWideUptoRow.holds Try.pinned (OpenSpec.upto fnExactFixupWideSpec)

/-- 'laws.FnExactSectionSize', WHERE WHAT IT READS IS OF BULK AT MOST 1048576: true; the input reads as it did. -/
def fnExactSectionSizeUptoRow : OpenClaim := { program := "ytelihledjjeeaaa", sum := "eb7dae675a2c56d931f38cdbb8ae039fd6a837faf0cc064d8ac41541e15e40cb", func := "loop.example/objectlinker/laws.FnExactSectionSize", spec := "fnExactSectionSize", unfollowed := true, recurses := true, apart := false, narrowed := true }
def FnExactSectionSizeUptoSaid : Prop := fnExactSectionSizeUptoRow.holds Try.pinned (OpenSpec.upto fnExactSectionSizeSpec)

/-- 'laws.FnExactSectionValid', WHERE WHAT IT READS IS OF BULK AT MOST 1048576: true; the input reads as it did. -/
def fnExactSectionValidUptoRow : OpenClaim := { program := "ytelihledjjeeaaa", sum := "eb7dae675a2c56d931f38cdbb8ae039fd6a837faf0cc064d8ac41541e15e40cb", func := "loop.example/objectlinker/laws.FnExactSectionValid", spec := "fnExactSectionValid", unfollowed := true, recurses := true, apart := false, narrowed := true }
def FnExactSectionValidUptoSaid : Prop := fnExactSectionValidUptoRow.holds Try.pinned (OpenSpec.upto fnExactSectionValidSpec)

end Rows
end Go.Proofs.Ytelihledjjeeaaa
