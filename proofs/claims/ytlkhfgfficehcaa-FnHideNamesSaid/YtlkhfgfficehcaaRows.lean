/-
  No cell of these rows narrows 'for every input' (looked for: loops, veiled, ifaces, maps, wideKeys, modest, calm, conditions, laid).
  DERIVED. THE GIVEN ROWS OF THIS SEAT. 4 by the template 'for every input the law returns true; each argument reads behind the call as it read before'; 0 by the template 'total and deterministic' (their statements: YtlkhfgfficehcaaTotals.lean).
  GIVEN WITH THE SEED: the statements are not yours to turn. If you find one false, say at which input.
  Laid BY PROGRAM, IN A SANDBOX (cutbox-rows.mjs): the forced cells as the released guide's own fill.sh prints them over the translation e9ba2ebe35341e74… (all of the seat's roots in one cut). By AI agents, Wed Nov 11 2026. No macro, syntax, notation, axiom, sorry.
-/
import Derived.Test.YtlkhfgfficehcaaChecked
import GoSem.Claim
import GoSem.ClaimJoined
import GoSem.ClaimMapViews
import Derived.JoinedTies
import Derived.KernelRfl
namespace Go.Proofs.Ytlkhfgfficehcaa
/- THE CELL 'sum', in the pinned program and in every row, IS THE sha256 OF THE DUMP (.gsa) THAT YtlkhfgfficehcaaProg.lean LOADS. Nothing in Lean hashes anything: it is a label: what it is worth is what the hold of that sum in a sandbox is worth. -/
noncomputable def Try.pinned : Pinned := { name := "ytlkhfgfficehcaa", sum := "e9ba2ebe35341e7450d7299861392c8bc4917ef004b3d2c2085c217a97596ef8", checked := Try.checked }
namespace Rows
def none {H : Type} : Left H := { results := [], args := [] }

/-- 'laws.FnHideNames': WHATEVER THE INPUT: true; the input reads as it did. -/
def fnHideNamesSpec : ChangeSpec := { name := "fnHideNames", fn := fun _ => fun
  | [d] => { results := [.lit (.bool true)], args := [d] }
  | _ => none }
def fnHideNamesRow : OpenClaim := { program := "ytlkhfgfficehcaa", sum := "e9ba2ebe35341e7450d7299861392c8bc4917ef004b3d2c2085c217a97596ef8", func := "loop.example/objectlinker/laws.FnHideNames", spec := "fnHideNames", unfollowed := true, recurses := true, apart := false }
def FnHideNamesSaid : Prop := fnHideNamesRow.holds Try.pinned (OpenSpec.ofChange fnHideNamesSpec)

/-- ITS FALSE NEIGHBOUR: 'it returns false'. Refute it at one input. -/
def fnHideNamesWrong : ChangeSpec := { name := "fnHideNames", fn := fun _ => fun
  | [d] => { results := [.lit (.bool false)], args := [d] }
  | _ => none }
def FnHideNamesWrongFalsely : Prop := fnHideNamesRow.holds Try.pinned (OpenSpec.ofChange fnHideNamesWrong)

/-- 'laws.FnExactStripLocals': WHATEVER THE INPUT: true; the input reads as it did. -/
def fnExactStripLocalsSpec : ChangeSpec := { name := "fnExactStripLocals", fn := fun _ => fun
  | [d] => { results := [.lit (.bool true)], args := [d] }
  | _ => none }
def fnExactStripLocalsRow : OpenClaim := { program := "ytlkhfgfficehcaa", sum := "e9ba2ebe35341e7450d7299861392c8bc4917ef004b3d2c2085c217a97596ef8", func := "loop.example/objectlinker/laws.FnExactStripLocals", spec := "fnExactStripLocals", unfollowed := true, recurses := true, apart := false }
def FnExactStripLocalsSaid : Prop := fnExactStripLocalsRow.holds Try.pinned (OpenSpec.ofChange fnExactStripLocalsSpec)

/-- ITS FALSE NEIGHBOUR: 'it returns false'. Refute it at one input. -/
def fnExactStripLocalsWrong : ChangeSpec := { name := "fnExactStripLocals", fn := fun _ => fun
  | [d] => { results := [.lit (.bool false)], args := [d] }
  | _ => none }
def FnExactStripLocalsWrongFalsely : Prop := fnExactStripLocalsRow.holds Try.pinned (OpenSpec.ofChange fnExactStripLocalsWrong)

/-- 'laws.FnExactStripWanted': WHATEVER THE INPUT: true; the input reads as it did. -/
def fnExactStripWantedSpec : ChangeSpec := { name := "fnExactStripWanted", fn := fun _ => fun
  | [d] => { results := [.lit (.bool true)], args := [d] }
  | _ => none }
def fnExactStripWantedRow : OpenClaim := { program := "ytlkhfgfficehcaa", sum := "e9ba2ebe35341e7450d7299861392c8bc4917ef004b3d2c2085c217a97596ef8", func := "loop.example/objectlinker/laws.FnExactStripWanted", spec := "fnExactStripWanted", unfollowed := true, recurses := true, apart := false }
def FnExactStripWantedSaid : Prop := fnExactStripWantedRow.holds Try.pinned (OpenSpec.ofChange fnExactStripWantedSpec)

/-- ITS FALSE NEIGHBOUR: 'it returns false'. Refute it at one input. -/
def fnExactStripWantedWrong : ChangeSpec := { name := "fnExactStripWanted", fn := fun _ => fun
  | [d] => { results := [.lit (.bool false)], args := [d] }
  | _ => none }
def FnExactStripWantedWrongFalsely : Prop := fnExactStripWantedRow.holds Try.pinned (OpenSpec.ofChange fnExactStripWantedWrong)

/-- 'laws.FnExactHideNames': WHATEVER THE INPUT: true; the input reads as it did. -/
def fnExactHideNamesSpec : ChangeSpec := { name := "fnExactHideNames", fn := fun _ => fun
  | [d1, d2] => { results := [.lit (.bool true)], args := [d1, d2] }
  | _ => none }
def fnExactHideNamesRow : OpenClaim := { program := "ytlkhfgfficehcaa", sum := "e9ba2ebe35341e7450d7299861392c8bc4917ef004b3d2c2085c217a97596ef8", func := "loop.example/objectlinker/laws.FnExactHideNames", spec := "fnExactHideNames", unfollowed := true, recurses := true, apart := false }
def FnExactHideNamesSaid : Prop := fnExactHideNamesRow.holds Try.pinned (OpenSpec.ofChange fnExactHideNamesSpec)

/-- ITS FALSE NEIGHBOUR: 'it returns false'. Refute it at one input. -/
def fnExactHideNamesWrong : ChangeSpec := { name := "fnExactHideNames", fn := fun _ => fun
  | [d1, d2] => { results := [.lit (.bool false)], args := [d1, d2] }
  | _ => none }
def FnExactHideNamesWrongFalsely : Prop := fnExactHideNamesRow.holds Try.pinned (OpenSpec.ofChange fnExactHideNamesWrong)

/- THE SECOND FORM. 'bulk': how many values and letters a reading holds, each counted each time it is reached (what is shared counts as often as it is met; a slice's spare places count too). A statement '..UptoSaid' is the law's where the arguments, and the package variables that the reading takes, are together of bulk at most 1048576: NARROWER than '..Said'. Prove '..Said' where nothing that the law and all that it calls make is longer than what came in: it says more and counts as full. Else prove '..UptoSaid'. A law counts once. -/
mutual
def uptoBulk {H : Type} : DataW H → Nat
  | .lit (.string bytes) => bytes.length + 1
  | .lit _ => 1
  | .nil => 1
  | .ptr d => uptoBulk d + 1
  | .slice elems spare => uptoBulkAll elems + uptoBulkAll spare + 1
  | .agg parts => uptoBulkAll parts + 1
  | .iface _ d => uptoBulk d + 1
  | .map entries => uptoBulkEntries entries + 1
  | .held _ => 1
def uptoBulkAll {H : Type} : List (DataW H) → Nat
  | [] => 0
  | d :: r => uptoBulk d + uptoBulkAll r
def uptoBulkEntries {H : Type} : List (Lit × DataW H) → Nat
  | [] => 0
  | x :: r => uptoBulkEntry x + uptoBulkEntries r
def uptoBulkEntry {H : Type} : Lit × DataW H → Nat
  | (.string bytes, d) => bytes.length + uptoBulk d + 1
  | (_, d) => uptoBulk d + 1
 end
def uptoSmall : (H : Type) → List (DataW H) → Bool := fun _ ds => decide (uptoBulkAll ds ≤ 1048576)
def OpenSpec.upto (s : _root_.Go.ChangeSpec) : _root_.Go.OpenSpec := { _root_.Go.OpenSpec.ofChange s with cond := some uptoSmall }

/-- 'laws.FnHideNames', WHERE WHAT IT READS IS OF BULK AT MOST 1048576: true; the input reads as it did. -/
def fnHideNamesUptoRow : OpenClaim := { program := "ytlkhfgfficehcaa", sum := "e9ba2ebe35341e7450d7299861392c8bc4917ef004b3d2c2085c217a97596ef8", func := "loop.example/objectlinker/laws.FnHideNames", spec := "fnHideNames", unfollowed := true, recurses := true, apart := false, narrowed := true }
def FnHideNamesUptoSaid : Prop := fnHideNamesUptoRow.holds Try.pinned (OpenSpec.upto fnHideNamesSpec)

/-- 'laws.FnExactStripLocals', WHERE WHAT IT READS IS OF BULK AT MOST 1048576: true; the input reads as it did. -/
def fnExactStripLocalsUptoRow : OpenClaim := { program := "ytlkhfgfficehcaa", sum := "e9ba2ebe35341e7450d7299861392c8bc4917ef004b3d2c2085c217a97596ef8", func := "loop.example/objectlinker/laws.FnExactStripLocals", spec := "fnExactStripLocals", unfollowed := true, recurses := true, apart := false, narrowed := true }
def FnExactStripLocalsUptoSaid : Prop := fnExactStripLocalsUptoRow.holds Try.pinned (OpenSpec.upto fnExactStripLocalsSpec)

/-- 'laws.FnExactStripWanted', WHERE WHAT IT READS IS OF BULK AT MOST 1048576: true; the input reads as it did. -/
def fnExactStripWantedUptoRow : OpenClaim := { program := "ytlkhfgfficehcaa", sum := "e9ba2ebe35341e7450d7299861392c8bc4917ef004b3d2c2085c217a97596ef8", func := "loop.example/objectlinker/laws.FnExactStripWanted", spec := "fnExactStripWanted", unfollowed := true, recurses := true, apart := false, narrowed := true }
def FnExactStripWantedUptoSaid : Prop := fnExactStripWantedUptoRow.holds Try.pinned (OpenSpec.upto fnExactStripWantedSpec)

/-- 'laws.FnExactHideNames', WHERE WHAT IT READS IS OF BULK AT MOST 1048576: true; the input reads as it did. -/
def fnExactHideNamesUptoRow : OpenClaim := { program := "ytlkhfgfficehcaa", sum := "e9ba2ebe35341e7450d7299861392c8bc4917ef004b3d2c2085c217a97596ef8", func := "loop.example/objectlinker/laws.FnExactHideNames", spec := "fnExactHideNames", unfollowed := true, recurses := true, apart := false, narrowed := true }
def FnExactHideNamesUptoSaid : Prop := fnExactHideNamesUptoRow.holds Try.pinned (OpenSpec.upto fnExactHideNamesSpec)

end Rows
end Go.Proofs.Ytlkhfgfficehcaa
