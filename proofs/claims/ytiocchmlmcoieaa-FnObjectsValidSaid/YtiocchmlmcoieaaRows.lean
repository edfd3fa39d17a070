/-
  No cell of these rows narrows 'for every input' (looked for: loops, veiled, ifaces, maps, wideKeys, modest, calm, conditions, laid).
  DERIVED. THE GIVEN ROWS OF THIS SEAT. 5 by the template 'for every input the law returns true; each argument reads behind the call as it read before'; 0 by the template 'total and deterministic' (their statements: YtiocchmlmcoieaaTotals.lean).
  GIVEN WITH THE SEED: the statements are not yours to turn. If you find one false, say at which input.
  Laid BY PROGRAM, IN A SANDBOX (cutbox-rows.mjs): the forced cells as the released guide's own fill.sh prints them over the translation 69e834a5f4e2dda6… (all of the seat's roots in one cut). By AI agents, Wed Nov 11 2026. No macro, syntax, notation, axiom, sorry.
-/
import Derived.Test.YtiocchmlmcoieaaChecked
import GoSem.Claim
import GoSem.ClaimJoined
import GoSem.ClaimMapViews
import Derived.JoinedTies
import Derived.KernelRfl
namespace Go.Proofs.Ytiocchmlmcoieaa
/- THE CELL 'sum', in the pinned program and in every row, IS THE sha256 OF THE DUMP (.gsa) THAT YtiocchmlmcoieaaProg.lean LOADS. Nothing in Lean hashes anything: it is a label: what it is worth is what the hold of that sum in a sandbox is worth. -/
noncomputable def Try.pinned : Pinned := { name := "ytiocchmlmcoieaa", sum := "69e834a5f4e2dda6cc06510fad08c2693ae57980a6aa492df48de3727d94ac54", checked := Try.checked }
namespace Rows
def none {H : Type} : Left H := { results := [], args := [] }

/-- 'laws.FnObjectsValid': WHATEVER THE INPUT: true; the input reads as it did. -/
def fnObjectsValidSpec : ChangeSpec := { name := "fnObjectsValid", fn := fun _ => fun
  | [d] => { results := [.lit (.bool true)], args := [d] }
  | _ => none }
def fnObjectsValidRow : OpenClaim := { program := "ytiocchmlmcoieaa", sum := "69e834a5f4e2dda6cc06510fad08c2693ae57980a6aa492df48de3727d94ac54", func := "loop.example/objectlinker/laws.FnObjectsValid", spec := "fnObjectsValid", unfollowed := true, recurses := true, apart := false }
def FnObjectsValidSaid : Prop := fnObjectsValidRow.holds Try.pinned (OpenSpec.ofChange fnObjectsValidSpec)

/-- ITS FALSE NEIGHBOUR: 'it returns false'. Refute it at one input. -/
def fnObjectsValidWrong : ChangeSpec := { name := "fnObjectsValid", fn := fun _ => fun
  | [d] => { results := [.lit (.bool false)], args := [d] }
  | _ => none }
def FnObjectsValidWrongFalsely : Prop := fnObjectsValidRow.holds Try.pinned (OpenSpec.ofChange fnObjectsValidWrong)

/-- 'laws.FnPlaceSections': WHATEVER THE INPUT: true; the input reads as it did. -/
def fnPlaceSectionsSpec : ChangeSpec := { name := "fnPlaceSections", fn := fun _ => fun
  | [d] => { results := [.lit (.bool true)], args := [d] }
  | _ => none }
def fnPlaceSectionsRow : OpenClaim := { program := "ytiocchmlmcoieaa", sum := "69e834a5f4e2dda6cc06510fad08c2693ae57980a6aa492df48de3727d94ac54", func := "loop.example/objectlinker/laws.FnPlaceSections", spec := "fnPlaceSections", unfollowed := true, recurses := true, apart := false }
def FnPlaceSectionsSaid : Prop := fnPlaceSectionsRow.holds Try.pinned (OpenSpec.ofChange fnPlaceSectionsSpec)

/-- ITS FALSE NEIGHBOUR: 'it returns false'. Refute it at one input. -/
def fnPlaceSectionsWrong : ChangeSpec := { name := "fnPlaceSections", fn := fun _ => fun
  | [d] => { results := [.lit (.bool false)], args := [d] }
  | _ => none }
def FnPlaceSectionsWrongFalsely : Prop := fnPlaceSectionsRow.holds Try.pinned (OpenSpec.ofChange fnPlaceSectionsWrong)

/-- 'laws.FnKindEnds': WHATEVER THE INPUT: true; the input reads as it did. -/
def fnKindEndsSpec : ChangeSpec := { name := "fnKindEnds", fn := fun _ => fun
  | [d] => { results := [.lit (.bool true)], args := [d] }
  | _ => none }
def fnKindEndsRow : OpenClaim := { program := "ytiocchmlmcoieaa", sum := "69e834a5f4e2dda6cc06510fad08c2693ae57980a6aa492df48de3727d94ac54", func := "loop.example/objectlinker/laws.FnKindEnds", spec := "fnKindEnds", unfollowed := true, recurses := true, apart := false }
def FnKindEndsSaid : Prop := fnKindEndsRow.holds Try.pinned (OpenSpec.ofChange fnKindEndsSpec)

/-- ITS FALSE NEIGHBOUR: 'it returns false'. Refute it at one input. -/
def fnKindEndsWrong : ChangeSpec := { name := "fnKindEnds", fn := fun _ => fun
  | [d] => { results := [.lit (.bool false)], args := [d] }
  | _ => none }
def FnKindEndsWrongFalsely : Prop := fnKindEndsRow.holds Try.pinned (OpenSpec.ofChange fnKindEndsWrong)

/-- 'laws.FnExactPlaceSections': WHATEVER THE INPUT: true; the input reads as it did. -/
def fnExactPlaceSectionsSpec : ChangeSpec := { name := "fnExactPlaceSections", fn := fun _ => fun
  | [d1, d2] => { results := [.lit (.bool true)], args := [d1, d2] }
  | _ => none }
def fnExactPlaceSectionsRow : OpenClaim := { program := "ytiocchmlmcoieaa", sum := "69e834a5f4e2dda6cc06510fad08c2693ae57980a6aa492df48de3727d94ac54", func := "loop.example/objectlinker/laws.FnExactPlaceSections", spec := "fnExactPlaceSections", unfollowed := true, recurses := true, apart := false }
def FnExactPlaceSectionsSaid : Prop := fnExactPlaceSectionsRow.holds Try.pinned (OpenSpec.ofChange fnExactPlaceSectionsSpec)

/-- ITS FALSE NEIGHBOUR: 'it returns false'. Refute it at one input. -/
def fnExactPlaceSectionsWrong : ChangeSpec := { name := "fnExactPlaceSections", fn := fun _ => fun
  | [d1, d2] => { results := [.lit (.bool false)], args := [d1, d2] }
  | _ => none }
def FnExactPlaceSectionsWrongFalsely : Prop := fnExactPlaceSectionsRow.holds Try.pinned (OpenSpec.ofChange fnExactPlaceSectionsWrong)

/-- 'laws.FnExactKindEnds': WHATEVER THE INPUT: true; the input reads as it did. -/
def fnExactKindEndsSpec : ChangeSpec := { name := "fnExactKindEnds", fn := fun _ => fun
  | [d1, d2] => { results := [.lit (.bool true)], args := [d1, d2] }
  | _ => none }
def fnExactKindEndsRow : OpenClaim := { program := "ytiocchmlmcoieaa", sum := "69e834a5f4e2dda6cc06510fad08c2693ae57980a6aa492df48de3727d94ac54", func := "loop.example/objectlinker/laws.FnExactKindEnds", spec := "fnExactKindEnds", unfollowed := true, recurses := true, apart := false }
def FnExactKindEndsSaid : Prop := fnExactKindEndsRow.holds Try.pinned (OpenSpec.ofChange fnExactKindEndsSpec)

/-- ITS FALSE NEIGHBOUR: 'it returns false'. Refute it at one input. -/
def fnExactKindEndsWrong : ChangeSpec := { name := "fnExactKindEnds", fn := fun _ => fun
  | [d1, d2] => { results := [.lit (.bool false)], args := [d1, d2] }
  | _ => none }
def FnExactKindEndsWrongFalsely : Prop := fnExactKindEndsRow.holds Try.pinned (OpenSpec.ofChange fnExactKindEndsWrong)

/- THE SECOND FORM. 'bulk': how many values and letters a reading holds, each counted each time it is reached (what is shared counts as often as it is met; a slice's spare places count too). A statement '..UptoSaid' is the law's where the arguments, and the package variables that the reading takes, are together of bulk at most 1048576: NARROWER than '..Said'. Prove '..Said' where nothing that the law and all that it calls make is longer than what came in: it says more and counts as full. Else prove '..UptoSaid'. A law counts once. -/
mutual
def uptoBulk {H : Type} : DataW H → Nat
  | .lit (.string bytes) => bytes.length + 1
  | .lit _ => 1
  | .nil => 1
  | .ptr d => uptoBulk d + 1
  | .slice elems spare => uptoBulkAll elems + uptoBulkAll spare + 1
  | .agg parts => uptoBulkAll parts + 1
  | .iface _ d => uptoBulk d + 1
  | .map entries => uptoBulkEntries entries + 1
  | .held _ => 1
def uptoBulkAll {H : Type} : List (DataW H) → Nat
  | [] => 0
  | d :: r => uptoBulk d + uptoBulkAll r
def uptoBulkEntries {H : Type} : List (Lit × DataW H) → Nat
  | [] => 0
  | x :: r => uptoBulkEntry x + uptoBulkEntries r
def uptoBulkEntry {H : Type} : Lit × DataW H → Nat
  | (.string bytes, d) => bytes.length + uptoBulk d + 1
  | (_, d) => uptoBulk d + 1
 end
def uptoSmall : (H : Type) → List (DataW H) → Bool := fun _ ds => decide (uptoBulkAll ds ≤ 1048576)
def OpenSpec.upto (s : _root_.Go.ChangeSpec) : _root_.Go.OpenSpec := { _root_.Go.OpenSpec.ofChange s with cond := some uptoSmall }

/-- 'laws.FnObjectsValid', WHERE WHAT IT READS IS OF BULK AT MOST 1048576: true; the input reads as it did. -/
def fnObjectsValidUptoRow : OpenClaim := { program := "ytiocchmlmcoieaa", sum := "69e834a5f4e2dda6cc06510fad08c2693ae57980a6aa492df48de3727d94ac54", func := "loop.example/objectlinker/laws.FnObjectsValid", spec := "fnObjectsValid", unfollowed := true, recurses := true, apart := false, narrowed := true }
def FnObjectsValidUptoSaid : Prop := fnObjectsValidUptoRow.holds Try.pinned (OpenSpec.upto fnObjectsValidSpec)

/-- 'laws.FnPlaceSections', WHERE WHAT IT READS IS OF BULK AT MOST 1048576: true; the input reads as it did. -/
def fnPlaceSectionsUptoRow : OpenClaim := { program := "ytiocchmlmcoieaa", sum := "69e834a5f4e2dda6cc06510fad08c2693ae57980a6aa492df48de3727d94ac54", func := "loop.example/objectlinker/laws.FnPlaceSections", spec := "fnPlaceSections", unfollowed := true, recurses := true, apart := false, narrowed := true }
def FnPlaceSectionsUptoSaid : Prop := fnPlaceSectionsUptoRow.holds Try.pinned (OpenSpec.upto fnPlaceSectionsSpec)

/-- 'laws.FnKindEnds', WHERE WHAT IT READS IS OF BULK AT MOST 1048576: true; the input reads as it did. -/
def fnKindEndsUptoRow : OpenClaim := { program := "ytiocchmlmcoieaa", sum := "69e834a5f4e2dda6cc06510fad08c2693ae57980a6aa492df48de3727d94ac54", func := "loop.example/objectlinker/laws.FnKindEnds", spec := "fnKindEnds", unfollowed := true, recurses := true, apart := false, narrowed := true }
def FnKindEndsUptoSaid : Prop := fnKindEndsUptoRow.holds Try.pinned (OpenSpec.upto fnKindEndsSpec)

/-- 'laws.FnExactPlaceSections', WHERE WHAT IT READS IS OF BULK AT MOST 1048576: true; the input reads as it did. -/
def fnExactPlaceSectionsUptoRow : OpenClaim := { program := "ytiocchmlmcoieaa", sum := "69e834a5f4e2dda6cc06510fad08c2693ae57980a6aa492df48de3727d94ac54", func := "loop.example/objectlinker/laws.FnExactPlaceSections", spec := "fnExactPlaceSections", unfollowed := true, recurses := true, apart := false, narrowed := true }
def FnExactPlaceSectionsUptoSaid : Prop := fnExactPlaceSectionsUptoRow.holds Try.pinned (OpenSpec.upto fnExactPlaceSectionsSpec)

/-- 'laws.FnExactKindEnds', WHERE WHAT IT READS IS OF BULK AT MOST 1048576: true; the input reads as it did. -/
def fnExactKindEndsUptoRow : OpenClaim := { program := "ytiocchmlmcoieaa", sum := "69e834a5f4e2dda6cc06510fad08c2693ae57980a6aa492df48de3727d94ac54", func := "loop.example/objectlinker/laws.FnExactKindEnds", spec := "fnExactKindEnds", unfollowed := true, recurses := true, apart := false, narrowed := true }
def FnExactKindEndsUptoSaid : Prop := fnExactKindEndsUptoRow.holds Try.pinned (OpenSpec.upto fnExactKindEndsSpec)

end Rows
end Go.Proofs.Ytiocchmlmcoieaa
