/-
  No cell of these rows narrows 'for every input' (looked for: loops, veiled, ifaces, maps, wideKeys, modest, calm, conditions, laid).
  DERIVED. THE GIVEN ROWS OF THIS SEAT. 9 by the template 'for every input the law returns true; each argument reads behind the call as it read before'; 0 by the template 'total and deterministic' (their statements: YtjakkiidedmifaaTotals.lean).
  GIVEN WITH THE SEED: the statements are not yours to turn. If you find one false, say at which input.
  Laid BY PROGRAM, IN A SANDBOX (cutbox-rows.mjs): the forced cells as the released guide's own fill.sh prints them over the translation a13e5f9a5e9b481c… (all of the seat's roots in one cut). By AI agents, Wed Nov 11 2026. No macro, syntax, notation, axiom, sorry.
-/
import Derived.Test.YtjakkiidedmifaaChecked
import GoSem.Claim
import GoSem.ClaimJoined
import GoSem.ClaimMapViews
import Derived.JoinedTies
import Derived.KernelRfl
namespace Go.Proofs.Ytjakkiidedmifaa
/- THE CELL 'sum', in the pinned program and in every row, IS THE sha256 OF THE DUMP (.gsa) THAT YtjakkiidedmifaaProg.lean LOADS. Nothing in Lean hashes anything: it is a label: what it is worth is what the hold of that sum in a sandbox is worth. -/
noncomputable def Try.pinned : Pinned := { name := "ytjakkiidedmifaa", sum := "a13e5f9a5e9b481c935f418fbd5d580d630a2066406c1aaad0c427fe33932fb7", checked := Try.checked }
namespace Rows
def none {H : Type} : Left H := { results := [], args := [] }

/-- 'laws.FnNamesGiven': WHATEVER THE INPUT: true; the input reads as it did. -/
def fnNamesGivenSpec : ChangeSpec := { name := "fnNamesGiven", fn := fun _ => fun
  | [d] => { results := [.lit (.bool true)], args := [d] }
  | _ => none }
def fnNamesGivenRow : OpenClaim := { program := "ytjakkiidedmifaa", sum := "a13e5f9a5e9b481c935f418fbd5d580d630a2066406c1aaad0c427fe33932fb7", func := "loop.example/objectlinker/laws.FnNamesGiven", spec := "fnNamesGiven", unfollowed := true, recurses := true, apart := false }
def FnNamesGivenSaid : Prop := fnNamesGivenRow.holds Try.pinned (OpenSpec.ofChange fnNamesGivenSpec)

/-- ITS FALSE NEIGHBOUR: 'it returns false'. Refute it at one input. -/
def fnNamesGivenWrong : ChangeSpec := { name := "fnNamesGiven", fn := fun _ => fun
  | [d] => { results := [.lit (.bool false)], args := [d] }
  | _ => none }
def FnNamesGivenWrongFalsely : Prop := fnNamesGivenRow.holds Try.pinned (OpenSpec.ofChange fnNamesGivenWrong)

/-- 'laws.FnObjectsValid': WHATEVER THE INPUT: true; the input reads as it did. -/
def fnObjectsValidSpec : ChangeSpec := { name := "fnObjectsValid", fn := fun _ => fun
  | [d] => { results := [.lit (.bool true)], args := [d] }
  | _ => none }
def fnObjectsValidRow : OpenClaim := { program := "ytjakkiidedmifaa", sum := "a13e5f9a5e9b481c935f418fbd5d580d630a2066406c1aaad0c427fe33932fb7", func := "loop.example/objectlinker/laws.FnObjectsValid", spec := "fnObjectsValid", unfollowed := true, recurses := true, apart := false }
def FnObjectsValidSaid : Prop := fnObjectsValidRow.holds Try.pinned (OpenSpec.ofChange fnObjectsValidSpec)

/-- ITS FALSE NEIGHBOUR: 'it returns false'. Refute it at one input. -/
def fnObjectsValidWrong : ChangeSpec := { name := "fnObjectsValid", fn := fun _ => fun
  | [d] => { results := [.lit (.bool false)], args := [d] }
  | _ => none }
def FnObjectsValidWrongFalsely : Prop := fnObjectsValidRow.holds Try.pinned (OpenSpec.ofChange fnObjectsValidWrong)

/-- 'laws.FnFindName': WHATEVER THE INPUT: true; the input reads as it did. -/
def fnFindNameSpec : ChangeSpec := { name := "fnFindName", fn := fun _ => fun
  | [d] => { results := [.lit (.bool true)], args := [d] }
  | _ => none }
def fnFindNameRow : OpenClaim := { program := "ytjakkiidedmifaa", sum := "a13e5f9a5e9b481c935f418fbd5d580d630a2066406c1aaad0c427fe33932fb7", func := "loop.example/objectlinker/laws.FnFindName", spec := "fnFindName", unfollowed := true, recurses := true, apart := false }
def FnFindNameSaid : Prop := fnFindNameRow.holds Try.pinned (OpenSpec.ofChange fnFindNameSpec)

/-- ITS FALSE NEIGHBOUR: 'it returns false'. Refute it at one input. -/
def fnFindNameWrong : ChangeSpec := { name := "fnFindName", fn := fun _ => fun
  | [d] => { results := [.lit (.bool false)], args := [d] }
  | _ => none }
def FnFindNameWrongFalsely : Prop := fnFindNameRow.holds Try.pinned (OpenSpec.ofChange fnFindNameWrong)

/-- 'laws.FnNamesTwice': WHATEVER THE INPUT: true; the input reads as it did. -/
def fnNamesTwiceSpec : ChangeSpec := { name := "fnNamesTwice", fn := fun _ => fun
  | [d] => { results := [.lit (.bool true)], args := [d] }
  | _ => none }
def fnNamesTwiceRow : OpenClaim := { program := "ytjakkiidedmifaa", sum := "a13e5f9a5e9b481c935f418fbd5d580d630a2066406c1aaad0c427fe33932fb7", func := "loop.example/objectlinker/laws.FnNamesTwice", spec := "fnNamesTwice", unfollowed := true, recurses := true, apart := false }
def FnNamesTwiceSaid : Prop := fnNamesTwiceRow.holds Try.pinned (OpenSpec.ofChange fnNamesTwiceSpec)

/-- ITS FALSE NEIGHBOUR: 'it returns false'. Refute it at one input. -/
def fnNamesTwiceWrong : ChangeSpec := { name := "fnNamesTwice", fn := fun _ => fun
  | [d] => { results := [.lit (.bool false)], args := [d] }
  | _ => none }
def FnNamesTwiceWrongFalsely : Prop := fnNamesTwiceRow.holds Try.pinned (OpenSpec.ofChange fnNamesTwiceWrong)

/-- 'laws.FnNamesMissing': WHATEVER THE INPUT: true; the input reads as it did. -/
def fnNamesMissingSpec : ChangeSpec := { name := "fnNamesMissing", fn := fun _ => fun
  | [d] => { results := [.lit (.bool true)], args := [d] }
  | _ => none }
def fnNamesMissingRow : OpenClaim := { program := "ytjakkiidedmifaa", sum := "a13e5f9a5e9b481c935f418fbd5d580d630a2066406c1aaad0c427fe33932fb7", func := "loop.example/objectlinker/laws.FnNamesMissing", spec := "fnNamesMissing", unfollowed := true, recurses := true, apart := false }
def FnNamesMissingSaid : Prop := fnNamesMissingRow.holds Try.pinned (OpenSpec.ofChange fnNamesMissingSpec)

/-- ITS FALSE NEIGHBOUR: 'it returns false'. Refute it at one input. -/
def fnNamesMissingWrong : ChangeSpec := { name := "fnNamesMissing", fn := fun _ => fun
  | [d] => { results := [.lit (.bool false)], args := [d] }
  | _ => none }
def FnNamesMissingWrongFalsely : Prop := fnNamesMissingRow.holds Try.pinned (OpenSpec.ofChange fnNamesMissingWrong)

/-- 'laws.FnExactObjectsValid': WHATEVER THE INPUT: true; the input reads as it did. -/
def fnExactObjectsValidSpec : ChangeSpec := { name := "fnExactObjectsValid", fn := fun _ => fun
  | [d] => { results := [.lit (.bool true)], args := [d] }
  | _ => none }
def fnExactObjectsValidRow : OpenClaim := { program := "ytjakkiidedmifaa", sum := "a13e5f9a5e9b481c935f418fbd5d580d630a2066406c1aaad0c427fe33932fb7", func := "loop.example/objectlinker/laws.FnExactObjectsValid", spec := "fnExactObjectsValid", unfollowed := true, recurses := true, apart := false }
def FnExactObjectsValidSaid : Prop := fnExactObjectsValidRow.holds Try.pinned (OpenSpec.ofChange fnExactObjectsValidSpec)

/-- ITS FALSE NEIGHBOUR: 'it returns false'. Refute it at one input. -/
def fnExactObjectsValidWrong : ChangeSpec := { name := "fnExactObjectsValid", fn := fun _ => fun
  | [d] => { results := [.lit (.bool false)], args := [d] }
  | _ => none }
def FnExactObjectsValidWrongFalsely : Prop := fnExactObjectsValidRow.holds Try.pinned (OpenSpec.ofChange fnExactObjectsValidWrong)

/-- 'laws.FnExactFindName': WHATEVER THE INPUT: true; the input reads as it did. -/
def fnExactFindNameSpec : ChangeSpec := { name := "fnExactFindName", fn := fun _ => fun
  | [d1, d2] => { results := [.lit (.bool true)], args := [d1, d2] }
  | _ => none }
def fnExactFindNameRow : OpenClaim := { program := "ytjakkiidedmifaa", sum := "a13e5f9a5e9b481c935f418fbd5d580d630a2066406c1aaad0c427fe33932fb7", func := "loop.example/objectlinker/laws.FnExactFindName", spec := "fnExactFindName", unfollowed := true, recurses := true, apart := false }
def FnExactFindNameSaid : Prop := fnExactFindNameRow.holds Try.pinned (OpenSpec.ofChange fnExactFindNameSpec)

/-- ITS FALSE NEIGHBOUR: 'it returns false'. Refute it at one input. -/
def fnExactFindNameWrong : ChangeSpec := { name := "fnExactFindName", fn := fun _ => fun
  | [d1, d2] => { results := [.lit (.bool false)], args := [d1, d2] }
  | _ => none }
def FnExactFindNameWrongFalsely : Prop := fnExactFindNameRow.holds Try.pinned (OpenSpec.ofChange fnExactFindNameWrong)

/-- 'laws.FnExactNamesTwice': WHATEVER THE INPUT: true; the input reads as it did. -/
def fnExactNamesTwiceSpec : ChangeSpec := { name := "fnExactNamesTwice", fn := fun _ => fun
  | [d] => { results := [.lit (.bool true)], args := [d] }
  | _ => none }
def fnExactNamesTwiceRow : OpenClaim := { program := "ytjakkiidedmifaa", sum := "a13e5f9a5e9b481c935f418fbd5d580d630a2066406c1aaad0c427fe33932fb7", func := "loop.example/objectlinker/laws.FnExactNamesTwice", spec := "fnExactNamesTwice", unfollowed := true, recurses := true, apart := false }
def FnExactNamesTwiceSaid : Prop := fnExactNamesTwiceRow.holds Try.pinned (OpenSpec.ofChange fnExactNamesTwiceSpec)

/-- ITS FALSE NEIGHBOUR: 'it returns false'. Refute it at one input. -/
def fnExactNamesTwiceWrong : ChangeSpec := { name := "fnExactNamesTwice", fn := fun _ => fun
  | [d] => { results := [.lit (.bool false)], args := [d] }
  | _ => none }
def FnExactNamesTwiceWrongFalsely : Prop := fnExactNamesTwiceRow.holds Try.pinned (OpenSpec.ofChange fnExactNamesTwiceWrong)

/-- 'laws.FnExactNamesMissing': WHATEVER THE INPUT: true; the input reads as it did. -/
def fnExactNamesMissingSpec : ChangeSpec := { name := "fnExactNamesMissing", fn := fun _ => fun
  | [d] => { results := [.lit (.bool true)], args := [d] }
  | _ => none }
def fnExactNamesMissingRow : OpenClaim := { program := "ytjakkiidedmifaa", sum := "a13e5f9a5e9b481c935f418fbd5d580d630a2066406c1aaad0c427fe33932fb7", func := "loop.example/objectlinker/laws.FnExactNamesMissing", spec := "fnExactNamesMissing", unfollowed := true, recurses := true, apart := false }
def FnExactNamesMissingSaid : Prop := fnExactNamesMissingRow.holds Try.pinned (OpenSpec.ofChange fnExactNamesMissingSpec)

/-- ITS FALSE NEIGHBOUR: 'it returns false'. Refute it at one input. -/
def fnExactNamesMissingWrong : ChangeSpec := { name := "fnExactNamesMissing", fn := fun _ => fun
  | [d] => { results := [.lit (.bool false)], args := [d] }
  | _ => none }
def FnExactNamesMissingWrongFalsely : Prop := fnExactNamesMissingRow.holds Try.pinned (OpenSpec.ofChange fnExactNamesMissingWrong)

/- THE SECOND FORM. 'bulk': how many values and letters a reading holds, each counted each time it is reached (what is shared counts as often as it is met; a slice's spare places count too). A statement '..UptoSaid' is the law's where the arguments, and the package variables that the reading takes, are together of bulk at most 1048576: NARROWER than '..Said'. Prove '..Said' where nothing that the law and all that it calls make is longer than what came in: it says more and counts as full. Else prove '..UptoSaid'. A law counts once. -/
mutual
def uptoBulk {H : Type} : DataW H → Nat
  | .lit (.string bytes) => bytes.length + 1
  | .lit _ => 1
  | .nil => 1
  | .ptr d => uptoBulk d + 1
  | .slice elems spare => uptoBulkAll elems + uptoBulkAll spare + 1
  | .agg parts => uptoBulkAll parts + 1
  | .iface _ d => uptoBulk d + 1
  | .map entries => uptoBulkEntries entries + 1
  | .held _ => 1
def uptoBulkAll {H : Type} : List (DataW H) → Nat
  | [] => 0
  | d :: r => uptoBulk d + uptoBulkAll r
def uptoBulkEntries {H : Type} : List (Lit × DataW H) → Nat
  | [] => 0
  | x :: r => uptoBulkEntry x + uptoBulkEntries r
def uptoBulkEntry {H : Type} : Lit × DataW H → Nat
  | (.string bytes, d) => bytes.length + uptoBulk d + 1
  | (_, d) => uptoBulk d + 1
 end
def uptoSmall : (H : Type) → List (DataW H) → Bool := fun _ ds => decide (uptoBulkAll ds ≤ 1048576)
def OpenSpec.upto (s : _root_.Go.ChangeSpec) : _root_.Go.OpenSpec := { _root_.Go.OpenSpec.ofChange s with cond := some uptoSmall }

/-- 'laws.FnNamesGiven', WHERE WHAT IT READS IS OF BULK AT MOST 1048576: true; the input reads as it did. -/
def fnNamesGivenUptoRow : OpenClaim := { program := "ytjakkiidedmifaa", sum := "a13e5f9a5e9b481c935f418fbd5d580d630a2066406c1aaad0c427fe33932fb7", func := "loop.example/objectlinker/laws.FnNamesGiven", spec := "fnNamesGiven", unfollowed := true, recurses := true, apart := false, narrowed := true }
def FnNamesGivenUptoSaid : Prop := fnNamesGivenUptoRow.holds Try.pinned (OpenSpec.upto fnNamesGivenSpec)

/-- 'laws.FnObjectsValid', WHERE WHAT IT READS IS OF BULK AT MOST 1048576: true; the input reads as it did. -/
def fnObjectsValidUptoRow : OpenClaim := { program := "ytjakkiidedmifaa", sum := "a13e5f9a5e9b481c935f418fbd5d580d630a2066406c1aaad0c427fe33932fb7", func := "loop.example/objectlinker/laws.FnObjectsValid", spec := "fnObjectsValid", unfollowed := true, recurses := true, apart := false, narrowed := true }
def FnObjectsValidUptoSaid : Prop := fnObjectsValidUptoRow.holds Try.pinned (OpenSpec.upto fnObjectsValidSpec)

/-- 'laws.FnFindName', WHERE WHAT IT READS IS OF BULK AT MOST 1048576: true; the input reads as it did. -/
def fnFindNameUptoRow : OpenClaim := { program := "ytjakkiidedmifaa", sum := "a13e5f9a5e9b481c935f418fbd5d580d630a2066406c1aaad0c427fe33932fb7", func := "loop.example/objectlinker/laws.FnFindName", spec := "fnFindName", unfollowed := true, recurses := true, apart := false, narrowed := true }
def FnFindNameUptoSaid : Prop := fnFindNameUptoRow.holds Try.pinned (OpenSpec.upto fnFindNameSpec)

/-- 'laws.FnNamesTwice', WHERE WHAT IT READS IS OF BULK AT MOST 1048576: true; the input reads as it did. -/
def fnNamesTwiceUptoRow : OpenClaim := { program := "ytjakkiidedmifaa", sum := "a13e5f9a5e9b481c935f418fbd5d580d630a2066406c1aaad0c427fe33932fb7", func := "loop.example/objectlinker/laws.FnNamesTwice", spec := "fnNamesTwice", unfollowed := true, recurses := true, apart := false, narrowed := true }
def FnNamesTwiceUptoSaid : Prop := fnNamesTwiceUptoRow.holds Try.pinned (OpenSpec.upto fnNamesTwiceSpec)

/-- 'laws.FnNamesMissing', WHERE WHAT IT READS IS OF BULK AT MOST 1048576: true; the input reads as it did. -/
def fnNamesMissingUptoRow : OpenClaim := { program := "ytjakkiidedmifaa", sum := "a13e5f9a5e9b481c935f418fbd5d580d630a2066406c1aaad0c427fe33932fb7", func := "loop.example/objectlinker/laws.FnNamesMissing", spec := "fnNamesMissing", unfollowed := true, recurses := true, apart := false, narrowed := true }
def FnNamesMissingUptoSaid : Prop := fnNamesMissingUptoRow.holds Try.pinned (OpenSpec.upto fnNamesMissingSpec)

/-- 'laws.FnExactObjectsValid', WHERE WHAT IT READS IS OF BULK AT MOST 1048576: true; the input reads as it did. -/
def fnExactObjectsValidUptoRow : OpenClaim := { program := "ytjakkiidedmifaa", sum := "a13e5f9a5e9b481c935f418fbd5d580d630a2066406c1aaad0c427fe33932fb7", func := "loop.example/objectlinker/laws.FnExactObjectsValid", spec := "fnExactObjectsValid", unfollowed := true, recurses := true, apart := false, narrowed := true }
def FnExactObjectsValidUptoSaid : Prop := fnExactObjectsValidUptoRow.holds Try.pinned (OpenSpec.upto fnExactObjectsValidSpec)

/-- 'laws.FnExactFindName', WHERE WHAT IT READS IS OF BULK AT MOST 1048576: true; the input reads as it did. -/
def fnExactFindNameUptoRow : OpenClaim := { program := "ytjakkiidedmifaa", sum := "a13e5f9a5e9b481c935f418fbd5d580d630a2066406c1aaad0c427fe33932fb7", func := "loop.example/objectlinker/laws.FnExactFindName", spec := "fnExactFindName", unfollowed := true, recurses := true, apart := false, narrowed := true }
def FnExactFindNameUptoSaid : Prop := fnExactFindNameUptoRow.holds Try.pinned (OpenSpec.upto fnExactFindNameSpec)

/-- 'laws.FnExactNamesTwice', WHERE WHAT IT READS IS OF BULK AT MOST 1048576: true; the input reads as it did. -/
def fnExactNamesTwiceUptoRow : OpenClaim := { program := "ytjakkiidedmifaa", sum := "a13e5f9a5e9b481c935f418fbd5d580d630a2066406c1aaad0c427fe33932fb7", func := "loop.example/objectlinker/laws.FnExactNamesTwice", spec := "fnExactNamesTwice", unfollowed := true, recurses := true, apart := false, narrowed := true }
def FnExactNamesTwiceUptoSaid : Prop := fnExactNamesTwiceUptoRow.holds Try.pinned (OpenSpec.upto fnExactNamesTwiceSpec)

/-- 'laws.FnExactNamesMissing', WHERE WHAT IT READS IS OF BULK AT MOST 1048576: true; the input reads as it did. -/
def fnExactNamesMissingUptoRow : OpenClaim := { program := "ytjakkiidedmifaa", sum := "a13e5f9a5e9b481c935f418fbd5d580d630a2066406c1aaad0c427fe33932fb7", func := "loop.example/objectlinker/laws.FnExactNamesMissing", spec := "fnExactNamesMissing", unfollowed := true, recurses := true, apart := false, narrowed := true }
def FnExactNamesMissingUptoSaid : Prop := fnExactNamesMissingUptoRow.holds Try.pinned (OpenSpec.upto fnExactNamesMissingSpec)

end Rows
end Go.Proofs.Ytjakkiidedmifaa
