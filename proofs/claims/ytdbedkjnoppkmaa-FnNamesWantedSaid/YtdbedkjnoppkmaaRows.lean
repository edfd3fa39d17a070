/-
  No cell of these rows narrows 'for every input' (looked for: loops, veiled, ifaces, maps, wideKeys, modest, calm, conditions, laid).
  DERIVED. THE GIVEN ROWS OF THIS SEAT. 7 by the template 'for every input the law returns true; each argument reads behind the call as it read before'; 0 by the template 'total and deterministic' (their statements: YtdbedkjnoppkmaaTotals.lean).
  GIVEN WITH THE SEED: the statements are not yours to turn. If you find one false, say at which input.
  Laid BY PROGRAM, IN A SANDBOX (cutbox-rows.mjs): the forced cells as the released guide's own fill.sh prints them over the translation 698d2d6d6d2e198e… (all of the seat's roots in one cut). By AI agents, Wed Nov 11 2026. No macro, syntax, notation, axiom, sorry.
-/
import Derived.Test.YtdbedkjnoppkmaaChecked
import GoSem.Claim
import GoSem.ClaimJoined
import GoSem.ClaimMapViews
import Derived.JoinedTies
import Derived.KernelRfl
namespace Go.Proofs.Ytdbedkjnoppkmaa
/- THE CELL 'sum', in the pinned program and in every row, IS THE sha256 OF THE DUMP (.gsa) THAT YtdbedkjnoppkmaaProg.lean LOADS. Nothing in Lean hashes anything: it is a label: what it is worth is what the hold of that sum in a sandbox is worth. -/
noncomputable def Try.pinned : Pinned := { name := "ytdbedkjnoppkmaa", sum := "698d2d6d6d2e198e405f6ec2ea00dfc4869d8ad79035a1b6c50e9c7c86c187ab", checked := Try.checked }
namespace Rows
def none {H : Type} : Left H := { results := [], args := [] }

/-- 'laws.FnSymbolValid': WHATEVER THE INPUT: true; the input reads as it did. -/
def fnSymbolValidSpec : ChangeSpec := { name := "fnSymbolValid", fn := fun _ => fun
  | [d] => { results := [.lit (.bool true)], args := [d] }
  | _ => none }
def fnSymbolValidRow : OpenClaim := { program := "ytdbedkjnoppkmaa", sum := "698d2d6d6d2e198e405f6ec2ea00dfc4869d8ad79035a1b6c50e9c7c86c187ab", func := "loop.example/objectlinker/laws.FnSymbolValid", spec := "fnSymbolValid", unfollowed := true, recurses := true, apart := false }
def FnSymbolValidSaid : Prop := fnSymbolValidRow.holds Try.pinned (OpenSpec.ofChange fnSymbolValidSpec)

/-- ITS FALSE NEIGHBOUR: 'it returns false'. Refute it at one input. -/
def fnSymbolValidWrong : ChangeSpec := { name := "fnSymbolValid", fn := fun _ => fun
  | [d] => { results := [.lit (.bool false)], args := [d] }
  | _ => none }
def FnSymbolValidWrongFalsely : Prop := fnSymbolValidRow.holds Try.pinned (OpenSpec.ofChange fnSymbolValidWrong)

/-- 'laws.FnObjectValid': WHATEVER THE INPUT: true; the input reads as it did. -/
def fnObjectValidSpec : ChangeSpec := { name := "fnObjectValid", fn := fun _ => fun
  | [d] => { results := [.lit (.bool true)], args := [d] }
  | _ => none }
def fnObjectValidRow : OpenClaim := { program := "ytdbedkjnoppkmaa", sum := "698d2d6d6d2e198e405f6ec2ea00dfc4869d8ad79035a1b6c50e9c7c86c187ab", func := "loop.example/objectlinker/laws.FnObjectValid", spec := "fnObjectValid", unfollowed := true, recurses := true, apart := false }
def FnObjectValidSaid : Prop := fnObjectValidRow.holds Try.pinned (OpenSpec.ofChange fnObjectValidSpec)

/-- ITS FALSE NEIGHBOUR: 'it returns false'. Refute it at one input. -/
def fnObjectValidWrong : ChangeSpec := { name := "fnObjectValid", fn := fun _ => fun
  | [d] => { results := [.lit (.bool false)], args := [d] }
  | _ => none }
def FnObjectValidWrongFalsely : Prop := fnObjectValidRow.holds Try.pinned (OpenSpec.ofChange fnObjectValidWrong)

/-- 'laws.FnNamesWanted': WHATEVER THE INPUT: true; the input reads as it did. -/
def fnNamesWantedSpec : ChangeSpec := { name := "fnNamesWanted", fn := fun _ => fun
  | [d] => { results := [.lit (.bool true)], args := [d] }
  | _ => none }
def fnNamesWantedRow : OpenClaim := { program := "ytdbedkjnoppkmaa", sum := "698d2d6d6d2e198e405f6ec2ea00dfc4869d8ad79035a1b6c50e9c7c86c187ab", func := "loop.example/objectlinker/laws.FnNamesWanted", spec := "fnNamesWanted", unfollowed := true, recurses := true, apart := false }
def FnNamesWantedSaid : Prop := fnNamesWantedRow.holds Try.pinned (OpenSpec.ofChange fnNamesWantedSpec)

/-- ITS FALSE NEIGHBOUR: 'it returns false'. Refute it at one input. -/
def fnNamesWantedWrong : ChangeSpec := { name := "fnNamesWanted", fn := fun _ => fun
  | [d] => { results := [.lit (.bool false)], args := [d] }
  | _ => none }
def FnNamesWantedWrongFalsely : Prop := fnNamesWantedRow.holds Try.pinned (OpenSpec.ofChange fnNamesWantedWrong)

/-- 'laws.FnExactSymbolValid': WHATEVER THE INPUT: true; the input reads as it did. -/
def fnExactSymbolValidSpec : ChangeSpec := { name := "fnExactSymbolValid", fn := fun _ => fun
  | [d1, d2] => { results := [.lit (.bool true)], args := [d1, d2] }
  | _ => none }
def fnExactSymbolValidRow : OpenClaim := { program := "ytdbedkjnoppkmaa", sum := "698d2d6d6d2e198e405f6ec2ea00dfc4869d8ad79035a1b6c50e9c7c86c187ab", func := "loop.example/objectlinker/laws.FnExactSymbolValid", spec := "fnExactSymbolValid", unfollowed := true, recurses := true, apart := false }
def FnExactSymbolValidSaid : Prop := fnExactSymbolValidRow.holds Try.pinned (OpenSpec.ofChange fnExactSymbolValidSpec)

/-- ITS FALSE NEIGHBOUR: 'it returns false'. Refute it at one input. -/
def fnExactSymbolValidWrong : ChangeSpec := { name := "fnExactSymbolValid", fn := fun _ => fun
  | [d1, d2] => { results := [.lit (.bool false)], args := [d1, d2] }
  | _ => none }
def FnExactSymbolValidWrongFalsely : Prop := fnExactSymbolValidRow.holds Try.pinned (OpenSpec.ofChange fnExactSymbolValidWrong)

/-- 'laws.FnExactObjectValid': WHATEVER THE INPUT: true; the input reads as it did. -/
def fnExactObjectValidSpec : ChangeSpec := { name := "fnExactObjectValid", fn := fun _ => fun
  | [d] => { results := [.lit (.bool true)], args := [d] }
  | _ => none }
def fnExactObjectValidRow : OpenClaim := { program := "ytdbedkjnoppkmaa", sum := "698d2d6d6d2e198e405f6ec2ea00dfc4869d8ad79035a1b6c50e9c7c86c187ab", func := "loop.example/objectlinker/laws.FnExactObjectValid", spec := "fnExactObjectValid", unfollowed := true, recurses := true, apart := false }
def FnExactObjectValidSaid : Prop := fnExactObjectValidRow.holds Try.pinned (OpenSpec.ofChange fnExactObjectValidSpec)

/-- ITS FALSE NEIGHBOUR: 'it returns false'. Refute it at one input. -/
def fnExactObjectValidWrong : ChangeSpec := { name := "fnExactObjectValid", fn := fun _ => fun
  | [d] => { results := [.lit (.bool false)], args := [d] }
  | _ => none }
def FnExactObjectValidWrongFalsely : Prop := fnExactObjectValidRow.holds Try.pinned (OpenSpec.ofChange fnExactObjectValidWrong)

/-- 'laws.FnExactNamesWanted': WHATEVER THE INPUT: true; the input reads as it did. -/
def fnExactNamesWantedSpec : ChangeSpec := { name := "fnExactNamesWanted", fn := fun _ => fun
  | [d] => { results := [.lit (.bool true)], args := [d] }
  | _ => none }
def fnExactNamesWantedRow : OpenClaim := { program := "ytdbedkjnoppkmaa", sum := "698d2d6d6d2e198e405f6ec2ea00dfc4869d8ad79035a1b6c50e9c7c86c187ab", func := "loop.example/objectlinker/laws.FnExactNamesWanted", spec := "fnExactNamesWanted", unfollowed := true, recurses := true, apart := false }
def FnExactNamesWantedSaid : Prop := fnExactNamesWantedRow.holds Try.pinned (OpenSpec.ofChange fnExactNamesWantedSpec)

/-- ITS FALSE NEIGHBOUR: 'it returns false'. Refute it at one input. -/
def fnExactNamesWantedWrong : ChangeSpec := { name := "fnExactNamesWanted", fn := fun _ => fun
  | [d] => { results := [.lit (.bool false)], args := [d] }
  | _ => none }
def FnExactNamesWantedWrongFalsely : Prop := fnExactNamesWantedRow.holds Try.pinned (OpenSpec.ofChange fnExactNamesWantedWrong)

/-- 'laws.FnExactNamesGiven': WHATEVER THE INPUT: true; the input reads as it did. -/
def fnExactNamesGivenSpec : ChangeSpec := { name := "fnExactNamesGiven", fn := fun _ => fun
  | [d] => { results := [.lit (.bool true)], args := [d] }
  | _ => none }
def fnExactNamesGivenRow : OpenClaim := { program := "ytdbedkjnoppkmaa", sum := "698d2d6d6d2e198e405f6ec2ea00dfc4869d8ad79035a1b6c50e9c7c86c187ab", func := "loop.example/objectlinker/laws.FnExactNamesGiven", spec := "fnExactNamesGiven", unfollowed := true, recurses := true, apart := false }
def FnExactNamesGivenSaid : Prop := fnExactNamesGivenRow.holds Try.pinned (OpenSpec.ofChange fnExactNamesGivenSpec)

/-- ITS FALSE NEIGHBOUR: 'it returns false'. Refute it at one input. -/
def fnExactNamesGivenWrong : ChangeSpec := { name := "fnExactNamesGiven", fn := fun _ => fun
  | [d] => { results := [.lit (.bool false)], args := [d] }
  | _ => none }
def FnExactNamesGivenWrongFalsely : Prop := fnExactNamesGivenRow.holds Try.pinned (OpenSpec.ofChange fnExactNamesGivenWrong)

/- THE SECOND FORM. 'bulk': how many values and letters a reading holds, each counted each time it is reached (what is shared counts as often as it is met; a slice's spare places count too). A statement '..UptoSaid' is the law's where the arguments, and the package variables that the reading takes, are together of bulk at most 1048576: NARROWER than '..Said'. Prove '..Said' where nothing that the law and all that it calls make is longer than what came in: it says more and counts as full. Else prove '..UptoSaid'. A law counts once. -/
mutual
def uptoBulk {H : Type} : DataW H → Nat
  | .lit (.string bytes) => bytes.length + 1
  | .lit _ => 1
  | .nil => 1
  | .ptr d => uptoBulk d + 1
  | .slice elems spare => uptoBulkAll elems + uptoBulkAll spare + 1
  | .agg parts => uptoBulkAll parts + 1
  | .iface _ d => uptoBulk d + 1
  | .map entries => uptoBulkEntries entries + 1
  | .held _ => 1
def uptoBulkAll {H : Type} : List (DataW H) → Nat
  | [] => 0
  | d :: r => uptoBulk d + uptoBulkAll r
def uptoBulkEntries {H : Type} : List (Lit × DataW H) → Nat
  | [] => 0
  | x :: r => uptoBulkEntry x + uptoBulkEntries r
def uptoBulkEntry {H : Type} : Lit × DataW H → Nat
  | (.string bytes, d) => bytes.length + uptoBulk d + 1
  | (_, d) => uptoBulk d + 1
 end
def uptoSmall : (H : Type) → List (DataW H) → Bool := fun _ ds => decide (uptoBulkAll ds ≤ 1048576)
def OpenSpec.upto (s : _root_.Go.ChangeSpec) : _root_.Go.OpenSpec := { _root_.Go.OpenSpec.ofChange s with cond := some uptoSmall }

/-- 'laws.FnSymbolValid', WHERE WHAT IT READS IS OF BULK AT MOST 1048576: true; the input reads as it did. -/
def fnSymbolValidUptoRow : OpenClaim := { program := "ytdbedkjnoppkmaa", sum := "698d2d6d6d2e198e405f6ec2ea00dfc4869d8ad79035a1b6c50e9c7c86c187ab", func := "loop.example/objectlinker/laws.FnSymbolValid", spec := "fnSymbolValid", unfollowed := true, recurses := true, apart := false, narrowed := true }
def FnSymbolValidUptoSaid : Prop := fnSymbolValidUptoRow.holds Try.pinned (OpenSpec.upto fnSymbolValidSpec)

/-- 'laws.FnObjectValid', WHERE WHAT IT READS IS OF BULK AT MOST 1048576: true; the input reads as it did. -/
def fnObjectValidUptoRow : OpenClaim := { program := "ytdbedkjnoppkmaa", sum := "698d2d6d6d2e198e405f6ec2ea00dfc4869d8ad79035a1b6c50e9c7c86c187ab", func := "loop.example/objectlinker/laws.FnObjectValid", spec := "fnObjectValid", unfollowed := true, recurses := true, apart := false, narrowed := true }
def FnObjectValidUptoSaid : Prop := fnObjectValidUptoRow.holds Try.pinned (OpenSpec.upto fnObjectValidSpec)

/-- 'laws.FnNamesWanted', WHERE WHAT IT READS IS OF BULK AT MOST 1048576: true; the input reads as it did. -/
def fnNamesWantedUptoRow : OpenClaim := { program := "ytdbedkjnoppkmaa", sum := "698d2d6d6d2e198e405f6ec2ea00dfc4869d8ad79035a1b6c50e9c7c86c187ab", func := "loop.example/objectlinker/laws.FnNamesWanted", spec := "fnNamesWanted", unfollowed := true, recurses := true, apart := false, narrowed := true }
def FnNamesWantedUptoSaid : Prop := fnNamesWantedUptoRow.holds Try.pinned (OpenSpec.upto fnNamesWantedSpec)

/-- 'laws.FnExactSymbolValid', WHERE WHAT IT READS IS OF BULK AT MOST 1048576: true; the input reads as it did. -/
def fnExactSymbolValidUptoRow : OpenClaim := { program := "ytdbedkjnoppkmaa", sum := "698d2d6d6d2e198e405f6ec2ea00dfc4869d8ad79035a1b6c50e9c7c86c187ab", func := "loop.example/objectlinker/laws.FnExactSymbolValid", spec := "fnExactSymbolValid", unfollowed := true, recurses := true, apart := false, narrowed := true }
def FnExactSymbolValidUptoSaid : Prop := fnExactSymbolValidUptoRow.holds Try.pinned (OpenSpec.upto fnExactSymbolValidSpec)

/-- 'laws.FnExactObjectValid', WHERE WHAT IT READS IS OF BULK AT MOST 1048576: true; the input reads as it did. -/
def fnExactObjectValidUptoRow : OpenClaim := { program := "ytdbedkjnoppkmaa", sum := "698d2d6d6d2e198e405f6ec2ea00dfc4869d8ad79035a1b6c50e9c7c86c187ab", func := "loop.example/objectlinker/laws.FnExactObjectValid", spec := "fnExactObjectValid", unfollowed := true, recurses := true, apart := false, narrowed := true }
def FnExactObjectValidUptoSaid : Prop := fnExactObjectValidUptoRow.holds Try.pinned (OpenSpec.upto fnExactObjectValidSpec)

/-- 'laws.FnExactNamesWanted', WHERE WHAT IT READS IS OF BULK AT MOST 1048576: true; the input reads as it did. -/
def fnExactNamesWantedUptoRow : OpenClaim := { program := "ytdbedkjnoppkmaa", sum := "698d2d6d6d2e198e405f6ec2ea00dfc4869d8ad79035a1b6c50e9c7c86c187ab", func := "loop.example/objectlinker/laws.FnExactNamesWanted", spec := "fnExactNamesWanted", unfollowed := true, recurses := true, apart := false, narrowed := true }
def FnExactNamesWantedUptoSaid : Prop := fnExactNamesWantedUptoRow.holds Try.pinned (OpenSpec.upto fnExactNamesWantedSpec)

/-- 'laws.FnExactNamesGiven', WHERE WHAT IT READS IS OF BULK AT MOST 1048576: true; the input reads as it did. -/
def fnExactNamesGivenUptoRow : OpenClaim := { program := "ytdbedkjnoppkmaa", sum := "698d2d6d6d2e198e405f6ec2ea00dfc4869d8ad79035a1b6c50e9c7c86c187ab", func := "loop.example/objectlinker/laws.FnExactNamesGiven", spec := "fnExactNamesGiven", unfollowed := true, recurses := true, apart := false, narrowed := true }
def FnExactNamesGivenUptoSaid : Prop := fnExactNamesGivenUptoRow.holds Try.pinned (OpenSpec.upto fnExactNamesGivenSpec)

end Rows
end Go.Proofs.Ytdbedkjnoppkmaa
