/-
  NARROWER THAN 'FOR EVERY INPUT', by the rows' own cells (each row's printed sentence says how): FnWriteObject: ifaces, laid · FnReadObject: ifaces, laid · FnExactReadObject: ifaces, laid.
  DERIVED. THE GIVEN ROWS OF THIS SEAT. 3 by the template 'for every input the law returns true; each argument reads behind the call as it read before'; 0 by the template 'total and deterministic' (their statements: YtjcfjpoodahlfaaGreatDoorTotals.lean).
  GIVEN WITH THE SEED: the statements are not yours to turn. If you find one false, say at which input.
  Laid BY PROGRAM, IN A SANDBOX (cutbox-rows.mjs): the forced cells as the released guide's own fill.sh prints them over the translation 673eb2d1bebfb322… (all of the seat's roots in one cut). By AI agents, Wed Nov 11 2026. No macro, syntax, notation, axiom, sorry.
-/
import Derived.Test.YtjcfjpoodahlfaaGreatDoorChecked
import GoSem.Claim
import GoSem.ClaimJoined
import GoSem.ClaimMapViews
import Derived.JoinedTies
import Derived.KernelRfl
namespace Go.Proofs.YtjcfjpoodahlfaaGreatDoor
/- THE CELL 'sum', in the pinned program and in every row, IS THE sha256 OF THE DUMP (.gsa) THAT YtjcfjpoodahlfaaGreatDoorProg.lean LOADS. Nothing in Lean hashes anything: it is a label: what it is worth is what the hold of that sum in a sandbox is worth. -/
noncomputable def Tryz.pinned : Pinned := { name := "ytjcfjpoodahlfaagreatdoor", sum := "673eb2d1bebfb32270a2215298f63be0acefddc971bd1f9a758b8530b4e2fbbb", checked := Tryz.checked }
namespace Rows
def none {H : Type} : Left H := { results := [], args := [] }

/- WHAT THE LISTED PACKAGE-LEVEL VARIABLES READ AS WHEN THE CALL BEGINS. Each datum BY PROGRAM (the guide's laid-datum.mjs) off the statement by which the dump's own 'gosem.cut.vars' lays the variable. In a bare row this is a premise. The card (YtjcfjpoodahlfaaGreatDoorCards.lean) ties it to the program's text. -/
def laid_loop_example_objectlinker_impl_errHeader {H : Type} : DataW H := .iface "*errors.errorString" (.ptr (.agg [.lit (.string [116, 104, 101, 114, 101, 32, 105, 115, 32, 110, 111, 32, 104, 101, 97, 100, 101, 114])]))
def laid_loop_example_objectlinker_impl_errShort {H : Type} : DataW H := .iface "*errors.errorString" (.ptr (.agg [.lit (.string [98, 121, 116, 101, 115, 32, 97, 114, 101, 32, 109, 105, 115, 115, 105, 110, 103])]))
def laid_loop_example_objectlinker_impl_errName {H : Type} : DataW H := .iface "*errors.errorString" (.ptr (.agg [.lit (.string [116, 104, 101, 114, 101, 32, 105, 115, 32, 110, 111, 32, 110, 97, 109, 101, 32, 97, 116, 32, 105, 116, 115, 32, 112, 108, 97, 99, 101])]))
def laid_loop_example_objectlinker_impl_errOther {H : Type} : DataW H := .iface "*errors.errorString" (.ptr (.agg [.lit (.string [116, 104, 101, 32, 111, 98, 106, 101, 99, 116, 32, 105, 115, 32, 119, 114, 105, 116, 116, 101, 110, 32, 97, 115, 32, 111, 116, 104, 101, 114, 32, 98, 121, 116, 101, 115])]))

/-- 'laws.FnWriteObject': WHATEVER THE INPUT: true; the input reads as it did. -/
def fnWriteObjectSpec : ChangeSpec := { name := "fnWriteObject", vars := ["loop.example/objectlinker/impl.errHeader", "loop.example/objectlinker/impl.errOther", "loop.example/objectlinker/impl.errShort", "loop.example/objectlinker/impl.errName"], fn := fun _ => fun
  | [d, g1, g2, g3, g4] => { results := [.lit (.bool true)], args := [d], vars := [g1, g2, g3, g4] }
  | _ => none }
def fnWriteObjectRow : OpenClaim := { program := "ytjcfjpoodahlfaagreatdoor", sum := "673eb2d1bebfb32270a2215298f63be0acefddc971bd1f9a758b8530b4e2fbbb", func := "loop.example/objectlinker/laws.FnWriteObject", spec := "fnWriteObject", inPlace := ["internal/bytealg.IndexByte"], unfollowed := true, recurses := true, named := ["loop.example/objectlinker/impl.errHeader", "loop.example/objectlinker/impl.errOther", "loop.example/objectlinker/impl.errShort", "loop.example/objectlinker/impl.errName"], ifaces := true, apart := false, laid := [("loop.example/objectlinker/impl.errHeader", laid_loop_example_objectlinker_impl_errHeader), ("loop.example/objectlinker/impl.errShort", laid_loop_example_objectlinker_impl_errShort), ("loop.example/objectlinker/impl.errName", laid_loop_example_objectlinker_impl_errName), ("loop.example/objectlinker/impl.errOther", laid_loop_example_objectlinker_impl_errOther)] }
def FnWriteObjectSaid : Prop := fnWriteObjectRow.holds Tryz.pinned (OpenSpec.ofChange fnWriteObjectSpec)

/-- ITS FALSE NEIGHBOUR: 'it returns false'. Refute it at one input. -/
def fnWriteObjectWrong : ChangeSpec := { name := "fnWriteObject", vars := ["loop.example/objectlinker/impl.errHeader", "loop.example/objectlinker/impl.errOther", "loop.example/objectlinker/impl.errShort", "loop.example/objectlinker/impl.errName"], fn := fun _ => fun
  | [d, g1, g2, g3, g4] => { results := [.lit (.bool false)], args := [d], vars := [g1, g2, g3, g4] }
  | _ => none }
def FnWriteObjectWrongFalsely : Prop := fnWriteObjectRow.holds Tryz.pinned (OpenSpec.ofChange fnWriteObjectWrong)

/-- 'laws.FnReadObject': WHATEVER THE INPUT: true; the input reads as it did. -/
def fnReadObjectSpec : ChangeSpec := { name := "fnReadObject", vars := ["loop.example/objectlinker/impl.errHeader", "loop.example/objectlinker/impl.errOther", "loop.example/objectlinker/impl.errShort", "loop.example/objectlinker/impl.errName"], fn := fun _ => fun
  | [d, g1, g2, g3, g4] => { results := [.lit (.bool true)], args := [d], vars := [g1, g2, g3, g4] }
  | _ => none }
def fnReadObjectRow : OpenClaim := { program := "ytjcfjpoodahlfaagreatdoor", sum := "673eb2d1bebfb32270a2215298f63be0acefddc971bd1f9a758b8530b4e2fbbb", func := "loop.example/objectlinker/laws.FnReadObject", spec := "fnReadObject", inPlace := ["internal/bytealg.IndexByte"], unfollowed := true, recurses := true, named := ["loop.example/objectlinker/impl.errHeader", "loop.example/objectlinker/impl.errOther", "loop.example/objectlinker/impl.errShort", "loop.example/objectlinker/impl.errName"], ifaces := true, apart := false, laid := [("loop.example/objectlinker/impl.errHeader", laid_loop_example_objectlinker_impl_errHeader), ("loop.example/objectlinker/impl.errShort", laid_loop_example_objectlinker_impl_errShort), ("loop.example/objectlinker/impl.errName", laid_loop_example_objectlinker_impl_errName), ("loop.example/objectlinker/impl.errOther", laid_loop_example_objectlinker_impl_errOther)] }
def FnReadObjectSaid : Prop := fnReadObjectRow.holds Tryz.pinned (OpenSpec.ofChange fnReadObjectSpec)

/-- ITS FALSE NEIGHBOUR: 'it returns false'. Refute it at one input. -/
def fnReadObjectWrong : ChangeSpec := { name := "fnReadObject", vars := ["loop.example/objectlinker/impl.errHeader", "loop.example/objectlinker/impl.errOther", "loop.example/objectlinker/impl.errShort", "loop.example/objectlinker/impl.errName"], fn := fun _ => fun
  | [d, g1, g2, g3, g4] => { results := [.lit (.bool false)], args := [d], vars := [g1, g2, g3, g4] }
  | _ => none }
def FnReadObjectWrongFalsely : Prop := fnReadObjectRow.holds Tryz.pinned (OpenSpec.ofChange fnReadObjectWrong)

/-- 'laws.FnExactReadObject': WHATEVER THE INPUT: true; the input reads as it did. -/
def fnExactReadObjectSpec : ChangeSpec := { name := "fnExactReadObject", vars := ["loop.example/objectlinker/impl.errHeader", "loop.example/objectlinker/impl.errOther", "loop.example/objectlinker/impl.errShort", "loop.example/objectlinker/impl.errName"], fn := fun _ => fun
  | [d, g1, g2, g3, g4] => { results := [.lit (.bool true)], args := [d], vars := [g1, g2, g3, g4] }
  | _ => none }
def fnExactReadObjectRow : OpenClaim := { program := "ytjcfjpoodahlfaagreatdoor", sum := "673eb2d1bebfb32270a2215298f63be0acefddc971bd1f9a758b8530b4e2fbbb", func := "loop.example/objectlinker/laws.FnExactReadObject", spec := "fnExactReadObject", inPlace := ["internal/bytealg.IndexByte"], unfollowed := true, recurses := true, named := ["loop.example/objectlinker/impl.errHeader", "loop.example/objectlinker/impl.errOther", "loop.example/objectlinker/impl.errShort", "loop.example/objectlinker/impl.errName"], ifaces := true, apart := false, laid := [("loop.example/objectlinker/impl.errHeader", laid_loop_example_objectlinker_impl_errHeader), ("loop.example/objectlinker/impl.errShort", laid_loop_example_objectlinker_impl_errShort), ("loop.example/objectlinker/impl.errName", laid_loop_example_objectlinker_impl_errName), ("loop.example/objectlinker/impl.errOther", laid_loop_example_objectlinker_impl_errOther)] }
def FnExactReadObjectSaid : Prop := fnExactReadObjectRow.holds Tryz.pinned (OpenSpec.ofChange fnExactReadObjectSpec)

/-- ITS FALSE NEIGHBOUR: 'it returns false'. Refute it at one input. -/
def fnExactReadObjectWrong : ChangeSpec := { name := "fnExactReadObject", vars := ["loop.example/objectlinker/impl.errHeader", "loop.example/objectlinker/impl.errOther", "loop.example/objectlinker/impl.errShort", "loop.example/objectlinker/impl.errName"], fn := fun _ => fun
  | [d, g1, g2, g3, g4] => { results := [.lit (.bool false)], args := [d], vars := [g1, g2, g3, g4] }
  | _ => none }
def FnExactReadObjectWrongFalsely : Prop := fnExactReadObjectRow.holds Tryz.pinned (OpenSpec.ofChange fnExactReadObjectWrong)

/- THE SECOND FORM. 'bulk': how many values and letters a reading holds, each counted each time it is reached (what is shared counts as often as it is met; a slice's spare places count too). A statement '..UptoSaid' is the law's where the arguments, and the package variables that the reading takes, are together of bulk at most 1048576: NARROWER than '..Said'. Prove '..Said' where nothing that the law and all that it calls make is longer than what came in: it says more and counts as full. Else prove '..UptoSaid'. A law counts once. -/
mutual
def uptoBulk {H : Type} : DataW H → Nat
  | .lit (.string bytes) => bytes.length + 1
  | .lit _ => 1
  | .nil => 1
  | .ptr d => uptoBulk d + 1
  | .slice elems spare => uptoBulkAll elems + uptoBulkAll spare + 1
  | .agg parts => uptoBulkAll parts + 1
  | .iface _ d => uptoBulk d + 1
  | .map entries => uptoBulkEntries entries + 1
  | .held _ => 1
def uptoBulkAll {H : Type} : List (DataW H) → Nat
  | [] => 0
  | d :: r => uptoBulk d + uptoBulkAll r
def uptoBulkEntries {H : Type} : List (Lit × DataW H) → Nat
  | [] => 0
  | x :: r => uptoBulkEntry x + uptoBulkEntries r
def uptoBulkEntry {H : Type} : Lit × DataW H → Nat
  | (.string bytes, d) => bytes.length + uptoBulk d + 1
  | (_, d) => uptoBulk d + 1
 end
def uptoSmall : (H : Type) → List (DataW H) → Bool := fun _ ds => decide (uptoBulkAll ds ≤ 1048576)
def OpenSpec.upto (s : _root_.Go.ChangeSpec) : _root_.Go.OpenSpec := { _root_.Go.OpenSpec.ofChange s with cond := some uptoSmall }

/-- 'laws.FnWriteObject', WHERE WHAT IT READS IS OF BULK AT MOST 1048576: true; the input reads as it did. -/
def fnWriteObjectUptoRow : OpenClaim := { program := "ytjcfjpoodahlfaagreatdoor", sum := "673eb2d1bebfb32270a2215298f63be0acefddc971bd1f9a758b8530b4e2fbbb", func := "loop.example/objectlinker/laws.FnWriteObject", spec := "fnWriteObject", inPlace := ["internal/bytealg.IndexByte"], unfollowed := true, recurses := true, named := ["loop.example/objectlinker/impl.errHeader", "loop.example/objectlinker/impl.errOther", "loop.example/objectlinker/impl.errShort", "loop.example/objectlinker/impl.errName"], ifaces := true, apart := false, laid := [("loop.example/objectlinker/impl.errHeader", laid_loop_example_objectlinker_impl_errHeader), ("loop.example/objectlinker/impl.errShort", laid_loop_example_objectlinker_impl_errShort), ("loop.example/objectlinker/impl.errName", laid_loop_example_objectlinker_impl_errName), ("loop.example/objectlinker/impl.errOther", laid_loop_example_objectlinker_impl_errOther)], narrowed := true }
def FnWriteObjectUptoSaid : Prop := fnWriteObjectUptoRow.holds Tryz.pinned (OpenSpec.upto fnWriteObjectSpec)

/-- 'laws.FnReadObject', WHERE WHAT IT READS IS OF BULK AT MOST 1048576: true; the input reads as it did. -/
def fnReadObjectUptoRow : OpenClaim := { program := "ytjcfjpoodahlfaagreatdoor", sum := "673eb2d1bebfb32270a2215298f63be0acefddc971bd1f9a758b8530b4e2fbbb", func := "loop.example/objectlinker/laws.FnReadObject", spec := "fnReadObject", inPlace := ["internal/bytealg.IndexByte"], unfollowed := true, recurses := true, named := ["loop.example/objectlinker/impl.errHeader", "loop.example/objectlinker/impl.errOther", "loop.example/objectlinker/impl.errShort", "loop.example/objectlinker/impl.errName"], ifaces := true, apart := false, laid := [("loop.example/objectlinker/impl.errHeader", laid_loop_example_objectlinker_impl_errHeader), ("loop.example/objectlinker/impl.errShort", laid_loop_example_objectlinker_impl_errShort), ("loop.example/objectlinker/impl.errName", laid_loop_example_objectlinker_impl_errName), ("loop.example/objectlinker/impl.errOther", laid_loop_example_objectlinker_impl_errOther)], narrowed := true }
def FnReadObjectUptoSaid : Prop := fnReadObjectUptoRow.holds Tryz.pinned (OpenSpec.upto fnReadObjectSpec)

/-- 'laws.FnExactReadObject', WHERE WHAT IT READS IS OF BULK AT MOST 1048576: true; the input reads as it did. -/
def fnExactReadObjectUptoRow : OpenClaim := { program := "ytjcfjpoodahlfaagreatdoor", sum := "673eb2d1bebfb32270a2215298f63be0acefddc971bd1f9a758b8530b4e2fbbb", func := "loop.example/objectlinker/laws.FnExactReadObject", spec := "fnExactReadObject", inPlace := ["internal/bytealg.IndexByte"], unfollowed := true, recurses := true, named := ["loop.example/objectlinker/impl.errHeader", "loop.example/objectlinker/impl.errOther", "loop.example/objectlinker/impl.errShort", "loop.example/objectlinker/impl.errName"], ifaces := true, apart := false, laid := [("loop.example/objectlinker/impl.errHeader", laid_loop_example_objectlinker_impl_errHeader), ("loop.example/objectlinker/impl.errShort", laid_loop_example_objectlinker_impl_errShort), ("loop.example/objectlinker/impl.errName", laid_loop_example_objectlinker_impl_errName), ("loop.example/objectlinker/impl.errOther", laid_loop_example_objectlinker_impl_errOther)], narrowed := true }
def FnExactReadObjectUptoSaid : Prop := fnExactReadObjectUptoRow.holds Tryz.pinned (OpenSpec.upto fnExactReadObjectSpec)

end Rows
end Go.Proofs.YtjcfjpoodahlfaaGreatDoor
