/-
  No cell of these rows narrows 'for every input' (looked for: loops, veiled, ifaces, maps, wideKeys, modest, calm, conditions, laid).
  DERIVED. THE GIVEN ROWS OF THIS SEAT. 2 by the template 'for every input the law returns true; each argument reads behind the call as it read before'; 0 by the template 'total and deterministic' (their statements: YtjpclpjhigongaaTotals.lean).
  GIVEN WITH THE SEED: the statements are not yours to turn. If you find one false, say at which input.
  Laid BY PROGRAM, IN A SANDBOX (cutbox-rows.mjs): the forced cells as the released guide's own fill.sh prints them over the translation ed84ded41c7b1884… (all of the seat's roots in one cut). By AI agents, Wed Nov 11 2026. No macro, syntax, notation, axiom, sorry.
-/
import Derived.Test.YtjpclpjhigongaaChecked
import GoSem.Claim
import GoSem.ClaimJoined
import GoSem.ClaimMapViews
import Derived.JoinedTies
import Derived.KernelRfl
namespace Go.Proofs.Ytjpclpjhigongaa
/- THE CELL 'sum', in the pinned program and in every row, IS THE sha256 OF THE DUMP (.gsa) THAT YtjpclpjhigongaaProg.lean LOADS. Nothing in Lean hashes anything: it is a label: what it is worth is what the hold of that sum in a sandbox is worth. -/
noncomputable def Try.pinned : Pinned := { name := "ytjpclpjhigongaa", sum := "ed84ded41c7b1884f0fb90be48e9a39950c1bb476249396daf4a46f9a2c8c128", checked := Try.checked }
namespace Rows
def none {H : Type} : Left H := { results := [], args := [] }

/-- 'laws.FnKeepSections': WHATEVER THE INPUT: true; the input reads as it did. -/
def fnKeepSectionsSpec : ChangeSpec := { name := "fnKeepSections", fn := fun _ => fun
  | [d] => { results := [.lit (.bool true)], args := [d] }
  | _ => none }
def fnKeepSectionsRow : OpenClaim := { program := "ytjpclpjhigongaa", sum := "ed84ded41c7b1884f0fb90be48e9a39950c1bb476249396daf4a46f9a2c8c128", func := "loop.example/objectlinker/laws.FnKeepSections", spec := "fnKeepSections", unfollowed := true, recurses := true, apart := false }
def FnKeepSectionsSaid : Prop := fnKeepSectionsRow.holds Try.pinned (OpenSpec.ofChange fnKeepSectionsSpec)

/-- ITS FALSE NEIGHBOUR: 'it returns false'. Refute it at one input. -/
def fnKeepSectionsWrong : ChangeSpec := { name := "fnKeepSections", fn := fun _ => fun
  | [d] => { results := [.lit (.bool false)], args := [d] }
  | _ => none }
def FnKeepSectionsWrongFalsely : Prop := fnKeepSectionsRow.holds Try.pinned (OpenSpec.ofChange fnKeepSectionsWrong)

/-- 'laws.FnExactKeepSections': WHATEVER THE INPUT: true; the input reads as it did. -/
def fnExactKeepSectionsSpec : ChangeSpec := { name := "fnExactKeepSections", fn := fun _ => fun
  | [d1, d2] => { results := [.lit (.bool true)], args := [d1, d2] }
  | _ => none }
def fnExactKeepSectionsRow : OpenClaim := { program := "ytjpclpjhigongaa", sum := "ed84ded41c7b1884f0fb90be48e9a39950c1bb476249396daf4a46f9a2c8c128", func := "loop.example/objectlinker/laws.FnExactKeepSections", spec := "fnExactKeepSections", unfollowed := true, recurses := true, apart := false }
def FnExactKeepSectionsSaid : Prop := fnExactKeepSectionsRow.holds Try.pinned (OpenSpec.ofChange fnExactKeepSectionsSpec)

/-- ITS FALSE NEIGHBOUR: 'it returns false'. Refute it at one input. -/
def fnExactKeepSectionsWrong : ChangeSpec := { name := "fnExactKeepSections", fn := fun _ => fun
  | [d1, d2] => { results := [.lit (.bool false)], args := [d1, d2] }
  | _ => none }
def FnExactKeepSectionsWrongFalsely : Prop := fnExactKeepSectionsRow.holds Try.pinned (OpenSpec.ofChange fnExactKeepSectionsWrong)

/- THE SECOND FORM. 'bulk': how many values and letters a reading holds, each counted each time it is reached (what is shared counts as often as it is met; a slice's spare places count too). A statement '..UptoSaid' is the law's where the arguments, and the package variables that the reading takes, are together of bulk at most 1048576: NARROWER than '..Said'. Prove '..Said' where nothing that the law and all that it calls make is longer than what came in: it says more and counts as full. Else prove '..UptoSaid'. A law counts once. -/
mutual
def uptoBulk {H : Type} : DataW H → Nat
  | .lit (.string bytes) => bytes.length + 1
  | .lit _ => 1
  | .nil => 1
  | .ptr d => uptoBulk d + 1
  | .slice elems spare => uptoBulkAll elems + uptoBulkAll spare + 1
  | .agg parts => uptoBulkAll parts + 1
  | .iface _ d => uptoBulk d + 1
  | .map entries => uptoBulkEntries entries + 1
  | .held _ => 1
def uptoBulkAll {H : Type} : List (DataW H) → Nat
  | [] => 0
  | d :: r => uptoBulk d + uptoBulkAll r
def uptoBulkEntries {H : Type} : List (Lit × DataW H) → Nat
  | [] => 0
  | x :: r => uptoBulkEntry x + uptoBulkEntries r
def uptoBulkEntry {H : Type} : Lit × DataW H → Nat
  | (.string bytes, d) => bytes.length + uptoBulk d + 1
  | (_, d) => uptoBulk d + 1
 end
def uptoSmall : (H : Type) → List (DataW H) → Bool := fun _ ds => decide (uptoBulkAll ds ≤ 1048576)
def OpenSpec.upto (s : _root_.Go.ChangeSpec) : _root_.Go.OpenSpec := { _root_.Go.OpenSpec.ofChange s with cond := some uptoSmall }

/-- 'laws.FnKeepSections', WHERE WHAT IT READS IS OF BULK AT MOST 1048576: true; the input reads as it did. -/
def fnKeepSectionsUptoRow : OpenClaim := { program := "ytjpclpjhigongaa", sum := "ed84ded41c7b1884f0fb90be48e9a39950c1bb476249396daf4a46f9a2c8c128", func := "loop.example/objectlinker/laws.FnKeepSections", spec := "fnKeepSections", unfollowed := true, recurses := true, apart := false, narrowed := true }
def FnKeepSectionsUptoSaid : Prop := fnKeepSectionsUptoRow.holds Try.pinned (OpenSpec.upto fnKeepSectionsSpec)

/-- 'laws.FnExactKeepSections', WHERE WHAT IT READS IS OF BULK AT MOST 1048576: true; the input reads as it did. -/
def fnExactKeepSectionsUptoRow : OpenClaim := { program := "ytjpclpjhigongaa", sum := "ed84ded41c7b1884f0fb90be48e9a39950c1bb476249396daf4a46f9a2c8c128", func := "loop.example/objectlinker/laws.FnExactKeepSections", spec := "fnExactKeepSections", unfollowed := true, recurses := true, apart := false, narrowed := true }
def FnExactKeepSectionsUptoSaid : Prop := fnExactKeepSectionsUptoRow.holds Try.pinned (OpenSpec.upto fnExactKeepSectionsSpec)

end Rows
end Go.Proofs.Ytjpclpjhigongaa
