/-
  No cell of these rows narrows 'for every input' (looked for: loops, veiled, ifaces, maps, wideKeys, modest, calm, conditions, laid).
  DERIVED. THE GIVEN ROWS OF THIS SEAT. 9 by the template 'for every input the law returns true; each argument reads behind the call as it read before'; 0 by the template 'total and deterministic' (their statements: YtdaddhliedocaaaTotals.lean).
  GIVEN WITH THE SEED: the statements are not yours to turn. If you find one false, say at which input.
  Laid BY PROGRAM, IN A SANDBOX (cutbox-rows.mjs): the forced cells as the released guide's own fill.sh prints them over the translation c543415bf3be5ee4… (all of the seat's roots in one cut). By AI agents, Wed Nov 11 2026. No macro, syntax, notation, axiom, sorry.
-/
import Derived.Test.YtdaddhliedocaaaChecked
import GoSem.Claim
import GoSem.ClaimJoined
import GoSem.ClaimMapViews
import Derived.JoinedTies
import Derived.KernelRfl
namespace Go.Proofs.Ytdaddhliedocaaa
/- THE CELL 'sum', in the pinned program and in every row, IS THE sha256 OF THE DUMP (.gsa) THAT YtdaddhliedocaaaProg.lean LOADS. Nothing in Lean hashes anything: it is a label: what it is worth is what the hold of that sum in a sandbox is worth. -/
noncomputable def Try.pinned : Pinned := { name := "ytdaddhliedocaaa", sum := "c543415bf3be5ee4ca0fa55f07d046426d025329bf6be584b8e914116d913acd", checked := Try.checked }
namespace Rows
def none {H : Type} : Left H := { results := [], args := [] }

/-- 'laws.FnNameValid': WHATEVER THE INPUT: true; the input reads as it did. -/
def fnNameValidSpec : ChangeSpec := { name := "fnNameValid", fn := fun _ => fun
  | [d] => { results := [.lit (.bool true)], args := [d] }
  | _ => none }
def fnNameValidRow : OpenClaim := { program := "ytdaddhliedocaaa", sum := "c543415bf3be5ee4ca0fa55f07d046426d025329bf6be584b8e914116d913acd", func := "loop.example/objectlinker/laws.FnNameValid", spec := "fnNameValid", apart := false }
def FnNameValidSaid : Prop := fnNameValidRow.holds Try.pinned (OpenSpec.ofChange fnNameValidSpec)

/-- ITS FALSE NEIGHBOUR: 'it returns false'. Refute it at one input. -/
def fnNameValidWrong : ChangeSpec := { name := "fnNameValid", fn := fun _ => fun
  | [d] => { results := [.lit (.bool false)], args := [d] }
  | _ => none }
def FnNameValidWrongFalsely : Prop := fnNameValidRow.holds Try.pinned (OpenSpec.ofChange fnNameValidWrong)

/-- 'laws.FnNameTable': WHATEVER THE INPUT: true; the input reads as it did. -/
def fnNameTableSpec : ChangeSpec := { name := "fnNameTable", fn := fun _ => fun
  | [d] => { results := [.lit (.bool true)], args := [d] }
  | _ => none }
def fnNameTableRow : OpenClaim := { program := "ytdaddhliedocaaa", sum := "c543415bf3be5ee4ca0fa55f07d046426d025329bf6be584b8e914116d913acd", func := "loop.example/objectlinker/laws.FnNameTable", spec := "fnNameTable", inPlace := ["internal/bytealg.IndexByte"], recurses := true, apart := false }
def FnNameTableSaid : Prop := fnNameTableRow.holds Try.pinned (OpenSpec.ofChange fnNameTableSpec)

/-- ITS FALSE NEIGHBOUR: 'it returns false'. Refute it at one input. -/
def fnNameTableWrong : ChangeSpec := { name := "fnNameTable", fn := fun _ => fun
  | [d] => { results := [.lit (.bool false)], args := [d] }
  | _ => none }
def FnNameTableWrongFalsely : Prop := fnNameTableRow.holds Try.pinned (OpenSpec.ofChange fnNameTableWrong)

/-- 'laws.FnNameAt': WHATEVER THE INPUT: true; the input reads as it did. -/
def fnNameAtSpec : ChangeSpec := { name := "fnNameAt", fn := fun _ => fun
  | [d] => { results := [.lit (.bool true)], args := [d] }
  | _ => none }
def fnNameAtRow : OpenClaim := { program := "ytdaddhliedocaaa", sum := "c543415bf3be5ee4ca0fa55f07d046426d025329bf6be584b8e914116d913acd", func := "loop.example/objectlinker/laws.FnNameAt", spec := "fnNameAt", inPlace := ["internal/bytealg.IndexByte"], apart := false }
def FnNameAtSaid : Prop := fnNameAtRow.holds Try.pinned (OpenSpec.ofChange fnNameAtSpec)

/-- ITS FALSE NEIGHBOUR: 'it returns false'. Refute it at one input. -/
def fnNameAtWrong : ChangeSpec := { name := "fnNameAt", fn := fun _ => fun
  | [d] => { results := [.lit (.bool false)], args := [d] }
  | _ => none }
def FnNameAtWrongFalsely : Prop := fnNameAtRow.holds Try.pinned (OpenSpec.ofChange fnNameAtWrong)

/-- 'laws.FnPlaceOf': WHATEVER THE INPUT: true; the input reads as it did. -/
def fnPlaceOfSpec : ChangeSpec := { name := "fnPlaceOf", fn := fun _ => fun
  | [d] => { results := [.lit (.bool true)], args := [d] }
  | _ => none }
def fnPlaceOfRow : OpenClaim := { program := "ytdaddhliedocaaa", sum := "c543415bf3be5ee4ca0fa55f07d046426d025329bf6be584b8e914116d913acd", func := "loop.example/objectlinker/laws.FnPlaceOf", spec := "fnPlaceOf", inPlace := ["internal/bytealg.IndexByte"], apart := false }
def FnPlaceOfSaid : Prop := fnPlaceOfRow.holds Try.pinned (OpenSpec.ofChange fnPlaceOfSpec)

/-- ITS FALSE NEIGHBOUR: 'it returns false'. Refute it at one input. -/
def fnPlaceOfWrong : ChangeSpec := { name := "fnPlaceOf", fn := fun _ => fun
  | [d] => { results := [.lit (.bool false)], args := [d] }
  | _ => none }
def FnPlaceOfWrongFalsely : Prop := fnPlaceOfRow.holds Try.pinned (OpenSpec.ofChange fnPlaceOfWrong)

/-- 'laws.FnTableShort': WHATEVER THE INPUT: true; the input reads as it did. -/
def fnTableShortSpec : ChangeSpec := { name := "fnTableShort", fn := fun _ => fun
  | [d] => { results := [.lit (.bool true)], args := [d] }
  | _ => none }
def fnTableShortRow : OpenClaim := { program := "ytdaddhliedocaaa", sum := "c543415bf3be5ee4ca0fa55f07d046426d025329bf6be584b8e914116d913acd", func := "loop.example/objectlinker/laws.FnTableShort", spec := "fnTableShort", recurses := true, apart := false }
def FnTableShortSaid : Prop := fnTableShortRow.holds Try.pinned (OpenSpec.ofChange fnTableShortSpec)

/-- ITS FALSE NEIGHBOUR: 'it returns false'. Refute it at one input. -/
def fnTableShortWrong : ChangeSpec := { name := "fnTableShort", fn := fun _ => fun
  | [d] => { results := [.lit (.bool false)], args := [d] }
  | _ => none }
def FnTableShortWrongFalsely : Prop := fnTableShortRow.holds Try.pinned (OpenSpec.ofChange fnTableShortWrong)

/-- 'laws.FnExactNameValid': WHATEVER THE INPUT: true; the input reads as it did. -/
def fnExactNameValidSpec : ChangeSpec := { name := "fnExactNameValid", fn := fun _ => fun
  | [d] => { results := [.lit (.bool true)], args := [d] }
  | _ => none }
def fnExactNameValidRow : OpenClaim := { program := "ytdaddhliedocaaa", sum := "c543415bf3be5ee4ca0fa55f07d046426d025329bf6be584b8e914116d913acd", func := "loop.example/objectlinker/laws.FnExactNameValid", spec := "fnExactNameValid", apart := false }
def FnExactNameValidSaid : Prop := fnExactNameValidRow.holds Try.pinned (OpenSpec.ofChange fnExactNameValidSpec)

/-- ITS FALSE NEIGHBOUR: 'it returns false'. Refute it at one input. -/
def fnExactNameValidWrong : ChangeSpec := { name := "fnExactNameValid", fn := fun _ => fun
  | [d] => { results := [.lit (.bool false)], args := [d] }
  | _ => none }
def FnExactNameValidWrongFalsely : Prop := fnExactNameValidRow.holds Try.pinned (OpenSpec.ofChange fnExactNameValidWrong)

/-- 'laws.FnExactNameTable': WHATEVER THE INPUT: true; the input reads as it did. -/
def fnExactNameTableSpec : ChangeSpec := { name := "fnExactNameTable", fn := fun _ => fun
  | [d] => { results := [.lit (.bool true)], args := [d] }
  | _ => none }
def fnExactNameTableRow : OpenClaim := { program := "ytdaddhliedocaaa", sum := "c543415bf3be5ee4ca0fa55f07d046426d025329bf6be584b8e914116d913acd", func := "loop.example/objectlinker/laws.FnExactNameTable", spec := "fnExactNameTable", recurses := true, apart := false }
def FnExactNameTableSaid : Prop := fnExactNameTableRow.holds Try.pinned (OpenSpec.ofChange fnExactNameTableSpec)

/-- ITS FALSE NEIGHBOUR: 'it returns false'. Refute it at one input. -/
def fnExactNameTableWrong : ChangeSpec := { name := "fnExactNameTable", fn := fun _ => fun
  | [d] => { results := [.lit (.bool false)], args := [d] }
  | _ => none }
def FnExactNameTableWrongFalsely : Prop := fnExactNameTableRow.holds Try.pinned (OpenSpec.ofChange fnExactNameTableWrong)

/-- 'laws.FnExactNameAt': WHATEVER THE INPUT: true; the input reads as it did. -/
def fnExactNameAtSpec : ChangeSpec := { name := "fnExactNameAt", fn := fun _ => fun
  | [d1, d2] => { results := [.lit (.bool true)], args := [d1, d2] }
  | _ => none }
def fnExactNameAtRow : OpenClaim := { program := "ytdaddhliedocaaa", sum := "c543415bf3be5ee4ca0fa55f07d046426d025329bf6be584b8e914116d913acd", func := "loop.example/objectlinker/laws.FnExactNameAt", spec := "fnExactNameAt", inPlace := ["internal/bytealg.IndexByte"], apart := false }
def FnExactNameAtSaid : Prop := fnExactNameAtRow.holds Try.pinned (OpenSpec.ofChange fnExactNameAtSpec)

/-- ITS FALSE NEIGHBOUR: 'it returns false'. Refute it at one input. -/
def fnExactNameAtWrong : ChangeSpec := { name := "fnExactNameAt", fn := fun _ => fun
  | [d1, d2] => { results := [.lit (.bool false)], args := [d1, d2] }
  | _ => none }
def FnExactNameAtWrongFalsely : Prop := fnExactNameAtRow.holds Try.pinned (OpenSpec.ofChange fnExactNameAtWrong)

/-- 'laws.FnExactPlaceOf': WHATEVER THE INPUT: true; the input reads as it did. -/
def fnExactPlaceOfSpec : ChangeSpec := { name := "fnExactPlaceOf", fn := fun _ => fun
  | [d1, d2] => { results := [.lit (.bool true)], args := [d1, d2] }
  | _ => none }
def fnExactPlaceOfRow : OpenClaim := { program := "ytdaddhliedocaaa", sum := "c543415bf3be5ee4ca0fa55f07d046426d025329bf6be584b8e914116d913acd", func := "loop.example/objectlinker/laws.FnExactPlaceOf", spec := "fnExactPlaceOf", apart := false }
def FnExactPlaceOfSaid : Prop := fnExactPlaceOfRow.holds Try.pinned (OpenSpec.ofChange fnExactPlaceOfSpec)

/-- ITS FALSE NEIGHBOUR: 'it returns false'. Refute it at one input. -/
def fnExactPlaceOfWrong : ChangeSpec := { name := "fnExactPlaceOf", fn := fun _ => fun
  | [d1, d2] => { results := [.lit (.bool false)], args := [d1, d2] }
  | _ => none }
def FnExactPlaceOfWrongFalsely : Prop := fnExactPlaceOfRow.holds Try.pinned (OpenSpec.ofChange fnExactPlaceOfWrong)

/- THE SECOND FORM. 'bulk': how many values and letters a reading holds, each counted each time it is reached (what is shared counts as often as it is met; a slice's spare places count too). A statement '..UptoSaid' is the law's where the arguments, and the package variables that the reading takes, are together of bulk at most 1048576: NARROWER than '..Said'. Prove '..Said' where nothing that the law and all that it calls make is longer than what came in: it says more and counts as full. Else prove '..UptoSaid'. A law counts once. -/
mutual
def uptoBulk {H : Type} : DataW H → Nat
  | .lit (.string bytes) => bytes.length + 1
  | .lit _ => 1
  | .nil => 1
  | .ptr d => uptoBulk d + 1
  | .slice elems spare => uptoBulkAll elems + uptoBulkAll spare + 1
  | .agg parts => uptoBulkAll parts + 1
  | .iface _ d => uptoBulk d + 1
  | .map entries => uptoBulkEntries entries + 1
  | .held _ => 1
def uptoBulkAll {H : Type} : List (DataW H) → Nat
  | [] => 0
  | d :: r => uptoBulk d + uptoBulkAll r
def uptoBulkEntries {H : Type} : List (Lit × DataW H) → Nat
  | [] => 0
  | x :: r => uptoBulkEntry x + uptoBulkEntries r
def uptoBulkEntry {H : Type} : Lit × DataW H → Nat
  | (.string bytes, d) => bytes.length + uptoBulk d + 1
  | (_, d) => uptoBulk d + 1
 end
def uptoSmall : (H : Type) → List (DataW H) → Bool := fun _ ds => decide (uptoBulkAll ds ≤ 1048576)
def OpenSpec.upto (s : _root_.Go.ChangeSpec) : _root_.Go.OpenSpec := { _root_.Go.OpenSpec.ofChange s with cond := some uptoSmall }

/-- 'laws.FnNameValid', WHERE WHAT IT READS IS OF BULK AT MOST 1048576: true; the input reads as it did. -/
def fnNameValidUptoRow : OpenClaim := { program := "ytdaddhliedocaaa", sum := "c543415bf3be5ee4ca0fa55f07d046426d025329bf6be584b8e914116d913acd", func := "loop.example/objectlinker/laws.FnNameValid", spec := "fnNameValid", apart := false, narrowed := true }
def FnNameValidUptoSaid : Prop := fnNameValidUptoRow.holds Try.pinned (OpenSpec.upto fnNameValidSpec)

/-- 'laws.FnNameTable', WHERE WHAT IT READS IS OF BULK AT MOST 1048576: true; the input reads as it did. -/
def fnNameTableUptoRow : OpenClaim := { program := "ytdaddhliedocaaa", sum := "c543415bf3be5ee4ca0fa55f07d046426d025329bf6be584b8e914116d913acd", func := "loop.example/objectlinker/laws.FnNameTable", spec := "fnNameTable", inPlace := ["internal/bytealg.IndexByte"], recurses := true, apart := false, narrowed := true }
def FnNameTableUptoSaid : Prop := fnNameTableUptoRow.holds Try.pinned (OpenSpec.upto fnNameTableSpec)

/-- 'laws.FnNameAt', WHERE WHAT IT READS IS OF BULK AT MOST 1048576: true; the input reads as it did. -/
def fnNameAtUptoRow : OpenClaim := { program := "ytdaddhliedocaaa", sum := "c543415bf3be5ee4ca0fa55f07d046426d025329bf6be584b8e914116d913acd", func := "loop.example/objectlinker/laws.FnNameAt", spec := "fnNameAt", inPlace := ["internal/bytealg.IndexByte"], apart := false, narrowed := true }
def FnNameAtUptoSaid : Prop := fnNameAtUptoRow.holds Try.pinned (OpenSpec.upto fnNameAtSpec)

/-- 'laws.FnPlaceOf', WHERE WHAT IT READS IS OF BULK AT MOST 1048576: true; the input reads as it did. -/
def fnPlaceOfUptoRow : OpenClaim := { program := "ytdaddhliedocaaa", sum := "c543415bf3be5ee4ca0fa55f07d046426d025329bf6be584b8e914116d913acd", func := "loop.example/objectlinker/laws.FnPlaceOf", spec := "fnPlaceOf", inPlace := ["internal/bytealg.IndexByte"], apart := false, narrowed := true }
def FnPlaceOfUptoSaid : Prop := fnPlaceOfUptoRow.holds Try.pinned (OpenSpec.upto fnPlaceOfSpec)

/-- 'laws.FnTableShort', WHERE WHAT IT READS IS OF BULK AT MOST 1048576: true; the input reads as it did. -/
def fnTableShortUptoRow : OpenClaim := { program := "ytdaddhliedocaaa", sum := "c543415bf3be5ee4ca0fa55f07d046426d025329bf6be584b8e914116d913acd", func := "loop.example/objectlinker/laws.FnTableShort", spec := "fnTableShort", recurses := true, apart := false, narrowed := true }
def FnTableShortUptoSaid : Prop := fnTableShortUptoRow.holds Try.pinned (OpenSpec.upto fnTableShortSpec)

/-- 'laws.FnExactNameValid', WHERE WHAT IT READS IS OF BULK AT MOST 1048576: true; the input reads as it did. -/
def fnExactNameValidUptoRow : OpenClaim := { program := "ytdaddhliedocaaa", sum := "c543415bf3be5ee4ca0fa55f07d046426d025329bf6be584b8e914116d913acd", func := "loop.example/objectlinker/laws.FnExactNameValid", spec := "fnExactNameValid", apart := false, narrowed := true }
def FnExactNameValidUptoSaid : Prop := fnExactNameValidUptoRow.holds Try.pinned (OpenSpec.upto fnExactNameValidSpec)

/-- 'laws.FnExactNameTable', WHERE WHAT IT READS IS OF BULK AT MOST 1048576: true; the input reads as it did. -/
def fnExactNameTableUptoRow : OpenClaim := { program := "ytdaddhliedocaaa", sum := "c543415bf3be5ee4ca0fa55f07d046426d025329bf6be584b8e914116d913acd", func := "loop.example/objectlinker/laws.FnExactNameTable", spec := "fnExactNameTable", recurses := true, apart := false, narrowed := true }
def FnExactNameTableUptoSaid : Prop := fnExactNameTableUptoRow.holds Try.pinned (OpenSpec.upto fnExactNameTableSpec)

/-- 'laws.FnExactNameAt', WHERE WHAT IT READS IS OF BULK AT MOST 1048576: true; the input reads as it did. -/
def fnExactNameAtUptoRow : OpenClaim := { program := "ytdaddhliedocaaa", sum := "c543415bf3be5ee4ca0fa55f07d046426d025329bf6be584b8e914116d913acd", func := "loop.example/objectlinker/laws.FnExactNameAt", spec := "fnExactNameAt", inPlace := ["internal/bytealg.IndexByte"], apart := false, narrowed := true }
def FnExactNameAtUptoSaid : Prop := fnExactNameAtUptoRow.holds Try.pinned (OpenSpec.upto fnExactNameAtSpec)

/-- 'laws.FnExactPlaceOf', WHERE WHAT IT READS IS OF BULK AT MOST 1048576: true; the input reads as it did. -/
def fnExactPlaceOfUptoRow : OpenClaim := { program := "ytdaddhliedocaaa", sum := "c543415bf3be5ee4ca0fa55f07d046426d025329bf6be584b8e914116d913acd", func := "loop.example/objectlinker/laws.FnExactPlaceOf", spec := "fnExactPlaceOf", apart := false, narrowed := true }
def FnExactPlaceOfUptoSaid : Prop := fnExactPlaceOfUptoRow.holds Try.pinned (OpenSpec.upto fnExactPlaceOfSpec)

end Rows
end Go.Proofs.Ytdaddhliedocaaa
