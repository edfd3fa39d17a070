/-
  DERIVED. GIVEN WITH THE SEED: THE CARDS: each row of YtjcfjpoodahlfaaGreatDoorRows.lean that lists a variable, with what it lists TIED to the program's text (the seventh form; the later family's looks); each row that meets fmt, with fmt's text TOLD by the authors' own Lean function (tested against real Go, not proved from fmt's source: count such statements apart). THE CARD IS WHAT COUNTS. Prove the row's statement (the work); the ties are given (YtjcfjpoodahlfaaGreatDoorTie.lean); close each card by the builder's one call (the guide's Derived/Test/ToyasCard.lean, 'card_holds'). Laid BY PROGRAM, IN A SANDBOX (cutbox-door.mjs). By AI agents, Wed Nov 11 2026. No macro, syntax, notation, axiom, sorry.
-/
import Derived.Test.YtjcfjpoodahlfaaGreatDoorRows
import GoSem.ClaimSeven
namespace Go.Proofs.YtjcfjpoodahlfaaGreatDoor
namespace Rows

/-- THE TIED CARD OF 'laws.FnWriteObject'. -/
def fnWriteObjectCard : Claim7 := { stood := { row := fnWriteObjectRow, standIns := [], harness := (true, "186fc9939659cbf8eb55a461bcee586958036d115ba0417a45e382067e2233a4"), looks := false }, kinds := [], alts := [], laidByText := true, laidKinds := [.sentinel, .sentinel, .sentinel, .sentinel], laidTests := true, laidLooks := .later }
def FnWriteObjectCardSaid : Prop := Claim7.holds Tryz.pinned (.plain (OpenSpec.ofChange fnWriteObjectSpec)) fnWriteObjectCard

/-- THE TIED CARD OF 'laws.FnReadObject'. -/
def fnReadObjectCard : Claim7 := { stood := { row := fnReadObjectRow, standIns := [], harness := (true, "186fc9939659cbf8eb55a461bcee586958036d115ba0417a45e382067e2233a4"), looks := false }, kinds := [], alts := [], laidByText := true, laidKinds := [.sentinel, .sentinel, .sentinel, .sentinel], laidTests := true, laidLooks := .later }
def FnReadObjectCardSaid : Prop := Claim7.holds Tryz.pinned (.plain (OpenSpec.ofChange fnReadObjectSpec)) fnReadObjectCard

/-- THE TIED CARD OF 'laws.FnExactReadObject'. -/
def fnExactReadObjectCard : Claim7 := { stood := { row := fnExactReadObjectRow, standIns := [], harness := (true, "186fc9939659cbf8eb55a461bcee586958036d115ba0417a45e382067e2233a4"), looks := false }, kinds := [], alts := [], laidByText := true, laidKinds := [.sentinel, .sentinel, .sentinel, .sentinel], laidTests := true, laidLooks := .later }
def FnExactReadObjectCardSaid : Prop := Claim7.holds Tryz.pinned (.plain (OpenSpec.ofChange fnExactReadObjectSpec)) fnExactReadObjectCard

/-- THE SECOND FORM's CARD OF 'laws.FnWriteObject'. -/
def fnWriteObjectUptoCard : Claim7 := { stood := { row := fnWriteObjectUptoRow, standIns := [], harness := (true, "186fc9939659cbf8eb55a461bcee586958036d115ba0417a45e382067e2233a4"), looks := false }, kinds := [], alts := [], laidByText := true, laidKinds := [.sentinel, .sentinel, .sentinel, .sentinel], laidTests := true, laidLooks := .later }
def FnWriteObjectUptoCardSaid : Prop := Claim7.holds Tryz.pinned (.plain (OpenSpec.upto fnWriteObjectSpec)) fnWriteObjectUptoCard

/-- THE SECOND FORM's CARD OF 'laws.FnReadObject'. -/
def fnReadObjectUptoCard : Claim7 := { stood := { row := fnReadObjectUptoRow, standIns := [], harness := (true, "186fc9939659cbf8eb55a461bcee586958036d115ba0417a45e382067e2233a4"), looks := false }, kinds := [], alts := [], laidByText := true, laidKinds := [.sentinel, .sentinel, .sentinel, .sentinel], laidTests := true, laidLooks := .later }
def FnReadObjectUptoCardSaid : Prop := Claim7.holds Tryz.pinned (.plain (OpenSpec.upto fnReadObjectSpec)) fnReadObjectUptoCard

/-- THE SECOND FORM's CARD OF 'laws.FnExactReadObject'. -/
def fnExactReadObjectUptoCard : Claim7 := { stood := { row := fnExactReadObjectUptoRow, standIns := [], harness := (true, "186fc9939659cbf8eb55a461bcee586958036d115ba0417a45e382067e2233a4"), looks := false }, kinds := [], alts := [], laidByText := true, laidKinds := [.sentinel, .sentinel, .sentinel, .sentinel], laidTests := true, laidLooks := .later }
def FnExactReadObjectUptoCardSaid : Prop := Claim7.holds Tryz.pinned (.plain (OpenSpec.upto fnExactReadObjectSpec)) fnExactReadObjectUptoCard
end Rows
end Go.Proofs.YtjcfjpoodahlfaaGreatDoor
