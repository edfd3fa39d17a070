/-
  DERIVED. GIVEN WITH THE SEED: THE CARDS: each row of YtpfombelhajmlaaGreatDoorRows.lean that lists a variable, with what it lists TIED to the program's text (the seventh form; the later family's looks); each row that meets fmt, with fmt's text TOLD by the authors' own Lean function (tested against real Go, not proved from fmt's source: count such statements apart). THE CARD IS WHAT COUNTS. Prove the row's statement (the work); the ties are given (YtpfombelhajmlaaGreatDoorTie.lean); close each card by the builder's one call (the guide's Derived/Test/ToyasCard.lean, 'card_holds'). Laid BY PROGRAM, IN A SANDBOX (cutbox-door.mjs). By AI agents, Wed Nov 11 2026. No macro, syntax, notation, axiom, sorry.
-/
import Derived.Test.YtpfombelhajmlaaGreatDoorRows
import GoSem.ClaimSeven
namespace Go.Proofs.YtpfombelhajmlaaGreatDoor
namespace Rows

/-- THE TIED CARD OF 'laws.FnDumpObject'. -/
def fnDumpObjectCard : Claim7 := { stood := { row := fnDumpObjectRow, standIns := [], harness := (true, "449202696ff9c68cb58b96f5f093dc36ec7e95d74b1ae98a7bb080aaeb8c0f91"), looks := true }, kinds := [], alts := [], laidByText := true, laidKinds := [.data, .data, .data, .data, .sentinel, .sentinel, .pinned], laidTests := true, laidLooks := .later }
def FnDumpObjectCardSaid : Prop := Claim7.holds Tryz.pinned (.plain (OpenSpec.ofChange fnDumpObjectSpec)) fnDumpObjectCard

/-- THE TIED CARD OF 'laws.FnReadDump'. -/
def fnReadDumpCard : Claim7 := { stood := { row := fnReadDumpRow, standIns := [], harness := (true, "449202696ff9c68cb58b96f5f093dc36ec7e95d74b1ae98a7bb080aaeb8c0f91"), looks := true }, kinds := [], alts := [], laidByText := true, laidKinds := [.data, .data, .data, .data, .sentinel, .sentinel, .pinned], laidTests := true, laidLooks := .later }
def FnReadDumpCardSaid : Prop := Claim7.holds Tryz.pinned (.plain (OpenSpec.ofChange fnReadDumpSpec)) fnReadDumpCard

/-- THE TIED CARD OF 'laws.FnExactReadDump'. -/
def fnExactReadDumpCard : Claim7 := { stood := { row := fnExactReadDumpRow, standIns := [], harness := (true, "449202696ff9c68cb58b96f5f093dc36ec7e95d74b1ae98a7bb080aaeb8c0f91"), looks := true }, kinds := [], alts := [], laidByText := true, laidKinds := [.data, .data, .data, .data, .sentinel, .sentinel, .pinned], laidTests := true, laidLooks := .later }
def FnExactReadDumpCardSaid : Prop := Claim7.holds Tryz.pinned (.plain (OpenSpec.ofChange fnExactReadDumpSpec)) fnExactReadDumpCard

/-- THE SECOND FORM's CARD OF 'laws.FnDumpObject'. -/
def fnDumpObjectUptoCard : Claim7 := { stood := { row := fnDumpObjectUptoRow, standIns := [], harness := (true, "449202696ff9c68cb58b96f5f093dc36ec7e95d74b1ae98a7bb080aaeb8c0f91"), looks := true }, kinds := [], alts := [], laidByText := true, laidKinds := [.data, .data, .data, .data, .sentinel, .sentinel, .pinned], laidTests := true, laidLooks := .later }
def FnDumpObjectUptoCardSaid : Prop := Claim7.holds Tryz.pinned (.plain (OpenSpec.upto fnDumpObjectSpec)) fnDumpObjectUptoCard

/-- THE SECOND FORM's CARD OF 'laws.FnReadDump'. -/
def fnReadDumpUptoCard : Claim7 := { stood := { row := fnReadDumpUptoRow, standIns := [], harness := (true, "449202696ff9c68cb58b96f5f093dc36ec7e95d74b1ae98a7bb080aaeb8c0f91"), looks := true }, kinds := [], alts := [], laidByText := true, laidKinds := [.data, .data, .data, .data, .sentinel, .sentinel, .pinned], laidTests := true, laidLooks := .later }
def FnReadDumpUptoCardSaid : Prop := Claim7.holds Tryz.pinned (.plain (OpenSpec.upto fnReadDumpSpec)) fnReadDumpUptoCard

/-- THE SECOND FORM's CARD OF 'laws.FnExactReadDump'. -/
def fnExactReadDumpUptoCard : Claim7 := { stood := { row := fnExactReadDumpUptoRow, standIns := [], harness := (true, "449202696ff9c68cb58b96f5f093dc36ec7e95d74b1ae98a7bb080aaeb8c0f91"), looks := true }, kinds := [], alts := [], laidByText := true, laidKinds := [.data, .data, .data, .data, .sentinel, .sentinel, .pinned], laidTests := true, laidLooks := .later }
def FnExactReadDumpUptoCardSaid : Prop := Claim7.holds Tryz.pinned (.plain (OpenSpec.upto fnExactReadDumpSpec)) fnExactReadDumpUptoCard
end Rows
end Go.Proofs.YtpfombelhajmlaaGreatDoor
