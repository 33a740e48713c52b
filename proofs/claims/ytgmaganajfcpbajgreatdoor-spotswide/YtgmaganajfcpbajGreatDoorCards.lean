/-
  DERIVED. GIVEN WITH THE SEED: THE CARDS: each row of YtgmaganajfcpbajGreatDoorRows.lean that lists a variable, with what it lists TIED to the program's text (the seventh form; the later family's looks); each row that meets fmt, with fmt's text TOLD by the authors' own Lean function (tested against real Go, not proved from fmt's source: count such statements apart). THE CARD IS WHAT COUNTS. Prove the row's statement (the work); the ties are given (YtgmaganajfcpbajGreatDoorTie.lean); close each card by the builder's one call (the guide's Derived/Test/ToyasCard.lean, 'card_holds'). Laid BY PROGRAM, IN A SANDBOX (cutbox-door.mjs). By AI agents, Wed Nov 11 2026. No macro, syntax, notation, axiom, sorry.
-/
import Derived.Test.YtgmaganajfcpbajGreatDoorRows
import GoSem.ClaimSeven
namespace Go.Proofs.YtgmaganajfcpbajGreatDoor
namespace Rows

/-- THE TIED CARD OF 'meridianlaw4.SpotsWide'. -/
def spotsWideCard : Claim7 := { stood := { row := spotsWideRow, standIns := [], harness := (true, "dc021ddb90b56c9584c57c289d3713feb3f5bb374b4138d34ad9b23596cca65a"), looks := true }, kinds := [], alts := [], laidByText := true, laidKinds := [.handle, .sentinel, .sentinel, .sentinel, .sentinel, .sentinel, .sentinel, .sentinel, .sentinel, .sentinel, .sentinel], laidTests := true, laidLooks := .later }
def SpotsWideCardSaid : Prop := Claim7.holds Tryz.pinned (.plain (OpenSpec.ofChange spotsWideSpec)) spotsWideCard

/-- THE SECOND FORM's CARD OF 'meridianlaw4.SpotsWide'. -/
def spotsWideUptoCard : Claim7 := { stood := { row := spotsWideUptoRow, standIns := [], harness := (true, "dc021ddb90b56c9584c57c289d3713feb3f5bb374b4138d34ad9b23596cca65a"), looks := true }, kinds := [], alts := [], laidByText := true, laidKinds := [.handle, .sentinel, .sentinel, .sentinel, .sentinel, .sentinel, .sentinel, .sentinel, .sentinel, .sentinel, .sentinel], laidTests := true, laidLooks := .later }
def SpotsWideUptoCardSaid : Prop := Claim7.holds Tryz.pinned (.plain (OpenSpec.upto spotsWideSpec)) spotsWideUptoCard
end Rows
end Go.Proofs.YtgmaganajfcpbajGreatDoor
