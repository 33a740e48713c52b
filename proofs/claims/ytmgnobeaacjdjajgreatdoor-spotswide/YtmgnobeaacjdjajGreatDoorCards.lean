/-
  DERIVED. GIVEN WITH THE SEED: THE CARDS: each row of YtmgnobeaacjdjajGreatDoorRows.lean that lists a variable, with what it lists TIED to the program's text (the seventh form; the later family's looks); each row that meets fmt, with fmt's text TOLD by the authors' own Lean function (tested against real Go, not proved from fmt's source: count such statements apart). THE CARD IS WHAT COUNTS. Prove the row's statement (the work); the ties are given (YtmgnobeaacjdjajGreatDoorTie.lean); close each card by the builder's one call (the guide's Derived/Test/ToyasCard.lean, 'card_holds'). Laid BY PROGRAM, IN A SANDBOX (cutbox-door.mjs). By AI agents, Wed Nov 11 2026. No macro, syntax, notation, axiom, sorry.
-/
import Derived.Test.YtmgnobeaacjdjajGreatDoorRows
import GoSem.ClaimSeven
namespace Go.Proofs.YtmgnobeaacjdjajGreatDoor
namespace Rows

/-- THE TIED CARD OF 'meridianlaw4.SpotsWide'. -/
def spotsWideCard : Claim7 := { stood := { row := spotsWideRow, standIns := [], harness := (true, "39653a2bd16a08d720773bc279866c8c0f4fefe252393fe401d6cd654438dd6a"), looks := true }, kinds := [], alts := [], goes := true, laidByText := true, laidKinds := [.handle, .sentinel, .sentinel, .sentinel, .sentinel, .sentinel, .sentinel, .sentinel, .sentinel, .sentinel, .sentinel], laidTests := true, laidLooks := .later }
def SpotsWideCardSaid : Prop := Claim7.holds Tryz.pinned (.plain (OpenSpec.ofChange spotsWideSpec)) spotsWideCard

/-- THE TIED CARD OF 'meridianlaw4.LightTotals'. -/
def lightTotalsCard : Claim7 := { stood := { row := lightTotalsRow, standIns := [], harness := (true, "39653a2bd16a08d720773bc279866c8c0f4fefe252393fe401d6cd654438dd6a"), looks := true }, kinds := [], alts := [], goes := true, laidByText := true, laidKinds := [.handle, .sentinel, .sentinel, .sentinel, .sentinel, .sentinel, .sentinel, .sentinel, .sentinel, .sentinel, .sentinel], laidTests := true, laidLooks := .later }
def LightTotalsCardSaid : Prop := Claim7.holds Tryz.pinned (.plain (OpenSpec.ofChange lightTotalsSpec)) lightTotalsCard

/-- THE SECOND FORM's CARD OF 'meridianlaw4.SpotsWide'. -/
def spotsWideUptoCard : Claim7 := { stood := { row := spotsWideUptoRow, standIns := [], harness := (true, "39653a2bd16a08d720773bc279866c8c0f4fefe252393fe401d6cd654438dd6a"), looks := true }, kinds := [], alts := [], goes := true, laidByText := true, laidKinds := [.handle, .sentinel, .sentinel, .sentinel, .sentinel, .sentinel, .sentinel, .sentinel, .sentinel, .sentinel, .sentinel], laidTests := true, laidLooks := .later }
def SpotsWideUptoCardSaid : Prop := Claim7.holds Tryz.pinned (.plain (OpenSpec.upto spotsWideSpec)) spotsWideUptoCard

/-- THE SECOND FORM's CARD OF 'meridianlaw4.LightTotals'. -/
def lightTotalsUptoCard : Claim7 := { stood := { row := lightTotalsUptoRow, standIns := [], harness := (true, "39653a2bd16a08d720773bc279866c8c0f4fefe252393fe401d6cd654438dd6a"), looks := true }, kinds := [], alts := [], goes := true, laidByText := true, laidKinds := [.handle, .sentinel, .sentinel, .sentinel, .sentinel, .sentinel, .sentinel, .sentinel, .sentinel, .sentinel, .sentinel], laidTests := true, laidLooks := .later }
def LightTotalsUptoCardSaid : Prop := Claim7.holds Tryz.pinned (.plain (OpenSpec.upto lightTotalsSpec)) lightTotalsUptoCard
end Rows
end Go.Proofs.YtmgnobeaacjdjajGreatDoor
