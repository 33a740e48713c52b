/-
  DERIVED. GIVEN WITH THE SEED: THE CARDS: each row of YtkdmeclbnnjdgalDoorRows.lean that lists a variable, with what it lists TIED to the program's text (the seventh form; the later family's looks); each row that meets fmt, with fmt's text TOLD by the authors' own Lean function (tested against real Go, not proved from fmt's source: count such statements apart). THE CARD IS WHAT COUNTS. Prove the row's statement (the work); the ties are given (YtkdmeclbnnjdgalDoorTie.lean); close each card by the builder's one call (the guide's Derived/Test/ToyasCard.lean, 'card_holds'). Laid BY PROGRAM, IN A SANDBOX (cutbox-door.mjs). By AI agents, Wed Nov 11 2026. No macro, syntax, notation, axiom, sorry.
-/
import Derived.Test.YtkdmeclbnnjdgalDoorRows
import GoSem.ClaimSeven
namespace Go.Proofs.YtkdmeclbnnjdgalDoor
namespace Rows

/-- THE TIED CARD OF 'meridianlaw5.ShiftMoved'. -/
def shiftMovedCard : Claim7 := { stood := { row := shiftMovedRow, standIns := [], harness := (true, "bb246ccf93c8c270e6335e113f81d324a6d42346405cb22dacd76e2196eb9e57"), looks := true }, kinds := [], alts := [], laidByText := true, laidKinds := [.handle, .sentinel, .sentinel, .sentinel, .sentinel, .sentinel, .sentinel, .sentinel, .sentinel, .sentinel, .sentinel], laidTests := true, laidLooks := .later }
def ShiftMovedCardSaid : Prop := Claim7.holds Tryd.pinned (.plain (OpenSpec.ofChange shiftMovedSpec)) shiftMovedCard

/-- THE TIED CARD OF 'meridianlaw5.PlateShapes'. -/
def plateShapesCard : Claim7 := { stood := { row := plateShapesRow, standIns := [], harness := (true, "bb246ccf93c8c270e6335e113f81d324a6d42346405cb22dacd76e2196eb9e57"), looks := true }, kinds := [], alts := [], laidByText := true, laidKinds := [.handle, .sentinel, .sentinel, .sentinel, .sentinel, .sentinel, .sentinel, .sentinel, .sentinel, .sentinel, .sentinel], laidTests := true, laidLooks := .later }
def PlateShapesCardSaid : Prop := Claim7.holds Tryd.pinned (.plain (OpenSpec.ofChange plateShapesSpec)) plateShapesCard

/-- THE TIED CARD OF 'meridianlaw5.AtlasCells'. -/
def atlasCellsCard : Claim7 := { stood := { row := atlasCellsRow, standIns := [], harness := (true, "bb246ccf93c8c270e6335e113f81d324a6d42346405cb22dacd76e2196eb9e57"), looks := true }, kinds := [], alts := [], laidByText := true, laidKinds := [.handle, .sentinel, .sentinel, .sentinel, .sentinel, .sentinel, .sentinel, .sentinel, .sentinel, .sentinel, .sentinel], laidTests := true, laidLooks := .later }
def AtlasCellsCardSaid : Prop := Claim7.holds Tryd.pinned (.plain (OpenSpec.ofChange atlasCellsSpec)) atlasCellsCard

/-- THE SECOND FORM's CARD OF 'meridianlaw5.ShiftMoved'. -/
def shiftMovedUptoCard : Claim7 := { stood := { row := shiftMovedUptoRow, standIns := [], harness := (true, "bb246ccf93c8c270e6335e113f81d324a6d42346405cb22dacd76e2196eb9e57"), looks := true }, kinds := [], alts := [], laidByText := true, laidKinds := [.handle, .sentinel, .sentinel, .sentinel, .sentinel, .sentinel, .sentinel, .sentinel, .sentinel, .sentinel, .sentinel], laidTests := true, laidLooks := .later }
def ShiftMovedUptoCardSaid : Prop := Claim7.holds Tryd.pinned (.plain (OpenSpec.upto shiftMovedSpec)) shiftMovedUptoCard

/-- THE SECOND FORM's CARD OF 'meridianlaw5.PlateShapes'. -/
def plateShapesUptoCard : Claim7 := { stood := { row := plateShapesUptoRow, standIns := [], harness := (true, "bb246ccf93c8c270e6335e113f81d324a6d42346405cb22dacd76e2196eb9e57"), looks := true }, kinds := [], alts := [], laidByText := true, laidKinds := [.handle, .sentinel, .sentinel, .sentinel, .sentinel, .sentinel, .sentinel, .sentinel, .sentinel, .sentinel, .sentinel], laidTests := true, laidLooks := .later }
def PlateShapesUptoCardSaid : Prop := Claim7.holds Tryd.pinned (.plain (OpenSpec.upto plateShapesSpec)) plateShapesUptoCard

/-- THE SECOND FORM's CARD OF 'meridianlaw5.AtlasCells'. -/
def atlasCellsUptoCard : Claim7 := { stood := { row := atlasCellsUptoRow, standIns := [], harness := (true, "bb246ccf93c8c270e6335e113f81d324a6d42346405cb22dacd76e2196eb9e57"), looks := true }, kinds := [], alts := [], laidByText := true, laidKinds := [.handle, .sentinel, .sentinel, .sentinel, .sentinel, .sentinel, .sentinel, .sentinel, .sentinel, .sentinel, .sentinel], laidTests := true, laidLooks := .later }
def AtlasCellsUptoCardSaid : Prop := Claim7.holds Tryd.pinned (.plain (OpenSpec.upto atlasCellsSpec)) atlasCellsUptoCard
end Rows
end Go.Proofs.YtkdmeclbnnjdgalDoor
