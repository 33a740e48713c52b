/-
  DERIVED. GIVEN WITH THE SEED: THE CARDS: each row of YtngdemhhcablmalDoorRows.lean that lists a variable, with what it lists TIED to the program's text (the seventh form; the later family's looks); each row that meets fmt, with fmt's text TOLD by the authors' own Lean function (tested against real Go, not proved from fmt's source: count such statements apart). THE CARD IS WHAT COUNTS. Prove the row's statement (the work); the ties are given (YtngdemhhcablmalDoorTie.lean); close each card by the builder's one call (the guide's Derived/Test/ToyasCard.lean, 'card_holds'). Laid BY PROGRAM, IN A SANDBOX (cutbox-door.mjs). By AI agents, Wed Nov 11 2026. No macro, syntax, notation, axiom, sorry.
-/
import Derived.Test.YtngdemhhcablmalDoorRows
import GoSem.ClaimSeven
namespace Go.Proofs.YtngdemhhcablmalDoor
namespace Rows

/-- THE TIED CARD OF 'meridianlaw5.ShiftMoved'. -/
def shiftMovedCard : Claim7 := { stood := { row := shiftMovedRow, standIns := [], harness := (true, "f428177db7a210eb6c8a426a8e20b593190815efea0689640e8771a6f4bf8638"), looks := true }, kinds := [], alts := [], laidByText := true, laidKinds := [.handle, .sentinel, .sentinel, .sentinel, .sentinel, .sentinel, .sentinel, .sentinel, .sentinel, .sentinel, .sentinel], laidTests := true, laidLooks := .later }
def ShiftMovedCardSaid : Prop := Claim7.holds Tryd.pinned (.plain (OpenSpec.ofChange shiftMovedSpec)) shiftMovedCard

/-- THE SECOND FORM's CARD OF 'meridianlaw5.ShiftMoved'. -/
def shiftMovedUptoCard : Claim7 := { stood := { row := shiftMovedUptoRow, standIns := [], harness := (true, "f428177db7a210eb6c8a426a8e20b593190815efea0689640e8771a6f4bf8638"), looks := true }, kinds := [], alts := [], laidByText := true, laidKinds := [.handle, .sentinel, .sentinel, .sentinel, .sentinel, .sentinel, .sentinel, .sentinel, .sentinel, .sentinel, .sentinel], laidTests := true, laidLooks := .later }
def ShiftMovedUptoCardSaid : Prop := Claim7.holds Tryd.pinned (.plain (OpenSpec.upto shiftMovedSpec)) shiftMovedUptoCard
end Rows
end Go.Proofs.YtngdemhhcablmalDoor
