/-
  DERIVED. GIVEN WITH THE SEED: THE CARDS: each row of YtilihjjkndlihabDoorRows.lean that lists a variable, with what it lists TIED to the program's text (the seventh form; the later family's looks); each row that meets fmt, with fmt's text TOLD by the authors' own Lean function (tested against real Go, not proved from fmt's source: count such statements apart). THE CARD IS WHAT COUNTS. Prove the row's statement (the work); the ties are given (YtilihjjkndlihabDoorTie.lean); close each card by the builder's one call (the guide's Derived/Test/ToyasCard.lean, 'card_holds'). Laid BY PROGRAM, IN A SANDBOX (cutbox-door.mjs). By AI agents, Wed Nov 11 2026. No macro, syntax, notation, axiom, sorry.
-/
import Derived.Test.YtilihjjkndlihabDoorRows
import GoSem.ClaimSeven
namespace Go.Proofs.YtilihjjkndlihabDoor
namespace Rows

/-- THE TIED CARD OF 'meridianlaw1.TickJulian'. -/
def tickJulianCard : Claim7 := { stood := { row := tickJulianRow, standIns := [], harness := (true, "6b3bdf063505a3e44f3ffb6879a710e675c7a0aaa94ff3bda26048647c82d3b6"), looks := true }, kinds := [], alts := [], laidByText := true, laidKinds := [.handle, .sentinel, .sentinel, .sentinel, .sentinel, .sentinel, .sentinel, .sentinel, .sentinel, .sentinel, .sentinel], laidTests := true, laidLooks := .later }
def TickJulianCardSaid : Prop := Claim7.holds Tryd.pinned (.plain (OpenSpec.ofChange tickJulianSpec)) tickJulianCard

/-- THE SECOND FORM's CARD OF 'meridianlaw1.TickJulian'. -/
def tickJulianUptoCard : Claim7 := { stood := { row := tickJulianUptoRow, standIns := [], harness := (true, "6b3bdf063505a3e44f3ffb6879a710e675c7a0aaa94ff3bda26048647c82d3b6"), looks := true }, kinds := [], alts := [], laidByText := true, laidKinds := [.handle, .sentinel, .sentinel, .sentinel, .sentinel, .sentinel, .sentinel, .sentinel, .sentinel, .sentinel, .sentinel], laidTests := true, laidLooks := .later }
def TickJulianUptoCardSaid : Prop := Claim7.holds Tryd.pinned (.plain (OpenSpec.upto tickJulianSpec)) tickJulianUptoCard
end Rows
end Go.Proofs.YtilihjjkndlihabDoor
