/-
  DERIVED. GIVEN WITH THE SEED: THE CARDS: each row of YtgmaganajfcpbajDoorRows.lean that lists a variable, with what it lists TIED to the program's text (the seventh form; the later family's looks); each row that meets fmt, with fmt's text TOLD by the authors' own Lean function (tested against real Go, not proved from fmt's source: count such statements apart). THE CARD IS WHAT COUNTS. Prove the row's statement (the work); the ties are given (YtgmaganajfcpbajDoorTie.lean); close each card by the builder's one call (the guide's Derived/Test/ToyasCard.lean, 'card_holds'). Laid BY PROGRAM, IN A SANDBOX (cutbox-door.mjs). By AI agents, Wed Nov 11 2026. No macro, syntax, notation, axiom, sorry.
-/
import Derived.Test.YtgmaganajfcpbajDoorRows
import GoSem.ClaimSeven
namespace Go.Proofs.YtgmaganajfcpbajDoor
namespace Rows

/-- THE TIED CARD OF 'meridianlaw4.SpotsMoved'. -/
def spotsMovedCard : Claim7 := { stood := { row := spotsMovedRow, standIns := [], harness := (true, "c6466d654d9e66c1195cd9e5eda70ac6abe43952a1e6904c8bc1898b3b94fa17"), looks := false }, kinds := [], alts := [], laidByText := true, laidKinds := [.sentinel, .sentinel], laidTests := true, laidLooks := .later }
def SpotsMovedCardSaid : Prop := Claim7.holds Tryd.pinned (.plain (OpenSpec.ofChange spotsMovedSpec)) spotsMovedCard

/-- THE SECOND FORM's CARD OF 'meridianlaw4.SpotsMoved'. -/
def spotsMovedUptoCard : Claim7 := { stood := { row := spotsMovedUptoRow, standIns := [], harness := (true, "c6466d654d9e66c1195cd9e5eda70ac6abe43952a1e6904c8bc1898b3b94fa17"), looks := false }, kinds := [], alts := [], laidByText := true, laidKinds := [.sentinel, .sentinel], laidTests := true, laidLooks := .later }
def SpotsMovedUptoCardSaid : Prop := Claim7.holds Tryd.pinned (.plain (OpenSpec.upto spotsMovedSpec)) spotsMovedUptoCard
end Rows
end Go.Proofs.YtgmaganajfcpbajDoor
