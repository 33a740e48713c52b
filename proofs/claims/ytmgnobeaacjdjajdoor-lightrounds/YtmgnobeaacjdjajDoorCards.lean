/-
  DERIVED. GIVEN WITH THE SEED: THE CARDS: each row of YtmgnobeaacjdjajDoorRows.lean that lists a variable, with what it lists TIED to the program's text (the seventh form; the later family's looks); each row that meets fmt, with fmt's text TOLD by the authors' own Lean function (tested against real Go, not proved from fmt's source: count such statements apart). THE CARD IS WHAT COUNTS. Prove the row's statement (the work); the ties are given (YtmgnobeaacjdjajDoorTie.lean); close each card by the builder's one call (the guide's Derived/Test/ToyasCard.lean, 'card_holds'). Laid BY PROGRAM, IN A SANDBOX (cutbox-door.mjs). By AI agents, Wed Nov 11 2026. No macro, syntax, notation, axiom, sorry.
-/
import Derived.Test.YtmgnobeaacjdjajDoorRows
import GoSem.ClaimSeven
namespace Go.Proofs.YtmgnobeaacjdjajDoor
namespace Rows

/-- THE TIED CARD OF 'meridianlaw4.SpotsMoved'. -/
def spotsMovedCard : Claim7 := { stood := { row := spotsMovedRow, standIns := [], harness := (true, "dd111f2d205d80555d01c88f626dea5e08e40a2d456a54d37d5988bded2501af"), looks := true }, kinds := [], alts := [], laidByText := true, laidKinds := [.sentinel, .sentinel], laidTests := true, laidLooks := .later }
def SpotsMovedCardSaid : Prop := Claim7.holds Tryd.pinned (.plain (OpenSpec.ofChange spotsMovedSpec)) spotsMovedCard

/-- THE TIED CARD OF 'meridianlaw4.LightRounds'. -/
def lightRoundsCard : Claim7 := { stood := { row := lightRoundsRow, standIns := [], harness := (true, "dd111f2d205d80555d01c88f626dea5e08e40a2d456a54d37d5988bded2501af"), looks := true }, kinds := [], alts := [], laidByText := true, laidKinds := [.handle, .sentinel, .sentinel, .sentinel, .sentinel, .sentinel, .sentinel, .sentinel, .sentinel, .sentinel, .sentinel], laidTests := true, laidLooks := .later }
def LightRoundsCardSaid : Prop := Claim7.holds Tryd.pinned (.plain (OpenSpec.ofChange lightRoundsSpec)) lightRoundsCard

/-- THE TIED CARD OF 'meridianlaw4.LightPowers'. -/
def lightPowersCard : Claim7 := { stood := { row := lightPowersRow, standIns := [], harness := (true, "dd111f2d205d80555d01c88f626dea5e08e40a2d456a54d37d5988bded2501af"), looks := true }, kinds := [], alts := [], laidByText := true, laidKinds := [.handle, .sentinel, .sentinel, .sentinel, .sentinel, .sentinel, .sentinel, .sentinel, .sentinel, .sentinel, .sentinel], laidTests := true, laidLooks := .later }
def LightPowersCardSaid : Prop := Claim7.holds Tryd.pinned (.plain (OpenSpec.ofChange lightPowersSpec)) lightPowersCard

/-- THE SECOND FORM's CARD OF 'meridianlaw4.SpotsMoved'. -/
def spotsMovedUptoCard : Claim7 := { stood := { row := spotsMovedUptoRow, standIns := [], harness := (true, "dd111f2d205d80555d01c88f626dea5e08e40a2d456a54d37d5988bded2501af"), looks := true }, kinds := [], alts := [], laidByText := true, laidKinds := [.sentinel, .sentinel], laidTests := true, laidLooks := .later }
def SpotsMovedUptoCardSaid : Prop := Claim7.holds Tryd.pinned (.plain (OpenSpec.upto spotsMovedSpec)) spotsMovedUptoCard

/-- THE SECOND FORM's CARD OF 'meridianlaw4.LightRounds'. -/
def lightRoundsUptoCard : Claim7 := { stood := { row := lightRoundsUptoRow, standIns := [], harness := (true, "dd111f2d205d80555d01c88f626dea5e08e40a2d456a54d37d5988bded2501af"), looks := true }, kinds := [], alts := [], laidByText := true, laidKinds := [.handle, .sentinel, .sentinel, .sentinel, .sentinel, .sentinel, .sentinel, .sentinel, .sentinel, .sentinel, .sentinel], laidTests := true, laidLooks := .later }
def LightRoundsUptoCardSaid : Prop := Claim7.holds Tryd.pinned (.plain (OpenSpec.upto lightRoundsSpec)) lightRoundsUptoCard

/-- THE SECOND FORM's CARD OF 'meridianlaw4.LightPowers'. -/
def lightPowersUptoCard : Claim7 := { stood := { row := lightPowersUptoRow, standIns := [], harness := (true, "dd111f2d205d80555d01c88f626dea5e08e40a2d456a54d37d5988bded2501af"), looks := true }, kinds := [], alts := [], laidByText := true, laidKinds := [.handle, .sentinel, .sentinel, .sentinel, .sentinel, .sentinel, .sentinel, .sentinel, .sentinel, .sentinel, .sentinel], laidTests := true, laidLooks := .later }
def LightPowersUptoCardSaid : Prop := Claim7.holds Tryd.pinned (.plain (OpenSpec.upto lightPowersSpec)) lightPowersUptoCard
end Rows
end Go.Proofs.YtmgnobeaacjdjajDoor
