/-
  DERIVED. GIVEN WITH THE SEED: THE CARDS: each row of YtfamndjiaebmbafDoorRows.lean that lists a variable, with what it lists TIED to the program's text (the seventh form; the later family's looks); each row that meets fmt, with fmt's text TOLD by the authors' own Lean function (tested against real Go, not proved from fmt's source: count such statements apart). THE CARD IS WHAT COUNTS. Prove the row's statement (the work); the ties are given (YtfamndjiaebmbafDoorTie.lean); close each card by the builder's one call (the guide's Derived/Test/ToyasCard.lean, 'card_holds'). Laid BY PROGRAM, IN A SANDBOX (cutbox-door.mjs). By AI agents, Wed Nov 11 2026. No macro, syntax, notation, axiom, sorry.
-/
import Derived.Test.YtfamndjiaebmbafDoorRows
import GoSem.ClaimSeven
namespace Go.Proofs.YtfamndjiaebmbafDoor
namespace Rows

/-- THE TIED CARD OF 'meridianlaw2.SkyChains'. -/
def skyChainsCard : Claim7 := { stood := { row := skyChainsRow, standIns := [], harness := (true, "54d1526254cbdbbd82cc2d3ff968771747b491c26ee96f858a10a6fd9133f5fc"), looks := true }, kinds := [], alts := [], laidByText := true, laidKinds := [.handle, .sentinel, .sentinel, .sentinel, .sentinel, .sentinel, .sentinel, .sentinel, .sentinel, .sentinel, .sentinel], laidTests := true, laidLooks := .later }
def SkyChainsCardSaid : Prop := Claim7.holds Tryd.pinned (.plain (OpenSpec.ofChange skyChainsSpec)) skyChainsCard

/-- THE TIED CARD OF 'meridianlaw2.OrbitKepler'. -/
def orbitKeplerCard : Claim7 := { stood := { row := orbitKeplerRow, standIns := [], harness := (true, "54d1526254cbdbbd82cc2d3ff968771747b491c26ee96f858a10a6fd9133f5fc"), looks := true }, kinds := [], alts := [], laidByText := true, laidKinds := [.handle, .sentinel, .sentinel, .sentinel, .sentinel, .sentinel, .sentinel, .sentinel, .sentinel, .sentinel, .sentinel], laidTests := true, laidLooks := .later }
def OrbitKeplerCardSaid : Prop := Claim7.holds Tryd.pinned (.plain (OpenSpec.ofChange orbitKeplerSpec)) orbitKeplerCard

/-- THE TIED CARD OF 'meridianlaw2.OrbitEnclosed'. -/
def orbitEnclosedCard : Claim7 := { stood := { row := orbitEnclosedRow, standIns := [], harness := (true, "54d1526254cbdbbd82cc2d3ff968771747b491c26ee96f858a10a6fd9133f5fc"), looks := true }, kinds := [], alts := [], laidByText := true, laidKinds := [.sentinel], laidTests := true, laidLooks := .later }
def OrbitEnclosedCardSaid : Prop := Claim7.holds Tryd.pinned (.plain (OpenSpec.ofChange orbitEnclosedSpec)) orbitEnclosedCard

/-- THE SECOND FORM's CARD OF 'meridianlaw2.SkyChains'. -/
def skyChainsUptoCard : Claim7 := { stood := { row := skyChainsUptoRow, standIns := [], harness := (true, "54d1526254cbdbbd82cc2d3ff968771747b491c26ee96f858a10a6fd9133f5fc"), looks := true }, kinds := [], alts := [], laidByText := true, laidKinds := [.handle, .sentinel, .sentinel, .sentinel, .sentinel, .sentinel, .sentinel, .sentinel, .sentinel, .sentinel, .sentinel], laidTests := true, laidLooks := .later }
def SkyChainsUptoCardSaid : Prop := Claim7.holds Tryd.pinned (.plain (OpenSpec.upto skyChainsSpec)) skyChainsUptoCard

/-- THE SECOND FORM's CARD OF 'meridianlaw2.OrbitKepler'. -/
def orbitKeplerUptoCard : Claim7 := { stood := { row := orbitKeplerUptoRow, standIns := [], harness := (true, "54d1526254cbdbbd82cc2d3ff968771747b491c26ee96f858a10a6fd9133f5fc"), looks := true }, kinds := [], alts := [], laidByText := true, laidKinds := [.handle, .sentinel, .sentinel, .sentinel, .sentinel, .sentinel, .sentinel, .sentinel, .sentinel, .sentinel, .sentinel], laidTests := true, laidLooks := .later }
def OrbitKeplerUptoCardSaid : Prop := Claim7.holds Tryd.pinned (.plain (OpenSpec.upto orbitKeplerSpec)) orbitKeplerUptoCard

/-- THE SECOND FORM's CARD OF 'meridianlaw2.OrbitEnclosed'. -/
def orbitEnclosedUptoCard : Claim7 := { stood := { row := orbitEnclosedUptoRow, standIns := [], harness := (true, "54d1526254cbdbbd82cc2d3ff968771747b491c26ee96f858a10a6fd9133f5fc"), looks := true }, kinds := [], alts := [], laidByText := true, laidKinds := [.sentinel], laidTests := true, laidLooks := .later }
def OrbitEnclosedUptoCardSaid : Prop := Claim7.holds Tryd.pinned (.plain (OpenSpec.upto orbitEnclosedSpec)) orbitEnclosedUptoCard
end Rows
end Go.Proofs.YtfamndjiaebmbafDoor
