/-
  DERIVED. GIVEN WITH THE SEED: THE CARDS: each row of YtbjpkfmencaafafDoorRows.lean that lists a variable, with what it lists TIED to the program's text (the seventh form; the later family's looks); each row that meets fmt, with fmt's text TOLD by the authors' own Lean function (tested against real Go, not proved from fmt's source: count such statements apart). THE CARD IS WHAT COUNTS. Prove the row's statement (the work); the ties are given (YtbjpkfmencaafafDoorTie.lean); close each card by the builder's one call (the guide's Derived/Test/ToyasCard.lean, 'card_holds'). Laid BY PROGRAM, IN A SANDBOX (cutbox-door.mjs). By AI agents, Wed Nov 11 2026. No macro, syntax, notation, axiom, sorry.
-/
import Derived.Test.YtbjpkfmencaafafDoorRows
import GoSem.ClaimSeven
namespace Go.Proofs.YtbjpkfmencaafafDoor
namespace Rows

/-- THE TIED CARD OF 'meridianlaw2.SkyChains'. -/
def skyChainsCard : Claim7 := { stood := { row := skyChainsRow, standIns := [], harness := (true, "287911b280a35e481226ac9107d8a9707660c08fc1b06c9cb979b1887be1f9b8"), looks := true }, kinds := [], alts := [], laidByText := true, laidKinds := [.handle, .sentinel, .sentinel, .sentinel, .sentinel, .sentinel, .sentinel, .sentinel, .sentinel, .sentinel, .sentinel], laidTests := true, laidLooks := .later }
def SkyChainsCardSaid : Prop := Claim7.holds Tryd.pinned (.plain (OpenSpec.ofChange skyChainsSpec)) skyChainsCard

/-- THE SECOND FORM's CARD OF 'meridianlaw2.SkyChains'. -/
def skyChainsUptoCard : Claim7 := { stood := { row := skyChainsUptoRow, standIns := [], harness := (true, "287911b280a35e481226ac9107d8a9707660c08fc1b06c9cb979b1887be1f9b8"), looks := true }, kinds := [], alts := [], laidByText := true, laidKinds := [.handle, .sentinel, .sentinel, .sentinel, .sentinel, .sentinel, .sentinel, .sentinel, .sentinel, .sentinel, .sentinel], laidTests := true, laidLooks := .later }
def SkyChainsUptoCardSaid : Prop := Claim7.holds Tryd.pinned (.plain (OpenSpec.upto skyChainsSpec)) skyChainsUptoCard
end Rows
end Go.Proofs.YtbjpkfmencaafafDoor
