/-
  DERIVED. GIVEN WITH THE SEED: THE CARDS: each row of YtfonpobdnhifgamGreatDoorRows.lean that lists a variable, with what it lists TIED to the program's text (the seventh form; the later family's looks); each row that meets fmt, with fmt's text TOLD by the authors' own Lean function (tested against real Go, not proved from fmt's source: count such statements apart). THE CARD IS WHAT COUNTS. Prove the row's statement (the work); the ties are given (YtfonpobdnhifgamGreatDoorTie.lean); close each card by the builder's one call (the guide's Derived/Test/ToyasCard.lean, 'card_holds'). Laid BY PROGRAM, IN A SANDBOX (cutbox-door.mjs). By AI agents, Wed Nov 11 2026. No macro, syntax, notation, axiom, sorry.
-/
import Derived.Test.YtfonpobdnhifgamGreatDoorRows
import GoSem.ClaimSeven
namespace Go.Proofs.YtfonpobdnhifgamGreatDoor
namespace Rows

/-- THE TIED CARD OF 'meridianlaw5.AtlasCones'. -/
def atlasConesCard : Claim7 := { stood := { row := atlasConesRow, standIns := [], harness := (true, "8a9a1c64f4bfcb704ee8ef8ef82514ed9f07ab0adeaeaf721a8a0748dca57586"), looks := true }, kinds := [], alts := [], laidByText := true, laidKinds := [.handle, .sentinel, .sentinel, .sentinel, .sentinel, .sentinel, .sentinel, .sentinel, .sentinel, .sentinel, .sentinel], laidTests := true, laidLooks := .later }
def AtlasConesCardSaid : Prop := Claim7.holds Tryz.pinned (.plain (OpenSpec.ofChange atlasConesSpec)) atlasConesCard

/-- THE TIED CARD OF 'meridianlaw5.AtlasPairs'. -/
def atlasPairsCard : Claim7 := { stood := { row := atlasPairsRow, standIns := [], harness := (true, "8a9a1c64f4bfcb704ee8ef8ef82514ed9f07ab0adeaeaf721a8a0748dca57586"), looks := true }, kinds := [], alts := [], laidByText := true, laidKinds := [.handle, .sentinel, .sentinel, .sentinel, .sentinel, .sentinel, .sentinel, .sentinel, .sentinel, .sentinel, .sentinel], laidTests := true, laidLooks := .later }
def AtlasPairsCardSaid : Prop := Claim7.holds Tryz.pinned (.plain (OpenSpec.ofChange atlasPairsSpec)) atlasPairsCard

/-- THE TIED CARD OF 'meridianlaw5.AtlasLittle'. -/
def atlasLittleCard : Claim7 := { stood := { row := atlasLittleRow, standIns := [], harness := (true, "8a9a1c64f4bfcb704ee8ef8ef82514ed9f07ab0adeaeaf721a8a0748dca57586"), looks := true }, kinds := [], alts := [], laidByText := true, laidKinds := [.handle, .sentinel, .sentinel, .sentinel, .sentinel, .sentinel, .sentinel, .sentinel, .sentinel, .sentinel, .sentinel], laidTests := true, laidLooks := .later }
def AtlasLittleCardSaid : Prop := Claim7.holds Tryz.pinned (.plain (OpenSpec.ofChange atlasLittleSpec)) atlasLittleCard

/-- THE SECOND FORM's CARD OF 'meridianlaw5.AtlasCones'. -/
def atlasConesUptoCard : Claim7 := { stood := { row := atlasConesUptoRow, standIns := [], harness := (true, "8a9a1c64f4bfcb704ee8ef8ef82514ed9f07ab0adeaeaf721a8a0748dca57586"), looks := true }, kinds := [], alts := [], laidByText := true, laidKinds := [.handle, .sentinel, .sentinel, .sentinel, .sentinel, .sentinel, .sentinel, .sentinel, .sentinel, .sentinel, .sentinel], laidTests := true, laidLooks := .later }
def AtlasConesUptoCardSaid : Prop := Claim7.holds Tryz.pinned (.plain (OpenSpec.upto atlasConesSpec)) atlasConesUptoCard

/-- THE SECOND FORM's CARD OF 'meridianlaw5.AtlasPairs'. -/
def atlasPairsUptoCard : Claim7 := { stood := { row := atlasPairsUptoRow, standIns := [], harness := (true, "8a9a1c64f4bfcb704ee8ef8ef82514ed9f07ab0adeaeaf721a8a0748dca57586"), looks := true }, kinds := [], alts := [], laidByText := true, laidKinds := [.handle, .sentinel, .sentinel, .sentinel, .sentinel, .sentinel, .sentinel, .sentinel, .sentinel, .sentinel, .sentinel], laidTests := true, laidLooks := .later }
def AtlasPairsUptoCardSaid : Prop := Claim7.holds Tryz.pinned (.plain (OpenSpec.upto atlasPairsSpec)) atlasPairsUptoCard

/-- THE SECOND FORM's CARD OF 'meridianlaw5.AtlasLittle'. -/
def atlasLittleUptoCard : Claim7 := { stood := { row := atlasLittleUptoRow, standIns := [], harness := (true, "8a9a1c64f4bfcb704ee8ef8ef82514ed9f07ab0adeaeaf721a8a0748dca57586"), looks := true }, kinds := [], alts := [], laidByText := true, laidKinds := [.handle, .sentinel, .sentinel, .sentinel, .sentinel, .sentinel, .sentinel, .sentinel, .sentinel, .sentinel, .sentinel], laidTests := true, laidLooks := .later }
def AtlasLittleUptoCardSaid : Prop := Claim7.holds Tryz.pinned (.plain (OpenSpec.upto atlasLittleSpec)) atlasLittleUptoCard
end Rows
end Go.Proofs.YtfonpobdnhifgamGreatDoor
