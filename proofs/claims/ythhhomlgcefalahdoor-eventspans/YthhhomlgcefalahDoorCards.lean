/-
  DERIVED. GIVEN WITH THE SEED: THE CARDS: each row of YthhhomlgcefalahDoorRows.lean that lists a variable, with what it lists TIED to the program's text (the seventh form; the later family's looks); each row that meets fmt, with fmt's text TOLD by the authors' own Lean function (tested against real Go, not proved from fmt's source: count such statements apart). THE CARD IS WHAT COUNTS. Prove the row's statement (the work); the ties are given (YthhhomlgcefalahDoorTie.lean); close each card by the builder's one call (the guide's Derived/Test/ToyasCard.lean, 'card_holds'). Laid BY PROGRAM, IN A SANDBOX (cutbox-door.mjs). By AI agents, Wed Nov 11 2026. No macro, syntax, notation, axiom, sorry.
-/
import Derived.Test.YthhhomlgcefalahDoorRows
import GoSem.ClaimSeven
namespace Go.Proofs.YthhhomlgcefalahDoor
namespace Rows

/-- THE TIED CARD OF 'meridianlaw3.EventWindows'. -/
def eventWindowsCard : Claim7 := { stood := { row := eventWindowsRow, standIns := [], harness := (true, "c7cf9fea40ad64e1dd0f8ebec7ed3d975d03978dee007a40d89b5627bb5d3c6f"), looks := true }, kinds := [], alts := [], laidByText := true, laidKinds := [.handle, .sentinel, .sentinel, .sentinel, .sentinel, .sentinel, .sentinel, .sentinel, .sentinel, .sentinel, .sentinel], laidTests := true, laidLooks := .later }
def EventWindowsCardSaid : Prop := Claim7.holds Tryd.pinned (.plain (OpenSpec.ofChange eventWindowsSpec)) eventWindowsCard

/-- THE TIED CARD OF 'meridianlaw3.EventSpans'. -/
def eventSpansCard : Claim7 := { stood := { row := eventSpansRow, standIns := [], harness := (true, "c7cf9fea40ad64e1dd0f8ebec7ed3d975d03978dee007a40d89b5627bb5d3c6f"), looks := true }, kinds := [], alts := [], laidByText := true, laidKinds := [.handle, .sentinel, .sentinel, .sentinel, .sentinel, .sentinel, .sentinel, .sentinel, .sentinel, .sentinel, .sentinel], laidTests := true, laidLooks := .later }
def EventSpansCardSaid : Prop := Claim7.holds Tryd.pinned (.plain (OpenSpec.ofChange eventSpansSpec)) eventSpansCard

/-- THE SECOND FORM's CARD OF 'meridianlaw3.EventWindows'. -/
def eventWindowsUptoCard : Claim7 := { stood := { row := eventWindowsUptoRow, standIns := [], harness := (true, "c7cf9fea40ad64e1dd0f8ebec7ed3d975d03978dee007a40d89b5627bb5d3c6f"), looks := true }, kinds := [], alts := [], laidByText := true, laidKinds := [.handle, .sentinel, .sentinel, .sentinel, .sentinel, .sentinel, .sentinel, .sentinel, .sentinel, .sentinel, .sentinel], laidTests := true, laidLooks := .later }
def EventWindowsUptoCardSaid : Prop := Claim7.holds Tryd.pinned (.plain (OpenSpec.upto eventWindowsSpec)) eventWindowsUptoCard

/-- THE SECOND FORM's CARD OF 'meridianlaw3.EventSpans'. -/
def eventSpansUptoCard : Claim7 := { stood := { row := eventSpansUptoRow, standIns := [], harness := (true, "c7cf9fea40ad64e1dd0f8ebec7ed3d975d03978dee007a40d89b5627bb5d3c6f"), looks := true }, kinds := [], alts := [], laidByText := true, laidKinds := [.handle, .sentinel, .sentinel, .sentinel, .sentinel, .sentinel, .sentinel, .sentinel, .sentinel, .sentinel, .sentinel], laidTests := true, laidLooks := .later }
def EventSpansUptoCardSaid : Prop := Claim7.holds Tryd.pinned (.plain (OpenSpec.upto eventSpansSpec)) eventSpansUptoCard
end Rows
end Go.Proofs.YthhhomlgcefalahDoor
