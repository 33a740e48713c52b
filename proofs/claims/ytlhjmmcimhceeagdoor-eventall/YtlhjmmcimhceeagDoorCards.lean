/-
  DERIVED. GIVEN WITH THE SEED: THE CARDS: each row of YtlhjmmcimhceeagDoorRows.lean that lists a variable, with what it lists TIED to the program's text (the seventh form; the later family's looks); each row that meets fmt, with fmt's text TOLD by the authors' own Lean function (tested against real Go, not proved from fmt's source: count such statements apart). THE CARD IS WHAT COUNTS. Prove the row's statement (the work); the ties are given (YtlhjmmcimhceeagDoorTie.lean); close each card by the builder's one call (the guide's Derived/Test/ToyasCard.lean, 'card_holds'). Laid BY PROGRAM, IN A SANDBOX (cutbox-door.mjs). By AI agents, Wed Nov 11 2026. No macro, syntax, notation, axiom, sorry.
-/
import Derived.Test.YtlhjmmcimhceeagDoorRows
import GoSem.ClaimSeven
namespace Go.Proofs.YtlhjmmcimhceeagDoor
namespace Rows

/-- THE TIED CARD OF 'meridianlaw3.MoveRuns'. -/
def moveRunsCard : Claim7 := { stood := { row := moveRunsRow, standIns := [], harness := (true, "7b715ccc3f525d0e372e1cdd61a75e697659a5aeeeeeae71d608d17ff10b96a1"), looks := true }, kinds := [], alts := [], laidByText := true, laidKinds := [.handle, .sentinel, .sentinel, .sentinel, .sentinel, .sentinel, .sentinel, .sentinel, .sentinel, .sentinel, .sentinel], laidTests := true, laidLooks := .later }
def MoveRunsCardSaid : Prop := Claim7.holds Tryd.pinned (.plain (OpenSpec.ofChange moveRunsSpec)) moveRunsCard

/-- THE TIED CARD OF 'meridianlaw3.MoveBack'. -/
def moveBackCard : Claim7 := { stood := { row := moveBackRow, standIns := [], harness := (true, "7b715ccc3f525d0e372e1cdd61a75e697659a5aeeeeeae71d608d17ff10b96a1"), looks := true }, kinds := [], alts := [], laidByText := true, laidKinds := [.sentinel, .sentinel, .sentinel], laidTests := true, laidLooks := .later }
def MoveBackCardSaid : Prop := Claim7.holds Tryd.pinned (.plain (OpenSpec.ofChange moveBackSpec)) moveBackCard

/-- THE TIED CARD OF 'meridianlaw3.MovePush'. -/
def movePushCard : Claim7 := { stood := { row := movePushRow, standIns := [], harness := (true, "7b715ccc3f525d0e372e1cdd61a75e697659a5aeeeeeae71d608d17ff10b96a1"), looks := true }, kinds := [], alts := [], laidByText := true, laidKinds := [.sentinel, .sentinel, .sentinel], laidTests := true, laidLooks := .later }
def MovePushCardSaid : Prop := Claim7.holds Tryd.pinned (.plain (OpenSpec.ofChange movePushSpec)) movePushCard

/-- THE TIED CARD OF 'meridianlaw3.MoveNear'. -/
def moveNearCard : Claim7 := { stood := { row := moveNearRow, standIns := [], harness := (true, "7b715ccc3f525d0e372e1cdd61a75e697659a5aeeeeeae71d608d17ff10b96a1"), looks := true }, kinds := [], alts := [], laidByText := true, laidKinds := [.handle, .sentinel, .sentinel, .sentinel, .sentinel, .sentinel, .sentinel, .sentinel, .sentinel, .sentinel, .sentinel], laidTests := true, laidLooks := .later }
def MoveNearCardSaid : Prop := Claim7.holds Tryd.pinned (.plain (OpenSpec.ofChange moveNearSpec)) moveNearCard

/-- THE TIED CARD OF 'meridianlaw3.EventHeights'. -/
def eventHeightsCard : Claim7 := { stood := { row := eventHeightsRow, standIns := [], harness := (true, "7b715ccc3f525d0e372e1cdd61a75e697659a5aeeeeeae71d608d17ff10b96a1"), looks := true }, kinds := [], alts := [], laidByText := true, laidKinds := [.handle, .sentinel, .sentinel, .sentinel, .sentinel, .sentinel, .sentinel, .sentinel, .sentinel, .sentinel, .sentinel], laidTests := true, laidLooks := .later }
def EventHeightsCardSaid : Prop := Claim7.holds Tryd.pinned (.plain (OpenSpec.ofChange eventHeightsSpec)) eventHeightsCard

/-- THE TIED CARD OF 'meridianlaw3.EventAll'. -/
def eventAllCard : Claim7 := { stood := { row := eventAllRow, standIns := [], harness := (true, "7b715ccc3f525d0e372e1cdd61a75e697659a5aeeeeeae71d608d17ff10b96a1"), looks := true }, kinds := [], alts := [], laidByText := true, laidKinds := [.handle, .sentinel, .sentinel, .sentinel, .sentinel, .sentinel, .sentinel, .sentinel, .sentinel, .sentinel, .sentinel], laidTests := true, laidLooks := .later }
def EventAllCardSaid : Prop := Claim7.holds Tryd.pinned (.plain (OpenSpec.ofChange eventAllSpec)) eventAllCard

/-- THE SECOND FORM's CARD OF 'meridianlaw3.MoveRuns'. -/
def moveRunsUptoCard : Claim7 := { stood := { row := moveRunsUptoRow, standIns := [], harness := (true, "7b715ccc3f525d0e372e1cdd61a75e697659a5aeeeeeae71d608d17ff10b96a1"), looks := true }, kinds := [], alts := [], laidByText := true, laidKinds := [.handle, .sentinel, .sentinel, .sentinel, .sentinel, .sentinel, .sentinel, .sentinel, .sentinel, .sentinel, .sentinel], laidTests := true, laidLooks := .later }
def MoveRunsUptoCardSaid : Prop := Claim7.holds Tryd.pinned (.plain (OpenSpec.upto moveRunsSpec)) moveRunsUptoCard

/-- THE SECOND FORM's CARD OF 'meridianlaw3.MoveBack'. -/
def moveBackUptoCard : Claim7 := { stood := { row := moveBackUptoRow, standIns := [], harness := (true, "7b715ccc3f525d0e372e1cdd61a75e697659a5aeeeeeae71d608d17ff10b96a1"), looks := true }, kinds := [], alts := [], laidByText := true, laidKinds := [.sentinel, .sentinel, .sentinel], laidTests := true, laidLooks := .later }
def MoveBackUptoCardSaid : Prop := Claim7.holds Tryd.pinned (.plain (OpenSpec.upto moveBackSpec)) moveBackUptoCard

/-- THE SECOND FORM's CARD OF 'meridianlaw3.MovePush'. -/
def movePushUptoCard : Claim7 := { stood := { row := movePushUptoRow, standIns := [], harness := (true, "7b715ccc3f525d0e372e1cdd61a75e697659a5aeeeeeae71d608d17ff10b96a1"), looks := true }, kinds := [], alts := [], laidByText := true, laidKinds := [.sentinel, .sentinel, .sentinel], laidTests := true, laidLooks := .later }
def MovePushUptoCardSaid : Prop := Claim7.holds Tryd.pinned (.plain (OpenSpec.upto movePushSpec)) movePushUptoCard

/-- THE SECOND FORM's CARD OF 'meridianlaw3.MoveNear'. -/
def moveNearUptoCard : Claim7 := { stood := { row := moveNearUptoRow, standIns := [], harness := (true, "7b715ccc3f525d0e372e1cdd61a75e697659a5aeeeeeae71d608d17ff10b96a1"), looks := true }, kinds := [], alts := [], laidByText := true, laidKinds := [.handle, .sentinel, .sentinel, .sentinel, .sentinel, .sentinel, .sentinel, .sentinel, .sentinel, .sentinel, .sentinel], laidTests := true, laidLooks := .later }
def MoveNearUptoCardSaid : Prop := Claim7.holds Tryd.pinned (.plain (OpenSpec.upto moveNearSpec)) moveNearUptoCard

/-- THE SECOND FORM's CARD OF 'meridianlaw3.EventHeights'. -/
def eventHeightsUptoCard : Claim7 := { stood := { row := eventHeightsUptoRow, standIns := [], harness := (true, "7b715ccc3f525d0e372e1cdd61a75e697659a5aeeeeeae71d608d17ff10b96a1"), looks := true }, kinds := [], alts := [], laidByText := true, laidKinds := [.handle, .sentinel, .sentinel, .sentinel, .sentinel, .sentinel, .sentinel, .sentinel, .sentinel, .sentinel, .sentinel], laidTests := true, laidLooks := .later }
def EventHeightsUptoCardSaid : Prop := Claim7.holds Tryd.pinned (.plain (OpenSpec.upto eventHeightsSpec)) eventHeightsUptoCard

/-- THE SECOND FORM's CARD OF 'meridianlaw3.EventAll'. -/
def eventAllUptoCard : Claim7 := { stood := { row := eventAllUptoRow, standIns := [], harness := (true, "7b715ccc3f525d0e372e1cdd61a75e697659a5aeeeeeae71d608d17ff10b96a1"), looks := true }, kinds := [], alts := [], laidByText := true, laidKinds := [.handle, .sentinel, .sentinel, .sentinel, .sentinel, .sentinel, .sentinel, .sentinel, .sentinel, .sentinel, .sentinel], laidTests := true, laidLooks := .later }
def EventAllUptoCardSaid : Prop := Claim7.holds Tryd.pinned (.plain (OpenSpec.upto eventAllSpec)) eventAllUptoCard
end Rows
end Go.Proofs.YtlhjmmcimhceeagDoor
