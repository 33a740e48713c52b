/-
  DERIVED. GIVEN WITH THE SEED: THE CARDS: each row of YtgmaganajfcpbaiDoorRows.lean that lists a variable, with what it lists TIED to the program's text (the seventh form; the later family's looks); each row that meets fmt, with fmt's text TOLD by the authors' own Lean function (tested against real Go, not proved from fmt's source: count such statements apart). THE CARD IS WHAT COUNTS. Prove the row's statement (the work); the ties are given (YtgmaganajfcpbaiDoorTie.lean); close each card by the builder's one call (the guide's Derived/Test/ToyasCard.lean, 'card_holds'). Laid BY PROGRAM, IN A SANDBOX (cutbox-door.mjs). By AI agents, Wed Nov 11 2026. No macro, syntax, notation, axiom, sorry.
-/
import Derived.Test.YtgmaganajfcpbaiDoorRows
import GoSem.ClaimSeven
namespace Go.Proofs.YtgmaganajfcpbaiDoor
namespace Rows

/-- THE TIED CARD OF 'meridianlaw4.FrameCleans'. -/
def frameCleansCard : Claim7 := { stood := { row := frameCleansRow, standIns := [], harness := (true, "953759e61bf8c2af532248119bc908d36c3d3a5abddfe62f37edf5132eb2ff56"), looks := true }, kinds := [], alts := [], laidByText := true, laidKinds := [.handle, .sentinel, .sentinel, .sentinel, .sentinel, .sentinel, .sentinel, .sentinel, .sentinel, .sentinel, .sentinel], laidTests := true, laidLooks := .later }
def FrameCleansCardSaid : Prop := Claim7.holds Tryd.pinned (.plain (OpenSpec.ofChange frameCleansSpec)) frameCleansCard

/-- THE TIED CARD OF 'meridianlaw4.SpotsGround'. -/
def spotsGroundCard : Claim7 := { stood := { row := spotsGroundRow, standIns := [], harness := (true, "953759e61bf8c2af532248119bc908d36c3d3a5abddfe62f37edf5132eb2ff56"), looks := true }, kinds := [], alts := [], laidByText := true, laidKinds := [.handle, .sentinel, .sentinel, .sentinel, .sentinel, .sentinel, .sentinel, .sentinel, .sentinel, .sentinel, .sentinel], laidTests := true, laidLooks := .later }
def SpotsGroundCardSaid : Prop := Claim7.holds Tryd.pinned (.plain (OpenSpec.ofChange spotsGroundSpec)) spotsGroundCard

/-- THE TIED CARD OF 'meridianlaw4.SpotsLabels'. -/
def spotsLabelsCard : Claim7 := { stood := { row := spotsLabelsRow, standIns := [], harness := (true, "953759e61bf8c2af532248119bc908d36c3d3a5abddfe62f37edf5132eb2ff56"), looks := true }, kinds := [], alts := [], laidByText := true, laidKinds := [.handle, .sentinel, .sentinel, .sentinel, .sentinel, .sentinel, .sentinel, .sentinel, .sentinel, .sentinel, .sentinel], laidTests := true, laidLooks := .later }
def SpotsLabelsCardSaid : Prop := Claim7.holds Tryd.pinned (.plain (OpenSpec.ofChange spotsLabelsSpec)) spotsLabelsCard

/-- THE TIED CARD OF 'meridianlaw4.SpotsFound'. -/
def spotsFoundCard : Claim7 := { stood := { row := spotsFoundRow, standIns := [], harness := (true, "953759e61bf8c2af532248119bc908d36c3d3a5abddfe62f37edf5132eb2ff56"), looks := true }, kinds := [], alts := [], laidByText := true, laidKinds := [.handle, .sentinel, .sentinel, .sentinel, .sentinel, .sentinel, .sentinel, .sentinel, .sentinel, .sentinel, .sentinel], laidTests := true, laidLooks := .later }
def SpotsFoundCardSaid : Prop := Claim7.holds Tryd.pinned (.plain (OpenSpec.ofChange spotsFoundSpec)) spotsFoundCard

/-- THE SECOND FORM's CARD OF 'meridianlaw4.FrameCleans'. -/
def frameCleansUptoCard : Claim7 := { stood := { row := frameCleansUptoRow, standIns := [], harness := (true, "953759e61bf8c2af532248119bc908d36c3d3a5abddfe62f37edf5132eb2ff56"), looks := true }, kinds := [], alts := [], laidByText := true, laidKinds := [.handle, .sentinel, .sentinel, .sentinel, .sentinel, .sentinel, .sentinel, .sentinel, .sentinel, .sentinel, .sentinel], laidTests := true, laidLooks := .later }
def FrameCleansUptoCardSaid : Prop := Claim7.holds Tryd.pinned (.plain (OpenSpec.upto frameCleansSpec)) frameCleansUptoCard

/-- THE SECOND FORM's CARD OF 'meridianlaw4.SpotsGround'. -/
def spotsGroundUptoCard : Claim7 := { stood := { row := spotsGroundUptoRow, standIns := [], harness := (true, "953759e61bf8c2af532248119bc908d36c3d3a5abddfe62f37edf5132eb2ff56"), looks := true }, kinds := [], alts := [], laidByText := true, laidKinds := [.handle, .sentinel, .sentinel, .sentinel, .sentinel, .sentinel, .sentinel, .sentinel, .sentinel, .sentinel, .sentinel], laidTests := true, laidLooks := .later }
def SpotsGroundUptoCardSaid : Prop := Claim7.holds Tryd.pinned (.plain (OpenSpec.upto spotsGroundSpec)) spotsGroundUptoCard

/-- THE SECOND FORM's CARD OF 'meridianlaw4.SpotsLabels'. -/
def spotsLabelsUptoCard : Claim7 := { stood := { row := spotsLabelsUptoRow, standIns := [], harness := (true, "953759e61bf8c2af532248119bc908d36c3d3a5abddfe62f37edf5132eb2ff56"), looks := true }, kinds := [], alts := [], laidByText := true, laidKinds := [.handle, .sentinel, .sentinel, .sentinel, .sentinel, .sentinel, .sentinel, .sentinel, .sentinel, .sentinel, .sentinel], laidTests := true, laidLooks := .later }
def SpotsLabelsUptoCardSaid : Prop := Claim7.holds Tryd.pinned (.plain (OpenSpec.upto spotsLabelsSpec)) spotsLabelsUptoCard

/-- THE SECOND FORM's CARD OF 'meridianlaw4.SpotsFound'. -/
def spotsFoundUptoCard : Claim7 := { stood := { row := spotsFoundUptoRow, standIns := [], harness := (true, "953759e61bf8c2af532248119bc908d36c3d3a5abddfe62f37edf5132eb2ff56"), looks := true }, kinds := [], alts := [], laidByText := true, laidKinds := [.handle, .sentinel, .sentinel, .sentinel, .sentinel, .sentinel, .sentinel, .sentinel, .sentinel, .sentinel, .sentinel], laidTests := true, laidLooks := .later }
def SpotsFoundUptoCardSaid : Prop := Claim7.holds Tryd.pinned (.plain (OpenSpec.upto spotsFoundSpec)) spotsFoundUptoCard
end Rows
end Go.Proofs.YtgmaganajfcpbaiDoor
