/-
  DERIVED. GIVEN WITH THE SEED: THE CARDS: each row of YtncbmkflilcdgaiDoorRows.lean that lists a variable, with what it lists TIED to the program's text (the seventh form; the later family's looks); each row that meets fmt, with fmt's text TOLD by the authors' own Lean function (tested against real Go, not proved from fmt's source: count such statements apart). THE CARD IS WHAT COUNTS. Prove the row's statement (the work); the ties are given (YtncbmkflilcdgaiDoorTie.lean); close each card by the builder's one call (the guide's Derived/Test/ToyasCard.lean, 'card_holds'). Laid BY PROGRAM, IN A SANDBOX (cutbox-door.mjs). By AI agents, Wed Nov 11 2026. No macro, syntax, notation, axiom, sorry.
-/
import Derived.Test.YtncbmkflilcdgaiDoorRows
import GoSem.ClaimSeven
namespace Go.Proofs.YtncbmkflilcdgaiDoor
namespace Rows

/-- THE TIED CARD OF 'meridianlaw4.FrameCleans'. -/
def frameCleansCard : Claim7 := { stood := { row := frameCleansRow, standIns := [], harness := (true, "68cb2305f04ddf38ca1eb382cfb88665990e22d340ec9f2a18a481621682f361"), looks := true }, kinds := [], alts := [], laidByText := true, laidKinds := [.handle, .sentinel, .sentinel, .sentinel, .sentinel, .sentinel, .sentinel, .sentinel, .sentinel, .sentinel, .sentinel], laidTests := true, laidLooks := .later }
def FrameCleansCardSaid : Prop := Claim7.holds Tryd.pinned (.plain (OpenSpec.ofChange frameCleansSpec)) frameCleansCard

/-- THE SECOND FORM's CARD OF 'meridianlaw4.FrameCleans'. -/
def frameCleansUptoCard : Claim7 := { stood := { row := frameCleansUptoRow, standIns := [], harness := (true, "68cb2305f04ddf38ca1eb382cfb88665990e22d340ec9f2a18a481621682f361"), looks := true }, kinds := [], alts := [], laidByText := true, laidKinds := [.handle, .sentinel, .sentinel, .sentinel, .sentinel, .sentinel, .sentinel, .sentinel, .sentinel, .sentinel, .sentinel], laidTests := true, laidLooks := .later }
def FrameCleansUptoCardSaid : Prop := Claim7.holds Tryd.pinned (.plain (OpenSpec.upto frameCleansSpec)) frameCleansUptoCard
end Rows
end Go.Proofs.YtncbmkflilcdgaiDoor
