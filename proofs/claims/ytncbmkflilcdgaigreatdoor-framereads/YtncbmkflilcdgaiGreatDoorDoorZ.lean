/-
  What the rows of FrameFiles and FrameReads start with: what the program's text lays, and the pinned table.
-/
import Derived.Test.YtncbmkflilcdgaiGreatDoorLaidZ
import Derived.Test.YtncbmkflilcdgaiGreatDoorCards
import Derived.Test.YtncbmkflilcdgaiGreatDoorTie
import Derived.Stop.Joined
import Derived.PinnedBridge
import Derived.Lay
namespace Go.Proofs.YtncbmkflilcdgaiGreatDoor
open Go.ChangeShapes Go.WideShapes Go.ChangeAt Go.RowKit

noncomputable def zStart (os : Os) : World := (World.doorLaid Tryz.prog 269 os).layVars Tryz.prog ((Rows.frameFilesRow.laid.filter fun x => x.2.handleName?.isNone).filter fun x => ["unicode/utf8.first"].contains x.1)
noncomputable def zB (os : Os) : List Nat := (List.range (World.doorLaid Tryz.prog 269 os).heap.size).filter fun x => x != 16
set_option maxRecDepth 100000 in
theorem z_fits (os : Os) : (World.doorLaid Tryz.prog 269 os).layFits Tryz.prog ((Rows.frameFilesRow.laid.filter fun x => x.2.handleName?.isNone).filter fun x => ["unicode/utf8.first"].contains x.1) (zB os) = true := by kernel_rfl
theorem z_door (os : Os) (args : Array Value) : laidMetH Tryz.prog Rows.frameFilesRow.laid ((zStart os).forCall (fun _ _ => 0) ⟨#[], args, []⟩).memory :=
  laidMetH_of_parts3 (fuel := 8)
    (laidMet_layVars (w0 := World.doorLaid Tryz.prog 269 os) ["unicode/utf8.first"] (zB os) (by simp [World.memory, World.forCall, Input.heap, zStart]) (z_fits os) (by kernel_rfl)
      (LaidIn.of_run (zB os) 8 (by kernel_rfl) (by kernel_rfl) (by kernel_rfl) (by kernel_rfl)))
    (by kernel_rfl) (by kernel_rfl)
end Go.Proofs.YtncbmkflilcdgaiGreatDoor
