/-
  What the laws of plates ask of numbers: too great, by contract.
-/
import Derived.Test.YtkdmeclbnnjdgalDoorKitA
import Derived.Deep.QuietTactic
namespace Go.Proofs.YtkdmeclbnnjdgalDoor
open Go Go.RowKit

def hugeB (n : Int) : Bool := decide (1152921504606846976 < n ∨ n < -1152921504606846976)
set_option maxRecDepth 100000 in
theorem huge_any (n : Int) (w : World) : Calls Tryd.prog 11 #[.int .i64 n] w fun e w' => e = .returned (.bool (hugeB n)) ∧ w' = w := by
  obtain ⟨R, hR⟩ : ∃ R, hugeB n = R := ⟨_, rfl⟩
  rw [hR]
  unfold hugeB at hR
  have HR := hideR hR
  clear hR
  go_enter Tryd.func11, Tryd.ntmps11
  go_wp2
  all_goals go_ret
  all_goals
    refine ⟨congrArg (fun b => Ending.returned (.bool b)) ?_, rfl⟩
    rw [← unhideR HR, Bool.eq_iff_iff]
    simp
    try omega
end Go.Proofs.YtkdmeclbnnjdgalDoor
