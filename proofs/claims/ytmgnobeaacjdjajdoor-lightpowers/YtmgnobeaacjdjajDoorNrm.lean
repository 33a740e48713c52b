/-
  Angles: the program's Norm.
-/
import Derived.Test.YtmgnobeaacjdjajDoorNrm0
namespace Go.Proofs.YtmgnobeaacjdjajDoor
open Go.RowKit

theorem norm_any (a : Int) (w : World) :
    Calls Tryd.prog 74 #[.int .i64 a] w fun e w' => e = .returned (.int .i64 (nrm a)) ∧ w' = w := by
  have ht := tmod_nrm a
  generalize hr : a.tmod 1296000000000 = r at ht
  rcases ht with ⟨h1, h2, h3⟩ | ⟨h1, h2⟩
  · rw [h2]
    clear h2
    go_enter Tryd.func74, Tryd.ntmps74
    go_wp2
    go_ret
    exact ⟨rfl, rfl⟩
  · rw [h2]
    clear h2
    go_enter Tryd.func74, Tryd.ntmps74
    go_wp2
    go_ret
    exact ⟨rfl, rfl⟩

end Go.Proofs.YtmgnobeaacjdjajDoor
