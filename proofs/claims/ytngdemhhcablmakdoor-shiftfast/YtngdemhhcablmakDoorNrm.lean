/-
  Angles: the program's Norm.
-/
import Derived.Test.YtngdemhhcablmakDoorNrm0
namespace Go.Proofs.YtngdemhhcablmakDoor
open Go.RowKit

theorem norm_any (a : Int) (w : World) :
    Calls Tryd.prog 65 #[.int .i64 a] w fun e w' => e = .returned (.int .i64 (nrm a)) ∧ w' = w := by
  have ht := tmod_nrm a
  generalize hr : a.tmod 1296000000000 = r at ht
  rcases ht with ⟨h1, h2, h3⟩ | ⟨h1, h2⟩
  · rw [h2]
    clear h2
    go_enter Tryd.func65, Tryd.ntmps65
    go_wp2
    go_ret
    exact ⟨rfl, rfl⟩
  · rw [h2]
    clear h2
    go_enter Tryd.func65, Tryd.ntmps65
    go_wp2
    go_ret
    exact ⟨rfl, rfl⟩

end Go.Proofs.YtngdemhhcablmakDoor
