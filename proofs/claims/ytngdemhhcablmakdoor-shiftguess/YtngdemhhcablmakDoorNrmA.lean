/-
  Angles: the document's norm, by its contract. Angles: the program's Norm.
-/
import Derived.Test.YtngdemhhcablmakDoorProg
import Derived.WalkKit
import Derived.ProofKit
namespace Go.Proofs.YtngdemhhcablmakDoor
open Go.RowKit

/-- An angle but for whole turns. -/
def nrm (a : Int) : Int := a % 1296000000000
def sgd (a : Int) : Int := if 648000000000 < nrm a then nrm a - 1296000000000 else nrm a
def far (d : Int) : Int := if d < 0 then -d else d
def apt (a b : Int) : Int := far (sgd (nrm a - nrm b))

theorem nrm_range (a : Int) : 0 ≤ nrm a ∧ nrm a < 1296000000000 := by unfold nrm; omega
theorem sgd_range (a : Int) : -648000000000 < sgd a ∧ sgd a ≤ 648000000000 := by
  have := nrm_range a
  unfold sgd; split <;> omega
theorem tmod_nrm (a : Int) : (a.tmod 1296000000000 < 0 ∧ nrm a = a.tmod 1296000000000 + 1296000000000 ∧ -1296000000000 < a.tmod 1296000000000) ∨ (0 ≤ a.tmod 1296000000000 ∧ nrm a = a.tmod 1296000000000) := by
  unfold nrm
  rcases (show 0 ≤ a ∨ a < 0 by omega) with h | h
  · right
    rw [Int.tmod_eq_emod_of_nonneg h]
    omega
  · have e : a.tmod 1296000000000 = -((-a) % 1296000000000) := by
      rw [← Int.tmod_eq_emod_of_nonneg (by omega : 0 ≤ -a), Int.neg_tmod, Int.neg_neg]
    rw [e]
    rcases (show (-a) % 1296000000000 = 0 ∨ (-a) % 1296000000000 ≠ 0 by omega) with h0 | h0
    · right; omega
    · left; omega

theorem normOf_any (a : Int) (w : World) :
    Calls Tryd.prog 62 #[.int .i64 a] w fun e w' => e = .returned (.int .i64 (nrm a)) ∧ w' = w := by
  have ht := tmod_nrm a
  generalize hr : a.tmod 1296000000000 = r at ht
  rcases ht with ⟨h1, h2, h3⟩ | ⟨h1, h2⟩
  · rw [h2]
    clear h2
    go_enter Tryd.func62, Tryd.ntmps62
    go_wp2
    go_ret
    exact ⟨rfl, rfl⟩
  · rw [h2]
    clear h2
    go_enter Tryd.func62, Tryd.ntmps62
    go_wp2
    go_ret
    exact ⟨rfl, rfl⟩
end Go.Proofs.YtngdemhhcablmakDoor
namespace Go.Proofs.YtngdemhhcablmakDoor
open Go.RowKit

theorem norm_any (a : Int) (w : World) :
    Calls Tryd.prog 65 #[.int .i64 a] w fun e w' => e = .returned (.int .i64 (nrm a)) ∧ w' = w := by
  have ht := tmod_nrm a
  generalize hr : a.tmod 1296000000000 = r at ht
  rcases ht with ⟨h1, h2, h3⟩ | ⟨h1, h2⟩
  · rw [h2]
    clear h2
    go_enter Tryd.func65, Tryd.ntmps65
    go_wp2
    go_ret
    exact ⟨rfl, rfl⟩
  · rw [h2]
    clear h2
    go_enter Tryd.func65, Tryd.ntmps65
    go_wp2
    go_ret
    exact ⟨rfl, rfl⟩

end Go.Proofs.YtngdemhhcablmakDoor
