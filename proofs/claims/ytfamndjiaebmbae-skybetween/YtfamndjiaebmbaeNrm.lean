/-
  Angles: the program's Norm.
-/
import Derived.Test.YtfamndjiaebmbaeNrm0
namespace Go.Proofs.Ytfamndjiaebmbae
open Go.RowKit

theorem norm_any (a : Int) (w : World) :
    Calls Try.prog 49 #[.int .i64 a] w fun e w' => e = .returned (.int .i64 (nrm a)) ∧ w' = w := by
  have ht := tmod_nrm a
  generalize hr : a.tmod 1296000000000 = r at ht
  rcases ht with ⟨h1, h2, h3⟩ | ⟨h1, h2⟩
  · rw [h2]
    clear h2
    go_enter Try.func49, Try.ntmps49
    go_wp2
    go_ret
    exact ⟨rfl, rfl⟩
  · rw [h2]
    clear h2
    go_enter Try.func49, Try.ntmps49
    go_wp2
    go_ret
    exact ⟨rfl, rfl⟩

end Go.Proofs.Ytfamndjiaebmbae
