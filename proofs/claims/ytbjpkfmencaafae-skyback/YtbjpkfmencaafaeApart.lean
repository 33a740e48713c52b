/-
  How far two angles are apart: the program's, by its contract.
-/
import Derived.Test.YtbjpkfmencaafaeSgd
namespace Go.Proofs.Ytbjpkfmencaafae
open Go.RowKit

theorem apart_any (a b : Int) (w : World) :
    Calls Try.prog 15 #[.int .i64 a, .int .i64 b] w fun e w' => e = .returned (.int .i64 (apt a b)) ∧ w' = w := by
  obtain ⟨d1, d2⟩ := sgd_range (nrm a - nrm b)
  go_enter Try.func15, Try.ntmps15
  go_wp2_with (first
    | (go_at_call 33; refine (difference_any _ _ _).mono ?_; rintro e w' ⟨rfl, rfl⟩)
    | (go_at_call 32; refine (size_any _ _ (by omega) (by omega)).mono ?_; rintro e w' ⟨rfl, rfl⟩))
  go_ret
  exact ⟨rfl, rfl⟩
end Go.Proofs.Ytbjpkfmencaafae
