/-
  The document's Signed.
-/
import Derived.Test.YtfamndjiaebmbaeNrm0
namespace Go.Proofs.Ytfamndjiaebmbae
open Go.RowKit

theorem signedOf_any (a : Int) (w : World) :
    Calls Try.prog 14 #[.int .i64 a] w fun e w' => e = .returned (.int .i64 (sgd a)) ∧ w' = w := by
  have hn := nrm_range a
  obtain ⟨hn1, hn2⟩ := hn
  unfold sgd
  by_cases h : 648000000000 < nrm a
  · rw [if_pos h]
    go_enter Try.func14, Try.ntmps14
    go_wp2_with (go_at_call 31; refine (normOf_any _ _).mono ?_; rintro e w' ⟨rfl, rfl⟩)
    go_ret
    exact ⟨rfl, rfl⟩
  · rw [if_neg h]
    go_enter Try.func14, Try.ntmps14
    go_wp2_with (go_at_call 31; refine (normOf_any _ _).mono ?_; rintro e w' ⟨rfl, rfl⟩)
    go_ret
    exact ⟨rfl, rfl⟩
end Go.Proofs.Ytfamndjiaebmbae
