/-
  Signed, Apart and the document's.
-/
import Derived.Test.YtfamndjiaebmbaeNrm
namespace Go.Proofs.Ytfamndjiaebmbae
open Go.RowKit

theorem signed_any (a : Int) (w : World) :
    Calls Try.prog 26 #[.int .i64 a] w fun e w' => e = .returned (.int .i64 (sgd a)) ∧ w' = w := by
  have hn := nrm_range a
  obtain ⟨hn1, hn2⟩ := hn
  unfold sgd
  by_cases h : 648000000000 < nrm a
  · rw [if_pos h]
    go_enter Try.func26, Try.ntmps26
    go_wp2_with (go_at_call 49; refine (norm_any _ _).mono ?_; rintro e w' ⟨rfl, rfl⟩)
    go_ret
    exact ⟨rfl, rfl⟩
  · rw [if_neg h]
    go_enter Try.func26, Try.ntmps26
    go_wp2_with (go_at_call 49; refine (norm_any _ _).mono ?_; rintro e w' ⟨rfl, rfl⟩)
    go_ret
    exact ⟨rfl, rfl⟩

theorem size_any (d : Int) (w : World) (h1 : -9000000000000000000 ≤ d) (h2 : d ≤ 9000000000000000000) :
    Calls Try.prog 32 #[.int .i64 d] w fun e w' => e = .returned (.int .i64 (far d)) ∧ w' = w := by
  unfold far
  by_cases h : d < 0
  · rw [if_pos h]
    go_enter Try.func32, Try.ntmps32
    go_wp2
    go_ret
    exact ⟨rfl, rfl⟩
  · rw [if_neg h]
    go_enter Try.func32, Try.ntmps32
    go_wp2
    go_ret
    exact ⟨rfl, rfl⟩

theorem difference_any (a b : Int) (w : World) :
    Calls Try.prog 33 #[.int .i64 a, .int .i64 b] w fun e w' => e = .returned (.int .i64 (sgd (nrm a - nrm b))) ∧ w' = w := by
  obtain ⟨a1, a2⟩ := nrm_range a
  obtain ⟨b1, b2⟩ := nrm_range b
  go_enter Try.func33, Try.ntmps33
  go_wp2_with (first
    | (go_at_call 49; refine (norm_any _ _).mono ?_; rintro e w' ⟨rfl, rfl⟩)
    | (go_at_call 26; refine (signed_any _ _).mono ?_; rintro e w' ⟨rfl, rfl⟩))
  go_ret
  exact ⟨rfl, rfl⟩
end Go.Proofs.Ytfamndjiaebmbae
