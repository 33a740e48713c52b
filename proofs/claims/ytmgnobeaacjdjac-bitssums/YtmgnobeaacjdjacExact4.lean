/-
  The program's exact sums: held against each other, taken away, by their contracts.
-/
import Derived.Test.YtmgnobeaacjdjacExact2
import Derived.Deep.QuietTactic
namespace Go.Proofs.Ytmgnobeaacjdjac
open Go Go.RowKit

theorem dv_not_less {v u : Nat → Nat} (h : ∀ j, 0 ≤ j → j < 34 → v j = u j) : ¬ dv 64 v 34 < dv 64 u 34 := by
  rw [dv_congr (v := v) (u := u) fun j hj => h j (Nat.zero_le _) hj]
  exact Nat.lt_irrefl _
theorem two64 : (2 : Nat) ^ 64 = 18446744073709551616 := by decide
theorem dv_decides {v u : Nat → Nat} {i : Nat} (hi : i < 34) (hv : ∀ j, v j < 18446744073709551616) (hu : ∀ j, u j < 18446744073709551616) (he : ∀ j, i < j → j < 34 → v j = u j) (hne : v i ≠ u i) :
    decide (dv 64 v 34 < dv 64 u 34) = decide (v i < u i) := by
  rcases Nat.lt_or_gt_of_ne hne with h | h
  · have h1 := dv_less (b := 64) hi (fun j _ => by rw [two64]; exact hv j) (fun j _ => by rw [two64]; exact hu j) he h
    rw [decide_eq_true h1, decide_eq_true h]
  · have h1 := dv_less (b := 64) hi (fun j _ => by rw [two64]; exact hu j) (fun j _ => by rw [two64]; exact hv j) (fun j a b => (he j a b).symm) h
    rw [decide_eq_false (Nat.lt_asymm h1), decide_eq_false (Nat.lt_asymm h)]
end Go.Proofs.Ytmgnobeaacjdjac
