/-
  The program's sum of a row of the call's own.
-/
import Derived.Test.YtmgnobeaacjdjacDSum2
import Derived.OwnWalk
namespace Go.Proofs.Ytmgnobeaacjdjac
open Go Go.RowKit

theorem dsum_own {w : World} {B n : Nat} {v : Value} {xs : List Nat} (hown : w.ownsRow B 23 1 v n (xs.map (Value.float .f64))) (hn : xs.length = n) (hl : xs.length ≤ 400) (hx : ∀ x ∈ xs, x < 18446744073709551616) :
    Calls Try.prog 8 #[v] w fun e w' => ∃ r, e = .returned (.float .f64 r) ∧ FSame r (sumV xs) ∧ Below w.heap.size w w' := by
  rcases hown.2 with ⟨h1, h2⟩ | ⟨g, cap, cur, h1, h3, h4, _⟩
  · subst h1
    have : xs = [] := List.eq_nil_of_length_eq_zero (by omega)
    subst this
    exact dsum_nil w
  · subst h1
    subst hn
    have hg : g < w.heap.size := by
      rcases Nat.lt_or_ge g w.heap.size with h | h
      · exact h
      · rw [Array.getElem?_eq_none h] at h4; cases h4
    refine dsum_any g 0 cap xs w (fun j hj => ?_) hl hx hg
    have h := hown.cellAt j (by omega)
    rw [Nat.zero_add, h]
    simp [List.getD, hj]
end Go.Proofs.Ytmgnobeaacjdjac
