/-
  The document's Finite.
-/
import Derived.Test.YtmgnobeaacjdjacFin0
namespace Go.Proofs.Ytmgnobeaacjdjac
open Go Go.RowKit
theorem finite_any (x : Nat) (w : World) : Calls Try.prog 11 #[.float .f64 x] w fun e w' => e = .returned (.bool (finB x)) ∧ ∃ n, w' = w.drewN n := by
  have hs := fun t x y v => run_fsub (P := Try.prog) t x y v
  have hf := sub_self x _ (fnum_is .sub x x w)
  go_enter Try.func11, Try.ntmps11
  go_wp2
  go_ret
  exact ⟨rfl, _, rfl⟩
end Go.Proofs.Ytmgnobeaacjdjac
