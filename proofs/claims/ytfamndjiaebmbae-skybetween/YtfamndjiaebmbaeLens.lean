/-
  Roots and lengths, by their contracts.
-/
import Derived.Test.YtfamndjiaebmbaeBits1
import Derived.Test.YtfamndjiaebmbaeLens0
namespace Go.Proofs.Ytfamndjiaebmbae
open Go Go.RowKit

theorem root_any (x : Nat) (w : World) : Calls Try.prog 25 #[.float .f64 x] w fun e w' => ∃ r, e = .returned (.float .f64 r) ∧ FSq x r ∧ ∃ n, w' = w.drewN n := by
  go_enter Try.func25, Try.ntmps25
  go_wp2_with fail
  refine (mathSqrt_any x _).mono ?_
  rintro e w1 ⟨r, rfl, hr, n, rfl⟩
  go_wp2
  go_ret
  exact ⟨r, rfl, hr, n, rfl⟩
theorem length_any (x y z : Nat) (w : World) : Calls Try.prog 35 #[.agg #[.float .f64 x, .float .f64 y, .float .f64 z]] w fun e w' => ∃ r t, e = .returned (.float .f64 r) ∧ Ev (lenE x y z) t ∧ FSq t r ∧ Below w.heap.size w w' := by
  have hm := fun t x y v => run_fmul (P := Try.prog) t x y v
  have hp := fun t x y v => run_fadd (P := Try.prog) t x y v
  go_enter Try.func35, Try.ntmps35
  go_wp2_with fail
  refine (root_any _ _).mono ?_
  rintro e w1 ⟨r, rfl, hr, n, rfl⟩
  have HR := hideR hr
  clear hr
  go_wp2
  go_ret
  exact ⟨r, _, rfl, .op (.op (.op (.num _) (.num _) (fnum_is _ _ _ _)) (.op (.num _) (.num _) (fnum_is _ _ _ _)) (fnum_is _ _ _ _)) (.op (.num _) (.num _) (fnum_is _ _ _ _)) (fnum_is _ _ _ _), unhideR HR, below_drewN ((Below.refl w.heap.size w).alloc (Nat.le_refl _) _) _⟩
end Go.Proofs.Ytfamndjiaebmbae
