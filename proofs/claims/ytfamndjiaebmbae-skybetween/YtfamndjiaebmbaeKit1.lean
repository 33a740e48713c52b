/-
  The document's dot product.
-/
import Derived.Test.YtfamndjiaebmbaeBits1
import Derived.Test.YtfamndjiaebmbaeKit0
namespace Go.Proofs.Ytfamndjiaebmbae
open Go Go.RowKit

set_option maxHeartbeats 8000000 in
theorem dotOf_any (a b c x y z : Nat) (w : World) : Calls Try.prog 40 #[.agg #[.float .f64 a, .float .f64 b, .float .f64 c], .agg #[.float .f64 x, .float .f64 y, .float .f64 z]] w fun e w' => ∃ r, e = .returned (.float .f64 r) ∧ Ev (dtE a b c x y z) r ∧ Below w.heap.size w w' := by
  go_enter Try.func40, Try.ntmps40
  go_wp2_with fail
  refine upon_float four_mul ?_
  intro r n hr
  iterate 2
    go_wp2_with fail
    refine (plus_any _ _ _ _).mono ?_
    rintro e w1 ⟨r2, rfl, ⟨p, hp, hr2⟩, n2, rfl⟩
  go_wp2
  go_ret
  refine ⟨_, rfl, ?_, below_drewN (below_al2 w _ _) _⟩
  repeat' (first | exact Ev.num _ | refine Ev.op ?_ ?_ (by assumption))
end Go.Proofs.Ytfamndjiaebmbae
