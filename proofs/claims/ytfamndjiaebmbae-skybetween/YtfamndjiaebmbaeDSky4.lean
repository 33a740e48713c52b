/-
  Cross and dot products: the program's, by contracts.
-/
import Derived.Test.YtfamndjiaebmbaeDSky2
import Derived.Test.YtfamndjiaebmbaeSky2
namespace Go.Proofs.Ytfamndjiaebmbae
open Go Go.RowKit

set_option maxHeartbeats 8000000 in
theorem cross_any (px py pz qx qy qz : Nat) (w : World) : Calls Try.prog 36 #[.agg #[.float .f64 px, .float .f64 py, .float .f64 pz], .agg #[.float .f64 qx, .float .f64 qy, .float .f64 qz]] w fun e w' => ∃ v, e = .returned v ∧ VSet (crE py qz pz qy) (crE pz qx px qz) (crE px qy py qx) v ∧ Below w.heap.size w w' := by
  have hsf := run_store_float Try.prog
  go_enter Try.func36, Try.ntmps36
  go_wp2_with fail
  refine upon_float four_mul ?_
  intro a0 n_a0 g_a0
  go_wp2_with fail
  refine upon_float four_mul ?_
  intro a1 n_a1 g_a1
  go_wp2_with fail
  refine upon_float four_sub ?_
  intro a n_a g_a
  go_wp2_with fail
  refine upon_float four_mul ?_
  intro b0 n_b0 g_b0
  go_wp2_with fail
  refine upon_float four_mul ?_
  intro b1 n_b1 g_b1
  go_wp2_with fail
  refine upon_float four_sub ?_
  intro b n_b g_b
  go_wp2_with fail
  refine upon_float four_mul ?_
  intro c0 n_c0 g_c0
  go_wp2_with fail
  refine upon_float four_mul ?_
  intro c1 n_c1 g_c1
  go_wp2_with fail
  refine upon_float four_sub ?_
  intro c n_c g_c
  go_wp2
  simp [bodyPost, results, Try.results36, go_sem]
  exact ⟨⟨a, b, c, rfl, .op (ev_m g_a0) (ev_m g_a1) g_a, .op (ev_m g_b0) (ev_m g_b1) g_b, .op (ev_m g_c0) (ev_m g_c1) g_c⟩, below_three (below_drewN (below_al3 w _ _ _) _) (by omega) _ _ _⟩
set_option maxHeartbeats 8000000 in
theorem dot_any (px py pz qx qy qz : Nat) (w : World) : Calls Try.prog 37 #[.agg #[.float .f64 px, .float .f64 py, .float .f64 pz], .agg #[.float .f64 qx, .float .f64 qy, .float .f64 qz]] w fun e w' => ∃ r, e = .returned (.float .f64 r) ∧ Ev (dtE px py pz qx qy qz) r ∧ Below w.heap.size w w' := by
  go_enter Try.func37, Try.ntmps37
  go_wp2_with fail
  refine upon_float four_mul ?_
  intro a n_a g_a
  go_wp2_with fail
  refine upon_float four_mul ?_
  intro b n_b g_b
  go_wp2_with fail
  refine upon_float four_add ?_
  intro s n_s g_s
  go_wp2_with fail
  refine upon_float four_mul ?_
  intro c n_c g_c
  go_wp2_with fail
  refine upon_float four_add ?_
  intro r n_r g_r
  go_wp2
  go_ret
  exact ⟨r, rfl, .op (.op (ev_m g_a) (ev_m g_b) g_s) (ev_m g_c) g_r, below_drewN (below_al2 w _ _) _⟩
end Go.Proofs.Ytfamndjiaebmbae
