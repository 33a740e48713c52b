/-
  The law SkyBetween: its walk.
-/
import Derived.Test.YtfamndjiaebmbaeSkLaw
import Derived.Test.YtfamndjiaebmbaeSkBetM
namespace Go.Proofs.Ytfamndjiaebmbae
open Go Go.RowKit

theorem between_is {a b c d n : Int} (h : FarIs a b c d n) (w : World) : Calls Try.prog 18 #[.agg #[.int .i64 a, .int .i64 b], .agg #[.int .i64 c, .int .i64 d]] w fun e w' => e = .returned (.int .i64 n) ∧ Below w.heap.size w w' := by
  refine (between_any a b c d w).mono ?_
  rintro e w' ⟨m, px, py, pz, qx, qy, qz, rfl, p, q, k, hb⟩
  rw [far_same h ⟨_, _, _, _, _, _, p, q, k⟩]
  exact ⟨rfl, hb⟩
theorem apartFrom_is {a b c d n : Int} (h : FarIs a b c d n) (w : World) : Calls Try.prog 19 #[.agg #[.int .i64 a, .int .i64 b], .agg #[.int .i64 c, .int .i64 d]] w fun e w' => e = .returned (.int .i64 n) ∧ Below w.heap.size w w' := by
  refine (apartFrom_any a b c d w).mono ?_
  rintro e w' ⟨m, px, py, pz, qx, qy, qz, rfl, p, q, k, hb⟩
  rw [far_same h ⟨_, _, _, _, _, _, p, q, k⟩]
  exact ⟨rfl, hb⟩
theorem first_is (w : World) : Calls Try.prog 18 #[.agg #[.int .i64 0, .int .i64 0], .agg #[.int .i64 324000000000, .int .i64 0]] w fun e w' => e = .returned (.int .i64 324000000000) ∧ Below w.heap.size w w' := by
  obtain ⟨n, h⟩ := far_some 0 0 324000000000 0
  obtain rfl := far_quarter h
  exact between_is h w
set_option maxHeartbeats 8000000 in
theorem bet_walk (a b c d : Int) (w : World) :
    Calls Try.prog 6 #[.agg #[.int .i64 a, .int .i64 b], .agg #[.int .i64 c, .int .i64 d]] w fun e w' => e = .returned (.bool true) ∧ Below w.heap.size w w' := by
  obtain ⟨n, hn⟩ := far_some a b c d
  obtain ⟨n', hn'⟩ := far_some c d a b
  obtain rfl := far_swap hn hn'
  have h1 := fun v => between_is hn v
  have h2 := fun v => between_is hn' v
  have h3 := fun v => apartFrom_is hn v
  have h4 := fun v => first_is v
  clear hn hn'
  go_enter Try.func6, Try.ntmps6
  go_wp2_with fail
  refine (h4 _).mono ?_
  rintro e w1 ⟨rfl, k1⟩
  obtain ⟨b0, b1, hB1⟩ := two_blocks k1
  have HW := hideR hB1
  have A0 := hideR b0
  have A1 := hideR b1
  clear k1 b0 b1 hB1 h4
  go_wp2_with fail
  refine wp_region_letsB w1.heap.size [(· = .agg #[.int .i64 a, .int .i64 b]),
    (· = .agg #[.int .i64 a, .int .i64 b]),
    (· = .agg #[.int .i64 c, .int .i64 d]),
    (· = .agg #[.int .i64 c, .int .i64 d]),
    (· = .int .i64 n'),
    (· = .int .i64 n')] (by kernel_rfl) (by kernel_rfl) ?_
  refine lexB_step (fun K hK => ⟨by kernel_rfl, ⟨_, rfl⟩, fun v hv => ?_, fun v hv => ?_⟩)
  · obtain ⟨⟨c0, c1⟩, _⟩ := pair_at (keepB (unhideR A0) hv)
    go_simp
    exact lUpon_b hv
  subst hv
  go_simp
  refine hK _ ?_
  clear hK K
  refine lexB_step (fun K hK => ⟨by kernel_rfl, ⟨_, rfl⟩, fun v hv => ?_, fun v hv => ?_⟩)
  · go_simp
    refine (place_any _ _ _).mono ?_
    rintro e w9 ⟨rfl, k⟩
    exact ⟨_, rfl, rfl, below_on2 hv (Nat.le_refl _) k⟩
  subst hv
  go_simp
  refine hK _ ?_
  clear hK K
  refine lexB_step (fun K hK => ⟨by kernel_rfl, ⟨_, rfl⟩, fun v hv => ?_, fun v hv => ?_⟩)
  · obtain ⟨⟨c0, c1⟩, _⟩ := pair_at (keepB (unhideR A1) hv)
    go_simp
    exact lUpon_b hv
  subst hv
  go_simp
  refine hK _ ?_
  clear hK K
  refine lexB_step (fun K hK => ⟨by kernel_rfl, ⟨_, rfl⟩, fun v hv => ?_, fun v hv => ?_⟩)
  · go_simp
    refine (place_any _ _ _).mono ?_
    rintro e w9 ⟨rfl, k⟩
    exact ⟨_, rfl, rfl, below_on2 hv (Nat.le_refl _) k⟩
  subst hv
  go_simp
  refine hK _ ?_
  clear hK K
  refine lexB_step (fun K hK => ⟨by kernel_rfl, ⟨_, rfl⟩, fun v hv => ?_, fun v hv => ?_⟩)
  · go_simp
    refine (h1 _).mono ?_
    rintro e w9 ⟨rfl, k⟩
    exact ⟨_, rfl, rfl, below_on2 hv (Nat.le_refl _) k⟩
  subst hv
  go_simp
  refine hK _ ?_
  clear hK K
  refine lexB_step (fun K hK => ⟨by kernel_rfl, ⟨_, rfl⟩, fun v hv => ?_, fun v hv => ?_⟩)
  · go_simp
    exact lUpon_b hv
  subst hv
  go_simp
  refine hK _ ?_
  clear hK K
  refine lexL_end ?_
  intro w2 k2
  replace A0 := hideR (keepB (unhideR A0) k2)
  replace A1 := hideR (keepB (unhideR A1) k2)
  replace HW := hideR (below_go (unhideR HW) k2)
  clear k2
  go_wp2_with fail
  refine wp_region_letsB w2.heap.size [(· = .int .i64 n'),
    (· = .agg #[.int .i64 a, .int .i64 b]),
    (· = .agg #[.int .i64 c, .int .i64 d]),
    (· = .int .i64 n'),
    (· = .bool true),
    (· = .bool true),
    (· = .int .i64 n'),
    (· = .agg #[.int .i64 c, .int .i64 d]),
    (· = .agg #[.int .i64 c, .int .i64 d]),
    (· = .agg #[.int .i64 a, .int .i64 b]),
    (· = .agg #[.int .i64 a, .int .i64 b]),
    (· = .int .i64 n'),
    (· = .bool true),
    (· = .bool true),
    (· = .bool true)] (by kernel_rfl) (by kernel_rfl) ?_
  refine lexB_step (fun K hK => ⟨by kernel_rfl, ⟨_, rfl⟩, fun v hv => ?_, fun v hv => ?_⟩)
  · go_simp
    exact lUpon_b hv
  subst hv
  go_simp
  refine hK _ ?_
  clear hK K
  refine lexB_step (fun K hK => ⟨by kernel_rfl, ⟨_, rfl⟩, fun v hv => ?_, fun v hv => ?_⟩)
  · obtain ⟨⟨c0, c1⟩, _⟩ := pair_at (keepB (unhideR A0) hv)
    go_simp
    exact lUpon_b hv
  subst hv
  go_simp
  refine hK _ ?_
  clear hK K
  refine lexB_step (fun K hK => ⟨by kernel_rfl, ⟨_, rfl⟩, fun v hv => ?_, fun v hv => ?_⟩)
  · obtain ⟨⟨c0, c1⟩, _⟩ := pair_at (keepB (unhideR A1) hv)
    go_simp
    exact lUpon_b hv
  subst hv
  go_simp
  refine hK _ ?_
  clear hK K
  refine lexB_step (fun K hK => ⟨by kernel_rfl, ⟨_, rfl⟩, fun v hv => ?_, fun v hv => ?_⟩)
  · go_simp
    refine (h3 _).mono ?_
    rintro e w9 ⟨rfl, k⟩
    exact ⟨_, rfl, rfl, below_on2 hv (Nat.le_refl _) k⟩
  subst hv
  go_simp
  refine hK _ ?_
  clear hK K
  refine lexB_step (fun K hK => ⟨by kernel_rfl, ⟨_, rfl⟩, fun v hv => ?_, fun v hv => ?_⟩)
  · go_simp
    exact lUpon_b hv
  subst hv
  go_simp
  refine hK _ ?_
  clear hK K
  refine lexB_step (fun K hK => ⟨by kernel_rfl, ⟨_, rfl⟩, fun v hv => ?_, fun v hv => ?_⟩)
  · go_simp
    exact lUpon_b hv
  subst hv
  go_simp
  refine hK _ ?_
  clear hK K
  refine lexB_step (fun K hK => ⟨by kernel_rfl, ⟨_, rfl⟩, fun v hv => ?_, fun v hv => ?_⟩)
  · go_simp
    exact lUpon_b hv
  subst hv
  go_simp
  refine hK _ ?_
  clear hK K
  refine lexB_step (fun K hK => ⟨by kernel_rfl, ⟨_, rfl⟩, fun v hv => ?_, fun v hv => ?_⟩)
  · obtain ⟨⟨c0, c1⟩, _⟩ := pair_at (keepB (unhideR A1) hv)
    go_simp
    exact lUpon_b hv
  subst hv
  go_simp
  refine hK _ ?_
  clear hK K
  refine lexB_step (fun K hK => ⟨by kernel_rfl, ⟨_, rfl⟩, fun v hv => ?_, fun v hv => ?_⟩)
  · go_simp
    refine (place_any _ _ _).mono ?_
    rintro e w9 ⟨rfl, k⟩
    exact ⟨_, rfl, rfl, below_on2 hv (Nat.le_refl _) k⟩
  subst hv
  go_simp
  refine hK _ ?_
  clear hK K
  refine lexB_step (fun K hK => ⟨by kernel_rfl, ⟨_, rfl⟩, fun v hv => ?_, fun v hv => ?_⟩)
  · obtain ⟨⟨c0, c1⟩, _⟩ := pair_at (keepB (unhideR A0) hv)
    go_simp
    exact lUpon_b hv
  subst hv
  go_simp
  refine hK _ ?_
  clear hK K
  refine lexB_step (fun K hK => ⟨by kernel_rfl, ⟨_, rfl⟩, fun v hv => ?_, fun v hv => ?_⟩)
  · go_simp
    refine (place_any _ _ _).mono ?_
    rintro e w9 ⟨rfl, k⟩
    exact ⟨_, rfl, rfl, below_on2 hv (Nat.le_refl _) k⟩
  subst hv
  go_simp
  refine hK _ ?_
  clear hK K
  refine lexB_step (fun K hK => ⟨by kernel_rfl, ⟨_, rfl⟩, fun v hv => ?_, fun v hv => ?_⟩)
  · go_simp
    refine (h2 _).mono ?_
    rintro e w9 ⟨rfl, k⟩
    exact ⟨_, rfl, rfl, below_on2 hv (Nat.le_refl _) k⟩
  subst hv
  go_simp
  refine hK _ ?_
  clear hK K
  refine lexB_step (fun K hK => ⟨by kernel_rfl, ⟨_, rfl⟩, fun v hv => ?_, fun v hv => ?_⟩)
  · go_simp
    exact lUpon_b hv
  subst hv
  go_simp
  refine hK _ ?_
  clear hK K
  refine lexB_step (fun K hK => ⟨by kernel_rfl, ⟨_, rfl⟩, fun v hv => ?_, fun v hv => ?_⟩)
  · go_simp
    exact lUpon_b hv
  subst hv
  go_simp
  refine hK _ ?_
  clear hK K
  refine lexB_step (fun K hK => ⟨by kernel_rfl, ⟨_, rfl⟩, fun v hv => ?_, fun v hv => ?_⟩)
  · go_simp
    exact lUpon_b hv
  subst hv
  go_simp
  refine hK _ ?_
  clear hK K
  refine lexL_end ?_
  intro w5 k5
  have HB := hideR (below_go (unhideR HW) k5)
  clear k5
  go_wp2
  go_ret
  exact ⟨rfl, unhideR HB⟩
end Go.Proofs.Ytfamndjiaebmbae
