/-
  The document's cross product, by its contract.
-/
import Derived.Test.YtfamndjiaebmbaeKit0
namespace Go.Proofs.Ytfamndjiaebmbae
open Go Go.RowKit

def crE (a b c d : Nat) : FE := .op .sub (mE a b) (mE c d)
set_option maxHeartbeats 8000000 in
theorem crossOf_any (px py pz qx qy qz : Nat) (w : World) : Calls Try.prog 39 #[.agg #[.float .f64 px, .float .f64 py, .float .f64 pz], .agg #[.float .f64 qx, .float .f64 qy, .float .f64 qz]] w fun e w' => ∃ v, e = .returned v ∧ VSet (crE py qz pz qy) (crE pz qx px qz) (crE px qy py qx) v ∧ Below w.heap.size w w' := by
  have hsf := run_store_float Try.prog
  go_enter Try.func39, Try.ntmps39
  go_wp2_with fail
  refine upon_float four_mul ?_
  intro m0 n0 h0
  go_wp2_with fail
  refine upon_float four_mul ?_
  intro m1 n1 h1
  go_wp2_with fail
  refine upon_float four_mul ?_
  intro m2 n2 h2
  have H0 := hideR h0
  have H1 := hideR h1
  have H2 := hideR h2
  clear h0 h1 h2
  go_wp2_with fail
  obtain ⟨W, hW⟩ : ∃ W, W = ((((w.alloc (.cells #[.float .f64 px, .float .f64 py, .float .f64 pz] 26)).alloc (.cells #[.float .f64 qx, .float .f64 qy, .float .f64 qz] 26)).alloc (.cells #[.float .f64 0, .float .f64 0, .float .f64 0] 26)).drewN (n0 + n1 + n2)) := ⟨_, rfl⟩
  have hthree : ∀ v, Below W.heap.size W v → v.heap[w.heap.size]? = some (.cells #[.float .f64 px, .float .f64 py, .float .f64 pz] 26) ∧ v.heap[w.heap.size + 1]? = some (.cells #[.float .f64 qx, .float .f64 qy, .float .f64 qz] 26) ∧ v.heap[w.heap.size + 1 + 1]? = some (.cells #[.float .f64 0, .float .f64 0, .float .f64 0] 26) ∧ Below w.heap.size w v := fun v hv => three_blocks (below_go (below_drewN (Below.refl _ _) (n0 + n1 + n2)) (hW ▸ hv))
  rw [← hW]
  have HT := hideR hthree
  clear hthree hW
  refine wp_region_lastB W.heap.size [(· = .float .f64 m0),
    (· = .pointer (some ⟨w.heap.size, 2, none⟩)),
    (· = .float .f64 pz),
    (· = .pointer (some ⟨w.heap.size + 1, 1, none⟩)),
    (· = .float .f64 qy),
    FSet (crE py qz pz qy),
    (· = .float .f64 m1),
    (· = .pointer (some ⟨w.heap.size, 0, none⟩)),
    (· = .float .f64 px),
    (· = .pointer (some ⟨w.heap.size + 1, 2, none⟩)),
    (· = .float .f64 qz),
    FSet (crE pz qx px qz),
    (· = .float .f64 m2),
    (· = .pointer (some ⟨w.heap.size, 1, none⟩)),
    (· = .float .f64 py),
    (· = .pointer (some ⟨w.heap.size + 1, 0, none⟩)),
    (· = .float .f64 qx),
    FSet (crE px qy py qx),
    VSet (crE py qz pz qy) (crE pz qx px qz) (crE px qy py qx)] (by kernel_rfl) (by kernel_rfl) rfl (by kernel_rfl) (by kernel_rfl) ?_
  refine lexM_step (fun K hK => ⟨by kernel_rfl, ⟨_, rfl⟩, fun v hv => ?_, fun v hv => ?_⟩)
  · go_simp
    exact lUpon_b hv
  subst hv
  go_simp
  refine hK _ ?_
  clear hK K
  refine lexM_step (fun K hK => ⟨by kernel_rfl, ⟨_, rfl⟩, fun v hv => ?_, fun v hv => ?_⟩)
  · go_simp
    exact lUpon_b hv
  subst hv
  go_simp
  refine hK _ ?_
  clear hK K
  refine lexM_step (fun K hK => ⟨by kernel_rfl, ⟨_, rfl⟩, fun v hv => ?_, fun v hv => ?_⟩)
  · obtain ⟨⟨c0, c1, c2⟩, _⟩ := three_at (unhideR HT _ hv).1
    go_simp
    exact lUpon_b hv
  subst hv
  go_simp
  refine hK _ ?_
  clear hK K
  refine lexM_step (fun K hK => ⟨by kernel_rfl, ⟨_, rfl⟩, fun v hv => ?_, fun v hv => ?_⟩)
  · go_simp
    exact lUpon_b hv
  subst hv
  go_simp
  refine hK _ ?_
  clear hK K
  refine lexM_step (fun K hK => ⟨by kernel_rfl, ⟨_, rfl⟩, fun v hv => ?_, fun v hv => ?_⟩)
  · obtain ⟨⟨c0, c1, c2⟩, _⟩ := three_at (unhideR HT _ hv).2.1
    go_simp
    exact lUpon_b hv
  subst hv
  go_simp
  refine hK _ ?_
  clear hK K
  refine lexM_step (fun K hK => ⟨by kernel_rfl, fset_some _, fun v hv => ?_, fun v hv => ?_⟩)
  · go_simp
    refine (less_any _ _ _ _).mono ?_
    rintro e w1 ⟨r, rfl, ⟨q, h1, h2⟩, n, rfl⟩
    exact ⟨_, rfl, ⟨r, rfl, .op (ev_m (unhideR H0)) (ev_m h1) h2⟩, below_drewN hv n⟩
  obtain ⟨r0, rfl, e0⟩ := hv
  go_simp
  refine hK _ ?_
  clear hK K
  have E0 := hideR e0
  clear e0
  refine lexM_step (fun K hK => ⟨by kernel_rfl, ⟨_, rfl⟩, fun v hv => ?_, fun v hv => ?_⟩)
  · go_simp
    exact lUpon_b hv
  subst hv
  go_simp
  refine hK _ ?_
  clear hK K
  refine lexM_step (fun K hK => ⟨by kernel_rfl, ⟨_, rfl⟩, fun v hv => ?_, fun v hv => ?_⟩)
  · go_simp
    exact lUpon_b hv
  subst hv
  go_simp
  refine hK _ ?_
  clear hK K
  refine lexM_step (fun K hK => ⟨by kernel_rfl, ⟨_, rfl⟩, fun v hv => ?_, fun v hv => ?_⟩)
  · obtain ⟨⟨c0, c1, c2⟩, _⟩ := three_at (unhideR HT _ hv).1
    go_simp
    exact lUpon_b hv
  subst hv
  go_simp
  refine hK _ ?_
  clear hK K
  refine lexM_step (fun K hK => ⟨by kernel_rfl, ⟨_, rfl⟩, fun v hv => ?_, fun v hv => ?_⟩)
  · go_simp
    exact lUpon_b hv
  subst hv
  go_simp
  refine hK _ ?_
  clear hK K
  refine lexM_step (fun K hK => ⟨by kernel_rfl, ⟨_, rfl⟩, fun v hv => ?_, fun v hv => ?_⟩)
  · obtain ⟨⟨c0, c1, c2⟩, _⟩ := three_at (unhideR HT _ hv).2.1
    go_simp
    exact lUpon_b hv
  subst hv
  go_simp
  refine hK _ ?_
  clear hK K
  refine lexM_step (fun K hK => ⟨by kernel_rfl, fset_some _, fun v hv => ?_, fun v hv => ?_⟩)
  · go_simp
    refine (less_any _ _ _ _).mono ?_
    rintro e w1 ⟨r, rfl, ⟨q, h1, h2⟩, n, rfl⟩
    exact ⟨_, rfl, ⟨r, rfl, .op (ev_m (unhideR H1)) (ev_m h1) h2⟩, below_drewN hv n⟩
  obtain ⟨r1, rfl, e1⟩ := hv
  go_simp
  refine hK _ ?_
  clear hK K
  have E1 := hideR e1
  clear e1
  refine lexM_step (fun K hK => ⟨by kernel_rfl, ⟨_, rfl⟩, fun v hv => ?_, fun v hv => ?_⟩)
  · go_simp
    exact lUpon_b hv
  subst hv
  go_simp
  refine hK _ ?_
  clear hK K
  refine lexM_step (fun K hK => ⟨by kernel_rfl, ⟨_, rfl⟩, fun v hv => ?_, fun v hv => ?_⟩)
  · go_simp
    exact lUpon_b hv
  subst hv
  go_simp
  refine hK _ ?_
  clear hK K
  refine lexM_step (fun K hK => ⟨by kernel_rfl, ⟨_, rfl⟩, fun v hv => ?_, fun v hv => ?_⟩)
  · obtain ⟨⟨c0, c1, c2⟩, _⟩ := three_at (unhideR HT _ hv).1
    go_simp
    exact lUpon_b hv
  subst hv
  go_simp
  refine hK _ ?_
  clear hK K
  refine lexM_step (fun K hK => ⟨by kernel_rfl, ⟨_, rfl⟩, fun v hv => ?_, fun v hv => ?_⟩)
  · go_simp
    exact lUpon_b hv
  subst hv
  go_simp
  refine hK _ ?_
  clear hK K
  refine lexM_step (fun K hK => ⟨by kernel_rfl, ⟨_, rfl⟩, fun v hv => ?_, fun v hv => ?_⟩)
  · obtain ⟨⟨c0, c1, c2⟩, _⟩ := three_at (unhideR HT _ hv).2.1
    go_simp
    exact lUpon_b hv
  subst hv
  go_simp
  refine hK _ ?_
  clear hK K
  refine lexM_step (fun K hK => ⟨by kernel_rfl, fset_some _, fun v hv => ?_, fun v hv => ?_⟩)
  · go_simp
    refine (less_any _ _ _ _).mono ?_
    rintro e w1 ⟨r, rfl, ⟨q, h1, h2⟩, n, rfl⟩
    exact ⟨_, rfl, ⟨r, rfl, .op (ev_m (unhideR H2)) (ev_m h1) h2⟩, below_drewN hv n⟩
  obtain ⟨r2, rfl, e2⟩ := hv
  go_simp
  refine hK _ ?_
  clear hK K
  have E2 := hideR e2
  clear e2
  refine lexM_step (fun K hK => ⟨by kernel_rfl, vset_some _ _ _, fun v hv => ?_, fun v hv => ?_⟩)
  · go_simp
    exact ⟨hv, _, _, _, rfl, unhideR E0, unhideR E1, unhideR E2⟩
  obtain ⟨p, q, r, rfl, e0, e1, e2⟩ := hv
  go_simp
  refine hK _ ?_
  clear hK K
  have E := hideR (And.intro e0 (And.intro e1 e2))
  clear e0 e1 e2 E0 E1 E2
  refine lexM_end (o := _) rfl (by kernel_rfl) (fun v hv => ?_)
  obtain ⟨_, _, h2, hBw⟩ := unhideR HT _ hv
  obtain ⟨⟨j0, j1, j2⟩, f0, f1, f2⟩ := three_at h2
  have HB := hideR hBw
  clear h2 hBw
  unfold Oper.wp
  go_simp
  go_wp2
  simp [bodyPost, results, Try.results39, go_sem, j0, j1, j2]
  exact ⟨⟨p, q, r, rfl, (unhideR E).1, (unhideR E).2.1, (unhideR E).2.2⟩, below_three (unhideR HB) (by omega) _ _ _⟩
end Go.Proofs.Ytfamndjiaebmbae
