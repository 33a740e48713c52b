/-
  A vector, turned; the document's matrices: by contracts.
-/
import Derived.Test.YtbobnmaeiohnnadSpin6
namespace Go.Proofs.Ytbobnmaeiohnnad
open Go Go.RowKit

def MSet (a b c d : Nat) (v : Value) : Prop := ∃ x0 x1 x2 x3 x4 x5 x6 x7 x8, v = .agg (nine x0 x1 x2 x3 x4 x5 x6 x7 x8) ∧ Made (RowRel a b c d) 3 x0 x1 x2 x3 x4 x5 x6 x7 x8
theorem mset_some (a b c d : Nat) : ∃ v, MSet a b c d v := by
  obtain ⟨x0, h0⟩ := ev_some (dgE c d)
  obtain ⟨x1, h1⟩ := ev_some (loE b c a d)
  obtain ⟨x2, h2⟩ := ev_some (upE b d a c)
  obtain ⟨x3, h3⟩ := ev_some (upE c b a d)
  obtain ⟨x4, h4⟩ := ev_some (dgE d b)
  obtain ⟨x5, h5⟩ := ev_some (loE c d a b)
  obtain ⟨x6, h6⟩ := ev_some (loE d b a c)
  obtain ⟨x7, h7⟩ := ev_some (upE d c a b)
  obtain ⟨x8, h8⟩ := ev_some (dgE b c)
  exact ⟨_, x0, x1, x2, x3, x4, x5, x6, x7, x8, rfl, ⟨fun _ => ⟨fun _ => ⟨h0, h1, h2⟩, fun h => absurd h (by decide), fun h => absurd h (by decide)⟩, fun _ => ⟨fun h => absurd h (by decide), fun _ => ⟨h3, h4, h5⟩, fun h => absurd h (by decide)⟩, fun _ => ⟨fun h => absurd h (by decide), fun h => absurd h (by decide), fun _ => ⟨h6, h7, h8⟩⟩⟩⟩
def TSet (a b c d x y z : Nat) (v : Value) : Prop := ∃ p q r x0 x1 x2 x3 x4 x5 x6 x7 x8, v = .agg #[.float .f64 p, .float .f64 q, .float .f64 r] ∧ Made (RowRel a b c d) 3 x0 x1 x2 x3 x4 x5 x6 x7 x8 ∧ Ev (dtE x0 x1 x2 x y z) p ∧ Ev (dtE x3 x4 x5 x y z) q ∧ Ev (dtE x6 x7 x8 x y z) r
theorem tset_some (a b c d x y z : Nat) : ∃ v, TSet a b c d x y z v := by
  obtain ⟨_, x0, x1, x2, x3, x4, x5, x6, x7, x8, _, h⟩ := mset_some a b c d
  obtain ⟨p, hp⟩ := ev_some (dtE x0 x1 x2 x y z)
  obtain ⟨q, hq⟩ := ev_some (dtE x3 x4 x5 x y z)
  obtain ⟨r, hr⟩ := ev_some (dtE x6 x7 x8 x y z)
  exact ⟨_, p, q, r, x0, x1, x2, x3, x4, x5, x6, x7, x8, rfl, h, hp, hq, hr⟩
set_option maxHeartbeats 8000000 in
theorem turn_any (a b c d x y z : Nat) (w : World) : Calls Try.prog 30 #[.agg #[.float .f64 a, .float .f64 b, .float .f64 c, .float .f64 d], .agg #[.float .f64 x, .float .f64 y, .float .f64 z]] w fun e w' => ∃ v, e = .returned v ∧ TSet a b c d x y z v ∧ Below w.heap.size w w' := by
  have hsf := run_store_float Try.prog
  obtain ⟨W, hW⟩ : ∃ W, W = (((w.alloc (.cells #[.float .f64 a, .float .f64 b, .float .f64 c, .float .f64 d] 33)).alloc (.cells #[.float .f64 x, .float .f64 y, .float .f64 z] 46)).alloc (.cells #[.float .f64 0, .float .f64 0, .float .f64 0] 46)) := ⟨_, rfl⟩
  have hthree : ∀ v, Below W.heap.size W v → v.heap[w.heap.size]? = some (.cells #[.float .f64 a, .float .f64 b, .float .f64 c, .float .f64 d] 33) ∧ v.heap[w.heap.size + 1]? = some (.cells #[.float .f64 x, .float .f64 y, .float .f64 z] 46) ∧ v.heap[w.heap.size + 1 + 1]? = some (.cells #[.float .f64 0, .float .f64 0, .float .f64 0] 46) ∧ Below w.heap.size w v := fun v hv => three_blocks (hW ▸ hv)
  have HT := hideR hthree
  have hWW := hideR hW.symm
  clear hthree hW
  go_enter Try.func30, Try.ntmps30
  go_wp2_with fail
  rw [unhideR hWW]
  clear hWW
  refine wp_region_lastB W.heap.size [(· = .agg #[.float .f64 a, .float .f64 b, .float .f64 c, .float .f64 d]), MSet a b c d, (· = .agg #[.float .f64 x, .float .f64 y, .float .f64 z]), TSet a b c d x y z] (by kernel_rfl) (by kernel_rfl) rfl (by kernel_rfl) (by kernel_rfl) ?_
  refine lexM_step (fun K hK => ⟨by kernel_rfl, ⟨_, rfl⟩, fun v hv => ?_, fun v hv => ?_⟩)
  · obtain ⟨⟨c0, c1, c2, c3⟩, _⟩ := four_at (unhideR HT _ hv).1
    go_simp
    exact lUpon_b hv
  subst hv
  go_simp
  refine hK _ ?_
  clear hK K
  refine lexM_step (fun K hK => ⟨by kernel_rfl, mset_some _ _ _ _, fun v hv => ?_, fun v hv => ?_⟩)
  · go_simp
    refine (matrix_any _ _ _ _ _).mono ?_
    rintro e w1 ⟨x0, x1, x2, x3, x4, x5, x6, x7, x8, rfl, hM, k⟩
    exact ⟨_, rfl, ⟨x0, x1, x2, x3, x4, x5, x6, x7, x8, rfl, hM⟩, below_on2 hv (Nat.le_refl _) k⟩
  obtain ⟨x0, x1, x2, x3, x4, x5, x6, x7, x8, rfl, hM⟩ := hv
  go_simp
  refine hK _ ?_
  clear hK K
  have E := hideR hM
  clear hM
  refine lexM_step (fun K hK => ⟨by kernel_rfl, ⟨_, rfl⟩, fun v hv => ?_, fun v hv => ?_⟩)
  · obtain ⟨⟨c0, c1, c2⟩, _⟩ := three_at (unhideR HT _ hv).2.1
    go_simp
    exact lUpon_b hv
  subst hv
  go_simp
  refine hK _ ?_
  clear hK K
  refine lexM_step (fun K hK => ⟨by kernel_rfl, tset_some _ _ _ _ _ _ _, fun v hv => ?_, fun v hv => ?_⟩)
  · go_simp
    refine (apply_any x0 x1 x2 x3 x4 x5 x6 x7 x8 x y z _).mono ?_
    rintro e w1 ⟨p, q, r, rfl, hp, hq, hr, k⟩
    exact ⟨_, rfl, ⟨p, q, r, x0, x1, x2, x3, x4, x5, x6, x7, x8, rfl, unhideR E, hp, hq, hr⟩, below_on2 hv (Nat.le_refl _) k⟩
  obtain ⟨p, q, r, y0, y1, y2, y3, y4, y5, y6, y7, y8, rfl, h⟩ := hv
  go_simp
  refine hK _ ?_
  clear hK K
  have F := hideR h
  clear h E
  refine lexM_end (o := _) rfl (by kernel_rfl) (fun v hv => ?_)
  obtain ⟨_, _, h2, hBw⟩ := unhideR HT _ hv
  obtain ⟨⟨j0, j1, j2⟩, f0, f1, f2⟩ := three_at h2
  have HB := hideR hBw
  clear h2 hBw
  unfold Oper.wp
  go_simp
  go_wp2
  simp [bodyPost, results, Try.results30, go_sem, j0, j1, j2]
  exact ⟨⟨p, q, r, y0, y1, y2, y3, y4, y5, y6, y7, y8, rfl, unhideR F⟩, (((unhideR HB).setCell (by show w.heap.size ≤ w.heap.size + 1 + 1; omega) _).setCell (by show w.heap.size ≤ w.heap.size + 1 + 1; omega) _).setCell (by show w.heap.size ≤ w.heap.size + 1 + 1; omega) _⟩
set_option maxHeartbeats 8000000 in
theorem dotOf_any (a b c x y z : Nat) (w : World) : Calls Try.prog 39 #[.agg #[.float .f64 a, .float .f64 b, .float .f64 c], .agg #[.float .f64 x, .float .f64 y, .float .f64 z]] w fun e w' => ∃ r, e = .returned (.float .f64 r) ∧ Ev (dtE a b c x y z) r ∧ Below w.heap.size w w' := by
  go_enter Try.func39, Try.ntmps39
  go_wp2_with fail
  refine upon_float four_mul ?_
  intro r n hr
  iterate 2
    go_wp2_with fail
    refine (plus_any _ _ _ _).mono ?_
    rintro e w1 ⟨r2, rfl, ⟨p, hp, hr2⟩, n2, rfl⟩
  go_wp2
  go_ret
  refine ⟨_, rfl, ?_, below_drewN (below_al2 w _ _) _⟩
  repeat' (first | exact Ev.num _ | refine Ev.op ?_ ?_ (by assumption))
set_option maxHeartbeats 8000000 in
theorem applyTo_any (x0 x1 x2 x3 x4 x5 x6 x7 x8 x y z : Nat) (w : World) : Calls Try.prog 31 #[.agg (nine x0 x1 x2 x3 x4 x5 x6 x7 x8), .agg #[.float .f64 x, .float .f64 y, .float .f64 z]] w fun e w' => ∃ v, e = .returned v ∧ VSet (dtE x0 x1 x2 x y z) (dtE x3 x4 x5 x y z) (dtE x6 x7 x8 x y z) v ∧ Below w.heap.size w w' := by
  have hsf := run_store_float Try.prog
  have e9 : nine x0 x1 x2 x3 x4 x5 x6 x7 x8 = #[.float .f64 x0, .float .f64 x1, .float .f64 x2, .float .f64 x3, .float .f64 x4, .float .f64 x5, .float .f64 x6, .float .f64 x7, .float .f64 x8] := rfl
  rw [e9]
  clear e9
  obtain ⟨W, hW⟩ : ∃ W, W = (((w.alloc (.cells (nine x0 x1 x2 x3 x4 x5 x6 x7 x8) 53)).alloc (.cells #[.float .f64 x, .float .f64 y, .float .f64 z] 46)).alloc (.cells #[.float .f64 0, .float .f64 0, .float .f64 0] 46)) := ⟨_, rfl⟩
  have hthree : ∀ v, Below W.heap.size W v → v.heap[w.heap.size]? = some (.cells (nine x0 x1 x2 x3 x4 x5 x6 x7 x8) 53) ∧ v.heap[w.heap.size + 1]? = some (.cells #[.float .f64 x, .float .f64 y, .float .f64 z] 46) ∧ v.heap[w.heap.size + 1 + 1]? = some (.cells #[.float .f64 0, .float .f64 0, .float .f64 0] 46) ∧ Below w.heap.size w v := fun v hv => three_blocks (hW ▸ hv)
  have HT := hideR hthree
  have hWW := hideR hW.symm
  clear hthree hW
  go_enter Try.func31, Try.ntmps31
  go_wp2_with fail
  have hWW := unhideR hWW
  unfold nine at hWW
  rw [hWW]
  clear hWW
  refine wp_region_lastB W.heap.size [(· = .pointer (some ⟨w.heap.size, 0, none⟩)),
    (· = .agg #[.float .f64 x0, .float .f64 x1, .float .f64 x2]),
    (· = .agg #[.float .f64 x, .float .f64 y, .float .f64 z]),
    FSet (dtE x0 x1 x2 x y z),
    (· = .pointer (some ⟨w.heap.size, 3, none⟩)),
    (· = .agg #[.float .f64 x3, .float .f64 x4, .float .f64 x5]),
    (· = .agg #[.float .f64 x, .float .f64 y, .float .f64 z]),
    FSet (dtE x3 x4 x5 x y z),
    (· = .pointer (some ⟨w.heap.size, 6, none⟩)),
    (· = .agg #[.float .f64 x6, .float .f64 x7, .float .f64 x8]),
    (· = .agg #[.float .f64 x, .float .f64 y, .float .f64 z]),
    FSet (dtE x6 x7 x8 x y z),
    VSet (dtE x0 x1 x2 x y z) (dtE x3 x4 x5 x y z) (dtE x6 x7 x8 x y z)] (by kernel_rfl) (by kernel_rfl) rfl (by kernel_rfl) (by kernel_rfl) ?_
  refine lexM_step (fun K hK => ⟨by kernel_rfl, ⟨_, rfl⟩, fun v hv => ?_, fun v hv => ?_⟩)
  · go_simp
    exact lUpon_b hv
  subst hv
  go_simp
  refine hK _ ?_
  clear hK K
  refine lexM_step (fun K hK => ⟨by kernel_rfl, ⟨_, rfl⟩, fun v hv => ?_, fun v hv => ?_⟩)
  · obtain ⟨⟨c0, c1, c2, c3, c4, c5, c6, c7, c8⟩, _⟩ := nine_at (unhideR HT _ hv).1
    go_simp
    exact lUpon_b hv
  subst hv
  go_simp
  refine hK _ ?_
  clear hK K
  refine lexM_step (fun K hK => ⟨by kernel_rfl, ⟨_, rfl⟩, fun v hv => ?_, fun v hv => ?_⟩)
  · obtain ⟨⟨c0, c1, c2⟩, _⟩ := three_at (unhideR HT _ hv).2.1
    go_simp
    exact lUpon_b hv
  subst hv
  go_simp
  refine hK _ ?_
  clear hK K
  refine lexM_step (fun K hK => ⟨by kernel_rfl, fset_some _, fun v hv => ?_, fun v hv => ?_⟩)
  · go_simp
    refine (dotOf_any x0 x1 x2 x y z _).mono ?_
    rintro e w1 ⟨r, rfl, hr, k⟩
    exact ⟨_, rfl, ⟨r, rfl, hr⟩, below_on2 hv (Nat.le_refl _) k⟩
  obtain ⟨r0, rfl, e0⟩ := hv
  go_simp
  refine hK _ ?_
  clear hK K
  have E0 := hideR e0
  clear e0
  refine lexM_step (fun K hK => ⟨by kernel_rfl, ⟨_, rfl⟩, fun v hv => ?_, fun v hv => ?_⟩)
  · go_simp
    exact lUpon_b hv
  subst hv
  go_simp
  refine hK _ ?_
  clear hK K
  refine lexM_step (fun K hK => ⟨by kernel_rfl, ⟨_, rfl⟩, fun v hv => ?_, fun v hv => ?_⟩)
  · obtain ⟨⟨c0, c1, c2, c3, c4, c5, c6, c7, c8⟩, _⟩ := nine_at (unhideR HT _ hv).1
    go_simp
    exact lUpon_b hv
  subst hv
  go_simp
  refine hK _ ?_
  clear hK K
  refine lexM_step (fun K hK => ⟨by kernel_rfl, ⟨_, rfl⟩, fun v hv => ?_, fun v hv => ?_⟩)
  · obtain ⟨⟨c0, c1, c2⟩, _⟩ := three_at (unhideR HT _ hv).2.1
    go_simp
    exact lUpon_b hv
  subst hv
  go_simp
  refine hK _ ?_
  clear hK K
  refine lexM_step (fun K hK => ⟨by kernel_rfl, fset_some _, fun v hv => ?_, fun v hv => ?_⟩)
  · go_simp
    refine (dotOf_any x3 x4 x5 x y z _).mono ?_
    rintro e w1 ⟨r, rfl, hr, k⟩
    exact ⟨_, rfl, ⟨r, rfl, hr⟩, below_on2 hv (Nat.le_refl _) k⟩
  obtain ⟨r1, rfl, e1⟩ := hv
  go_simp
  refine hK _ ?_
  clear hK K
  have E1 := hideR e1
  clear e1
  refine lexM_step (fun K hK => ⟨by kernel_rfl, ⟨_, rfl⟩, fun v hv => ?_, fun v hv => ?_⟩)
  · go_simp
    exact lUpon_b hv
  subst hv
  go_simp
  refine hK _ ?_
  clear hK K
  refine lexM_step (fun K hK => ⟨by kernel_rfl, ⟨_, rfl⟩, fun v hv => ?_, fun v hv => ?_⟩)
  · obtain ⟨⟨c0, c1, c2, c3, c4, c5, c6, c7, c8⟩, _⟩ := nine_at (unhideR HT _ hv).1
    go_simp
    exact lUpon_b hv
  subst hv
  go_simp
  refine hK _ ?_
  clear hK K
  refine lexM_step (fun K hK => ⟨by kernel_rfl, ⟨_, rfl⟩, fun v hv => ?_, fun v hv => ?_⟩)
  · obtain ⟨⟨c0, c1, c2⟩, _⟩ := three_at (unhideR HT _ hv).2.1
    go_simp
    exact lUpon_b hv
  subst hv
  go_simp
  refine hK _ ?_
  clear hK K
  refine lexM_step (fun K hK => ⟨by kernel_rfl, fset_some _, fun v hv => ?_, fun v hv => ?_⟩)
  · go_simp
    refine (dotOf_any x6 x7 x8 x y z _).mono ?_
    rintro e w1 ⟨r, rfl, hr, k⟩
    exact ⟨_, rfl, ⟨r, rfl, hr⟩, below_on2 hv (Nat.le_refl _) k⟩
  obtain ⟨r2, rfl, e2⟩ := hv
  go_simp
  refine hK _ ?_
  clear hK K
  have E2 := hideR e2
  clear e2
  refine lexM_step (fun K hK => ⟨by kernel_rfl, vset_some _ _ _, fun v hv => ?_, fun v hv => ?_⟩)
  · go_simp
    exact ⟨hv, _, _, _, rfl, unhideR E0, unhideR E1, unhideR E2⟩
  obtain ⟨p, q, r, rfl, e0, e1, e2⟩ := hv
  go_simp
  refine hK _ ?_
  clear hK K
  have E := hideR (And.intro e0 (And.intro e1 e2))
  clear e0 e1 e2 E0 E1 E2
  refine lexM_end (o := _) rfl (by kernel_rfl) (fun v hv => ?_)
  obtain ⟨_, _, h2, hBw⟩ := unhideR HT _ hv
  obtain ⟨⟨j0, j1, j2⟩, f0, f1, f2⟩ := three_at h2
  have HB := hideR hBw
  clear h2 hBw
  unfold Oper.wp
  go_simp
  go_wp2
  simp [bodyPost, results, Try.results31, go_sem, j0, j1, j2]
  exact ⟨⟨p, q, r, rfl, (unhideR E).1, (unhideR E).2.1, (unhideR E).2.2⟩, (((unhideR HB).setCell (by show w.heap.size ≤ w.heap.size + 1 + 1; omega) _).setCell (by show w.heap.size ≤ w.heap.size + 1 + 1; omega) _).setCell (by show w.heap.size ≤ w.heap.size + 1 + 1; omega) _⟩
theorem below_mat {w : World} {A R M : Obj} {n1 n2 n3 n4 : Nat} {x0 x1 x2 x3 x4 x5 x6 x7 x8 y0 y1 y2 y3 y4 y5 y6 y7 y8 : Value} :
    Below w.heap.size w (((((((((((((((((((((((((w.alloc A).alloc R).drewN n1).alloc M).drewN n2).setCell ⟨w.heap.size + 1 + 1, 0, none⟩ x0).setCell ⟨w.heap.size + 1 + 1, 1, none⟩ x1).setCell ⟨w.heap.size + 1 + 1, 2, none⟩ x2).drewN n3).setCell ⟨w.heap.size + 1 + 1, 3, none⟩ x3).setCell ⟨w.heap.size + 1 + 1, 4, none⟩ x4).setCell ⟨w.heap.size + 1 + 1, 5, none⟩ x5).drewN n4).setCell ⟨w.heap.size + 1 + 1, 6, none⟩ x6).setCell ⟨w.heap.size + 1 + 1, 7, none⟩ x7).setCell ⟨w.heap.size + 1 + 1, 8, none⟩ x8).setCell ⟨w.heap.size + 1, 0, none⟩ y0).setCell ⟨w.heap.size + 1, 1, none⟩ y1).setCell ⟨w.heap.size + 1, 2, none⟩ y2).setCell ⟨w.heap.size + 1, 3, none⟩ y3).setCell ⟨w.heap.size + 1, 4, none⟩ y4).setCell ⟨w.heap.size + 1, 5, none⟩ y5).setCell ⟨w.heap.size + 1, 6, none⟩ y6).setCell ⟨w.heap.size + 1, 7, none⟩ y7).setCell ⟨w.heap.size + 1, 8, none⟩ y8) := by
  have h1 : w.heap.size ≤ w.heap.size + 1 + 1 := by omega
  exact below_nine (b := w.heap.size + 1) ((((below_drewN ((((below_drewN ((((below_drewN ((below_drewN (below_al2 w A R) n1).alloc (by simp; omega) M) n2).setCell h1 x0).setCell h1 x1).setCell h1 x2) n3).setCell h1 x3).setCell h1 x4).setCell h1 x5) n4).setCell h1 x6).setCell h1 x7).setCell h1 x8) (by omega) _ _ _ _ _ _ _ _ _
theorem ev_m {x y r : Nat} (h : FOp .mul x y r) : Ev (mE x y) r := .op (.num _) (.num _) h
set_option maxHeartbeats 8000000 in
theorem matrixOf_any (a b c d : Nat) (w : World) : Calls Try.prog 28 #[.agg #[.float .f64 a, .float .f64 b, .float .f64 c, .float .f64 d]] w fun e w' => ∃ x0 x1 x2 x3 x4 x5 x6 x7 x8, e = .returned (.agg (nine x0 x1 x2 x3 x4 x5 x6 x7 x8)) ∧ Made (RowRel a b c d) 3 x0 x1 x2 x3 x4 x5 x6 x7 x8 ∧ Below w.heap.size w w' := by
  have hsf := run_store_float Try.prog
  go_enter Try.func28, Try.ntmps28
  go_wp2_with fail
  refine upon_float (by first | exact four_mul | exact four_add | exact four_sub) ?_
  intro r_xx n_xx h_xx
  go_wp2_with fail
  refine upon_float (by first | exact four_mul | exact four_add | exact four_sub) ?_
  intro r_yy n_yy h_yy
  go_wp2_with fail
  refine upon_float (by first | exact four_mul | exact four_add | exact four_sub) ?_
  intro r_zz n_zz h_zz
  go_wp2_with fail
  refine upon_float (by first | exact four_mul | exact four_add | exact four_sub) ?_
  intro r_xy n_xy h_xy
  go_wp2_with fail
  refine upon_float (by first | exact four_mul | exact four_add | exact four_sub) ?_
  intro r_xz n_xz h_xz
  go_wp2_with fail
  refine upon_float (by first | exact four_mul | exact four_add | exact four_sub) ?_
  intro r_yz n_yz h_yz
  go_wp2_with fail
  refine upon_float (by first | exact four_mul | exact four_add | exact four_sub) ?_
  intro r_wx n_wx h_wx
  go_wp2_with fail
  refine upon_float (by first | exact four_mul | exact four_add | exact four_sub) ?_
  intro r_wy n_wy h_wy
  go_wp2_with fail
  refine upon_float (by first | exact four_mul | exact four_add | exact four_sub) ?_
  intro r_wz n_wz h_wz
  go_wp2_with fail
  refine upon_float (by first | exact four_mul | exact four_add | exact four_sub) ?_
  intro r_p n_p h_p
  go_wp2_with fail
  refine upon_float (by first | exact four_mul | exact four_add | exact four_sub) ?_
  intro r_q n_q h_q
  go_wp2_with fail
  refine upon_float (by first | exact four_mul | exact four_add | exact four_sub) ?_
  intro r_r n_r h_r
  go_wp2_with fail
  refine upon_float (by first | exact four_mul | exact four_add | exact four_sub) ?_
  intro r_ax1 n_ax1 h_ax1
  go_wp2_with fail
  refine upon_float (by first | exact four_mul | exact four_add | exact four_sub) ?_
  intro r_ax n_ax h_ax
  go_wp2_with fail
  refine upon_float (by first | exact four_mul | exact four_add | exact four_sub) ?_
  intro r_ay1 n_ay1 h_ay1
  go_wp2_with fail
  refine upon_float (by first | exact four_mul | exact four_add | exact four_sub) ?_
  intro r_ay n_ay h_ay
  go_wp2_with fail
  refine upon_float (by first | exact four_mul | exact four_add | exact four_sub) ?_
  intro r_az1 n_az1 h_az1
  go_wp2_with fail
  refine upon_float (by first | exact four_mul | exact four_add | exact four_sub) ?_
  intro r_az n_az h_az
  go_wp2_with fail
  refine upon_float (by first | exact four_mul | exact four_add | exact four_sub) ?_
  intro r_bx1 n_bx1 h_bx1
  go_wp2_with fail
  refine upon_float (by first | exact four_mul | exact four_add | exact four_sub) ?_
  intro r_bx n_bx h_bx
  go_wp2_with fail
  refine upon_float (by first | exact four_mul | exact four_add | exact four_sub) ?_
  intro r_by1 n_by1 h_by1
  go_wp2_with fail
  refine upon_float (by first | exact four_mul | exact four_add | exact four_sub) ?_
  intro r_by_ n_by_ h_by_
  go_wp2_with fail
  refine upon_float (by first | exact four_mul | exact four_add | exact four_sub) ?_
  intro r_bz1 n_bz1 h_bz1
  go_wp2_with fail
  refine upon_float (by first | exact four_mul | exact four_add | exact four_sub) ?_
  intro r_bz n_bz h_bz
  go_wp2_with fail
  refine upon_float (by first | exact four_mul | exact four_add | exact four_sub) ?_
  intro r_cx1 n_cx1 h_cx1
  go_wp2_with fail
  refine upon_float (by first | exact four_mul | exact four_add | exact four_sub) ?_
  intro r_cx n_cx h_cx
  go_wp2_with fail
  refine upon_float (by first | exact four_mul | exact four_add | exact four_sub) ?_
  intro r_cy1 n_cy1 h_cy1
  go_wp2_with fail
  refine upon_float (by first | exact four_mul | exact four_add | exact four_sub) ?_
  intro r_cy n_cy h_cy
  go_wp2_with fail
  refine upon_float (by first | exact four_mul | exact four_add | exact four_sub) ?_
  intro r_cz1 n_cz1 h_cz1
  go_wp2_with fail
  refine upon_float (by first | exact four_mul | exact four_add | exact four_sub) ?_
  intro r_cz n_cz h_cz
  go_wp2
  simp [bodyPost, results, Try.results28, go_sem]
  refine ⟨_, _, _, _, _, _, _, _, _, rfl, ⟨fun _ => ⟨fun _ => ⟨.op (.num _) (.op (.num _) (.op (ev_m h_yy) (ev_m h_zz) h_p) h_ax1) h_ax, .op (.num _) (.op (ev_m h_xy) (ev_m h_wz) h_ay1) h_ay, .op (.num _) (.op (ev_m h_xz) (ev_m h_wy) h_az1) h_az⟩, fun h => absurd h (by decide), fun h => absurd h (by decide)⟩,
    fun _ => ⟨fun h => absurd h (by decide), fun _ => ⟨.op (.num _) (.op (ev_m (fop_mul_comm h_xy)) (ev_m h_wz) h_bx1) h_bx, .op (.num _) (.op (.num _) (.op (ev_m h_zz) (ev_m h_xx) (fop_add_comm h_q)) h_by1) h_by_, .op (.num _) (.op (ev_m h_yz) (ev_m h_wx) h_bz1) h_bz⟩, fun h => absurd h (by decide)⟩,
    fun _ => ⟨fun h => absurd h (by decide), fun h => absurd h (by decide), fun _ => ⟨.op (.num _) (.op (ev_m (fop_mul_comm h_xz)) (ev_m h_wy) h_cx1) h_cx, .op (.num _) (.op (ev_m (fop_mul_comm h_yz)) (ev_m h_wx) h_cy1) h_cy, .op (.num _) (.op (.num _) (.op (ev_m h_xx) (ev_m h_yy) h_r) h_cz1) h_cz⟩⟩⟩, below_mat⟩
end Go.Proofs.Ytbobnmaeiohnnad
