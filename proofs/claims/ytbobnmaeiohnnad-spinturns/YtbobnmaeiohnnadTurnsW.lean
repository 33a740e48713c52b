/-
  The law SpinTurns: its walk out of the contracts.
-/
import Derived.Test.YtbobnmaeiohnnadSpin9
namespace Go.Proofs.Ytbobnmaeiohnnad
open Go Go.RowKit

theorem alloc_last2 (w : World) (o o' : Obj) : ((w.alloc o).alloc o').heap[w.heap.size + 1]? = some o' := by
  have := alloc_last (w.alloc o) o'
  rwa [show (w.alloc o).heap.size = w.heap.size + 1 by simp] at this
set_option maxRecDepth 100000 in
set_option maxHeartbeats 16000000 in
theorem spinTurns_walk (x y z : Nat) (h : Int) (a b c d p q r : Nat) (w : World) :
    Calls Try.prog 6 #[.agg #[.float .f64 x, .float .f64 y, .float .f64 z], .int .i64 h, .agg #[.float .f64 a, .float .f64 b, .float .f64 c, .float .f64 d], .agg #[.float .f64 p, .float .f64 q, .float .f64 r]] w fun e w' => e = .returned (.bool true) ∧ Below w.heap.size w w' := by
  have hsf := run_store_float Try.prog
  go_enter Try.func6, Try.ntmps6
  go_wp2_with fail
  refine (turns_any _).mono ?_
  rintro e w1 ⟨rfl, hB1⟩
  obtain ⟨h0, h1, h2, hBw⟩ := three_blocks hB1
  have HW := hideR hBw
  have A0 := hideR h0
  have A1 := hideR h1
  have A2 := hideR h2
  clear hB1 hBw h0 h1 h2
  obtain ⟨⟨c0, c1, c2⟩, _⟩ := three_at (unhideR A0)
  go_wp2_with fail
  refine (about_any _ _ _ _ _).mono ?_
  rintro e w2 ⟨hu, k2⟩
  obtain ⟨u0, u1, u2, u3, tb, rfl⟩ := about_form hu
  have HU := hideR hu
  clear hu c0 c1 c2
  replace A0 := hideR (keepB (unhideR A0) k2)
  replace A1 := hideR (keepB (unhideR A1) k2)
  replace A2 := hideR (keepB (unhideR A2) k2)
  replace HW := hideR (below_go (unhideR HW) k2)
  clear k2
  obtain ⟨⟨c0, c1, c2⟩, _⟩ := three_at (unhideR A0)
  have l0 := ltB (unhideR A0)
  go_wp2_with fail
  refine (aboutOf_any _ _ _ _ _).mono ?_
  rintro e w3 ⟨hu, k3⟩
  obtain ⟨v0, v1, v2, v3, tb2, rfl⟩ := about_form hu
  obtain ⟨rfl, j0, j1, j2, j3⟩ := about_same (unhideR HU) hu
  have J := hideR (And.intro j0 (And.intro j1 (And.intro j2 j3)))
  clear hu HU j0 j1 j2 j3 c0 c1 c2 l0
  replace A0 := hideR (keepB (keepA (unhideR A0)) k3)
  replace A1 := hideR (keepB (keepA (unhideR A1)) k3)
  replace A2 := hideR (keepB (keepA (unhideR A2)) k3)
  replace HW := hideR (below_go ((unhideR HW).alloc (unhideR HW).size _) k3)
  have U := hideR (keepB (alloc_last w2 _) k3)
  clear k3
  obtain ⟨⟨c0, c1, c2, c3⟩, _⟩ := four_at (unhideR U)
  have l0 := ltB (unhideR U)
  go_wp2_with fail
  refine (sameQ_any _ _ _ _ _ _ _ _ _ (unhideR J).1 (unhideR J).2.1 (unhideR J).2.2.1 (unhideR J).2.2.2).mono ?_
  rintro e w4 ⟨rfl, k4⟩
  clear c0 c1 c2 c3 l0 J U
  replace A0 := hideR (keepB (keepA (unhideR A0)) k4)
  replace A1 := hideR (keepB (keepA (unhideR A1)) k4)
  replace A2 := hideR (keepB (keepA (unhideR A2)) k4)
  replace HW := hideR (below_go ((unhideR HW).alloc (unhideR HW).size _) k4)
  clear k4
  obtain ⟨⟨c0, c1, c2, c3⟩, _⟩ := four_at (unhideR A1)
  go_wp2_with fail
  refine (q_any _ _ _ _ _).mono ?_
  rintro e w5 ⟨rfl, k5⟩
  clear c0 c1 c2 c3
  replace A0 := hideR (keepB (unhideR A0) k5)
  replace A1 := hideR (keepB (unhideR A1) k5)
  replace A2 := hideR (keepB (unhideR A2) k5)
  replace HW := hideR (below_go (unhideR HW) k5)
  clear k5
  go_wp2_with fail
  refine (matrix_any _ _ _ _ _).mono ?_
  rintro e w6 ⟨x0, x1, x2, x3, x4, x5, x6, x7, x8, rfl, hM, k6⟩
  have HM := hideR hM
  clear hM
  replace A0 := hideR (keepB (unhideR A0) k6)
  replace A1 := hideR (keepB (unhideR A1) k6)
  replace A2 := hideR (keepB (unhideR A2) k6)
  replace HW := hideR (below_go (unhideR HW) k6)
  clear k6
  have e9 : nine x0 x1 x2 x3 x4 x5 x6 x7 x8 = #[.float .f64 x0, .float .f64 x1, .float .f64 x2, .float .f64 x3, .float .f64 x4, .float .f64 x5, .float .f64 x6, .float .f64 x7, .float .f64 x8] := rfl
  rw [e9]
  clear e9
  obtain ⟨⟨c0, c1, c2, c3⟩, _⟩ := four_at (unhideR A1)
  have l1 := ltB (unhideR A1)
  go_wp2_with fail
  refine (matrixOf_any _ _ _ _ _).mono ?_
  rintro e w7 ⟨y0, y1, y2, y3, y4, y5, y6, y7, y8, rfl, hN, k7⟩
  have S9 := hideR (made_same (unhideR HM) hN)
  have HN := hideR hN
  clear hN HM c0 c1 c2 c3 l1
  replace A0 := hideR (keepB (keepA (unhideR A0)) k7)
  replace A1 := hideR (keepB (keepA (unhideR A1)) k7)
  replace A2 := hideR (keepB (keepA (unhideR A2)) k7)
  replace HW := hideR (below_go ((unhideR HW).alloc (unhideR HW).size _) k7)
  have M := hideR (keepB (alloc_last w6 _) k7)
  clear k7
  have e9 : nine y0 y1 y2 y3 y4 y5 y6 y7 y8 = #[.float .f64 y0, .float .f64 y1, .float .f64 y2, .float .f64 y3, .float .f64 y4, .float .f64 y5, .float .f64 y6, .float .f64 y7, .float .f64 y8] := rfl
  rw [e9]
  clear e9
  obtain ⟨⟨c0, c1, c2, c3, c4, c5, c6, c7, c8⟩, _⟩ := nine_at (t := 50) (unhideR M)
  have lM := ltB (unhideR M)
  go_wp2_with fail
  refine (sameVec_any _ _ _ _ _ _ _ (unhideR S9).e0 (unhideR S9).e1 (unhideR S9).e2).mono ?_
  rintro e w8 ⟨rfl, k8⟩
  clear c0 c1 c2 c3 c4 c5 c6 c7 c8 lM
  replace A0 := hideR (keepB (keepA (unhideR A0)) k8)
  replace A1 := hideR (keepB (keepA (unhideR A1)) k8)
  replace A2 := hideR (keepB (keepA (unhideR A2)) k8)
  replace M := hideR (keepB (keepA (unhideR M)) k8)
  replace HW := hideR (below_go ((unhideR HW).alloc (unhideR HW).size _) k8)
  have N := hideR (keepB (alloc_last w7 _) k8)
  clear k8
  obtain ⟨⟨c0, c1, c2, c3, c4, c5, c6, c7, c8⟩, _⟩ := nine_at (t := 50) (unhideR M)
  obtain ⟨⟨d0, d1, d2, d3, d4, d5, d6, d7, d8⟩, _⟩ := nine_at (t := 53) (unhideR N)
  go_wp2_with fail
  refine (sameVec_any _ _ _ _ _ _ _ (unhideR S9).e3 (unhideR S9).e4 (unhideR S9).e5).mono ?_
  rintro e w9 ⟨rfl, k9⟩
  clear c0 c1 c2 c3 c4 c5 c6 c7 c8 d0 d1 d2 d3 d4 d5 d6 d7 d8
  replace A0 := hideR (keepB (unhideR A0) k9)
  replace A1 := hideR (keepB (unhideR A1) k9)
  replace A2 := hideR (keepB (unhideR A2) k9)
  replace M := hideR (keepB (unhideR M) k9)
  replace N := hideR (keepB (unhideR N) k9)
  replace HW := hideR (below_go (unhideR HW) k9)
  clear k9
  obtain ⟨⟨c0, c1, c2, c3, c4, c5, c6, c7, c8⟩, _⟩ := nine_at (t := 50) (unhideR M)
  obtain ⟨⟨d0, d1, d2, d3, d4, d5, d6, d7, d8⟩, _⟩ := nine_at (t := 53) (unhideR N)
  go_wp2_with fail
  refine (sameVec_any _ _ _ _ _ _ _ (unhideR S9).e6 (unhideR S9).e7 (unhideR S9).e8).mono ?_
  rintro e w10 ⟨rfl, k10⟩
  clear c0 c1 c2 c3 c4 c5 c6 c7 c8 d0 d1 d2 d3 d4 d5 d6 d7 d8
  replace A0 := hideR (keepB (unhideR A0) k10)
  replace A1 := hideR (keepB (unhideR A1) k10)
  replace A2 := hideR (keepB (unhideR A2) k10)
  replace M := hideR (keepB (unhideR M) k10)
  replace N := hideR (keepB (unhideR N) k10)
  replace HW := hideR (below_go (unhideR HW) k10)
  clear k10
  go_wp2_with fail
  refine wp_region_letsB w10.heap.size [(· = .agg #[.float .f64 a, .float .f64 b, .float .f64 c, .float .f64 d]),
    (· = .agg #[.float .f64 a, .float .f64 b, .float .f64 c, .float .f64 d]),
    (· = .agg #[.float .f64 p, .float .f64 q, .float .f64 r]),
    TSet a b c d p q r,
    (· = .agg #[.float .f64 y0, .float .f64 y1, .float .f64 y2, .float .f64 y3, .float .f64 y4, .float .f64 y5, .float .f64 y6, .float .f64 y7, .float .f64 y8]),
    (· = .agg #[.float .f64 p, .float .f64 q, .float .f64 r]),
    VSet (dtE y0 y1 y2 p q r) (dtE y3 y4 y5 p q r) (dtE y6 y7 y8 p q r),
    (· = .bool true),
    (· = .bool true)] (by kernel_rfl) (by kernel_rfl) ?_
  refine lexB_step (fun K hK => ⟨by kernel_rfl, ⟨_, rfl⟩, fun v hv => ?_, fun v hv => ?_⟩)
  · obtain ⟨⟨c0, c1, c2, c3⟩, _⟩ := four_at (keepB (unhideR A1) hv)
    go_simp
    exact lUpon_b hv
  subst hv
  go_simp
  refine hK _ ?_
  clear hK K
  refine lexB_step (fun K hK => ⟨by kernel_rfl, ⟨_, rfl⟩, fun v hv => ?_, fun v hv => ?_⟩)
  · go_simp
    refine (q_any _ _ _ _ _).mono ?_
    rintro e w2 ⟨rfl, k⟩
    exact ⟨_, rfl, rfl, below_on2 hv (Nat.le_refl _) k⟩
  subst hv
  go_simp
  refine hK _ ?_
  clear hK K
  refine lexB_step (fun K hK => ⟨by kernel_rfl, ⟨_, rfl⟩, fun v hv => ?_, fun v hv => ?_⟩)
  · obtain ⟨⟨c0, c1, c2⟩, _⟩ := three_at (keepB (unhideR A2) hv)
    go_simp
    exact lUpon_b hv
  subst hv
  go_simp
  refine hK _ ?_
  clear hK K
  refine lexB_step (fun K hK => ⟨by kernel_rfl, tset_some _ _ _ _ _ _ _, fun v hv => ?_, fun v hv => ?_⟩)
  · go_simp
    refine (turn_any a b c d p q r _).mono ?_
    rintro e w2 ⟨u, rfl, ht, k⟩
    exact ⟨_, rfl, ht, below_on2 hv (Nat.le_refl _) k⟩
  obtain ⟨p1, q1, r1, z0, z1, z2, z3, z4, z5, z6, z7, z8, rfl, hT, e0, e1, e2⟩ := hv
  go_simp
  refine hK _ ?_
  clear hK K
  have T9 := hideR (made_same hT (unhideR HN))
  have E := hideR (And.intro e0 (And.intro e1 e2))
  clear hT e0 e1 e2
  refine lexB_step (fun K hK => ⟨by kernel_rfl, ⟨_, rfl⟩, fun v hv => ?_, fun v hv => ?_⟩)
  · obtain ⟨⟨c0, c1, c2, c3, c4, c5, c6, c7, c8⟩, _⟩ := nine_at (t := 53) (keepB (unhideR N) hv)
    go_simp
    exact lUpon_b hv
  subst hv
  go_simp
  refine hK _ ?_
  clear hK K
  refine lexB_step (fun K hK => ⟨by kernel_rfl, ⟨_, rfl⟩, fun v hv => ?_, fun v hv => ?_⟩)
  · obtain ⟨⟨c0, c1, c2⟩, _⟩ := three_at (keepB (unhideR A2) hv)
    go_simp
    exact lUpon_b hv
  subst hv
  go_simp
  refine hK _ ?_
  clear hK K
  refine lexB_step (fun K hK => ⟨by kernel_rfl, vset_some _ _ _, fun v hv => ?_, fun v hv => ?_⟩)
  · go_simp
    refine (applyTo_any y0 y1 y2 y3 y4 y5 y6 y7 y8 p q r _).mono ?_
    rintro e w2 ⟨u, rfl, hu, k⟩
    exact ⟨_, rfl, hu, below_on2 hv (Nat.le_refl _) k⟩
  obtain ⟨p2, q2, r2, rfl, e0, e1, e2⟩ := hv
  go_simp
  refine hK _ ?_
  clear hK K
  have T0 := hideR (dt_same (unhideR T9).e0 (unhideR T9).e1 (unhideR T9).e2 (unhideR E).1 e0)
  have T1 := hideR (dt_same (unhideR T9).e3 (unhideR T9).e4 (unhideR T9).e5 (unhideR E).2.1 e1)
  have T2 := hideR (dt_same (unhideR T9).e6 (unhideR T9).e7 (unhideR T9).e8 (unhideR E).2.2 e2)
  clear e0 e1 e2 E T9
  refine lexB_step (fun K hK => ⟨by kernel_rfl, ⟨_, rfl⟩, fun v hv => ?_, fun v hv => ?_⟩)
  · go_simp
    refine (sameVec_any _ _ _ _ _ _ _ (unhideR T0) (unhideR T1) (unhideR T2)).mono ?_
    rintro e w2 ⟨rfl, k⟩
    exact ⟨_, rfl, rfl, below_on2 hv (Nat.le_refl _) k⟩
  subst hv
  go_simp
  refine hK _ ?_
  clear hK K
  refine lexB_step (fun K hK => ⟨by kernel_rfl, ⟨_, rfl⟩, fun v hv => ?_, fun v hv => ?_⟩)
  · go_simp
    exact lUpon_b hv
  subst hv
  go_simp
  refine hK _ ?_
  clear hK K
  clear T0 T1 T2
  refine lexL_end ?_
  intro w11 k11
  replace A0 := hideR (keepB (unhideR A0) k11)
  replace A1 := hideR (keepB (unhideR A1) k11)
  replace A2 := hideR (keepB (unhideR A2) k11)
  replace M := hideR (keepB (unhideR M) k11)
  replace N := hideR (keepB (unhideR N) k11)
  replace HW := hideR (below_go (unhideR HW) k11)
  clear k11
  go_wp2_with fail
  refine wp_region_letsB w11.heap.size [(· = .agg #[.float .f64 x0, .float .f64 x1, .float .f64 x2, .float .f64 x3, .float .f64 x4, .float .f64 x5, .float .f64 x6, .float .f64 x7, .float .f64 x8]),
    (· = .agg #[.float .f64 p, .float .f64 q, .float .f64 r]),
    VSet (dtE x0 x1 x2 p q r) (dtE x3 x4 x5 p q r) (dtE x6 x7 x8 p q r),
    (· = .agg #[.float .f64 y0, .float .f64 y1, .float .f64 y2, .float .f64 y3, .float .f64 y4, .float .f64 y5, .float .f64 y6, .float .f64 y7, .float .f64 y8]),
    (· = .agg #[.float .f64 p, .float .f64 q, .float .f64 r]),
    VSet (dtE y0 y1 y2 p q r) (dtE y3 y4 y5 p q r) (dtE y6 y7 y8 p q r),
    (· = .bool true),
    (· = .bool true)] (by kernel_rfl) (by kernel_rfl) ?_
  refine lexB_step (fun K hK => ⟨by kernel_rfl, ⟨_, rfl⟩, fun v hv => ?_, fun v hv => ?_⟩)
  · obtain ⟨⟨c0, c1, c2, c3, c4, c5, c6, c7, c8⟩, _⟩ := nine_at (t := 50) (keepB (unhideR M) hv)
    go_simp
    exact lUpon_b hv
  subst hv
  go_simp
  refine hK _ ?_
  clear hK K
  refine lexB_step (fun K hK => ⟨by kernel_rfl, ⟨_, rfl⟩, fun v hv => ?_, fun v hv => ?_⟩)
  · obtain ⟨⟨c0, c1, c2⟩, _⟩ := three_at (keepB (unhideR A2) hv)
    go_simp
    exact lUpon_b hv
  subst hv
  go_simp
  refine hK _ ?_
  clear hK K
  refine lexB_step (fun K hK => ⟨by kernel_rfl, vset_some _ _ _, fun v hv => ?_, fun v hv => ?_⟩)
  · go_simp
    refine (apply_any x0 x1 x2 x3 x4 x5 x6 x7 x8 p q r _).mono ?_
    rintro e w2 ⟨p1, q1, r1, rfl, e0, e1, e2, k⟩
    exact ⟨_, rfl, ⟨p1, q1, r1, rfl, e0, e1, e2⟩, below_on2 hv (Nat.le_refl _) k⟩
  obtain ⟨p1, q1, r1, rfl, e0, e1, e2⟩ := hv
  go_simp
  refine hK _ ?_
  clear hK K
  have E := hideR (And.intro e0 (And.intro e1 e2))
  clear e0 e1 e2
  refine lexB_step (fun K hK => ⟨by kernel_rfl, ⟨_, rfl⟩, fun v hv => ?_, fun v hv => ?_⟩)
  · obtain ⟨⟨c0, c1, c2, c3, c4, c5, c6, c7, c8⟩, _⟩ := nine_at (t := 53) (keepB (unhideR N) hv)
    go_simp
    exact lUpon_b hv
  subst hv
  go_simp
  refine hK _ ?_
  clear hK K
  refine lexB_step (fun K hK => ⟨by kernel_rfl, ⟨_, rfl⟩, fun v hv => ?_, fun v hv => ?_⟩)
  · obtain ⟨⟨c0, c1, c2⟩, _⟩ := three_at (keepB (unhideR A2) hv)
    go_simp
    exact lUpon_b hv
  subst hv
  go_simp
  refine hK _ ?_
  clear hK K
  refine lexB_step (fun K hK => ⟨by kernel_rfl, vset_some _ _ _, fun v hv => ?_, fun v hv => ?_⟩)
  · go_simp
    refine (applyTo_any y0 y1 y2 y3 y4 y5 y6 y7 y8 p q r _).mono ?_
    rintro e w2 ⟨u, rfl, hu, k⟩
    exact ⟨_, rfl, hu, below_on2 hv (Nat.le_refl _) k⟩
  obtain ⟨p2, q2, r2, rfl, e0, e1, e2⟩ := hv
  go_simp
  refine hK _ ?_
  clear hK K
  have T0 := hideR (dt_same (unhideR S9).e0 (unhideR S9).e1 (unhideR S9).e2 (unhideR E).1 e0)
  have T1 := hideR (dt_same (unhideR S9).e3 (unhideR S9).e4 (unhideR S9).e5 (unhideR E).2.1 e1)
  have T2 := hideR (dt_same (unhideR S9).e6 (unhideR S9).e7 (unhideR S9).e8 (unhideR E).2.2 e2)
  clear e0 e1 e2 E
  refine lexB_step (fun K hK => ⟨by kernel_rfl, ⟨_, rfl⟩, fun v hv => ?_, fun v hv => ?_⟩)
  · go_simp
    refine (sameVec_any _ _ _ _ _ _ _ (unhideR T0) (unhideR T1) (unhideR T2)).mono ?_
    rintro e w2 ⟨rfl, k⟩
    exact ⟨_, rfl, rfl, below_on2 hv (Nat.le_refl _) k⟩
  subst hv
  go_simp
  refine hK _ ?_
  clear hK K
  refine lexB_step (fun K hK => ⟨by kernel_rfl, ⟨_, rfl⟩, fun v hv => ?_, fun v hv => ?_⟩)
  · go_simp
    exact lUpon_b hv
  subst hv
  go_simp
  refine hK _ ?_
  clear hK K
  clear T0 T1 T2
  refine lexL_end ?_
  intro w12 k12
  replace A0 := hideR (keepB (unhideR A0) k12)
  replace A1 := hideR (keepB (unhideR A1) k12)
  replace A2 := hideR (keepB (unhideR A2) k12)
  replace M := hideR (keepB (unhideR M) k12)
  replace N := hideR (keepB (unhideR N) k12)
  replace HW := hideR (below_go (unhideR HW) k12)
  clear k12
  obtain ⟨⟨c0, c1, c2, c3, c4, c5, c6, c7, c8⟩, _⟩ := nine_at (t := 50) (unhideR M)
  go_wp2_with fail
  refine (turned_any x0 x1 x2 x3 x4 x5 x6 x7 x8 _).mono ?_
  rintro e w13 ⟨rfl, k13⟩
  clear c0 c1 c2 c3 c4 c5 c6 c7 c8
  replace A0 := hideR (keepB (unhideR A0) k13)
  replace A1 := hideR (keepB (unhideR A1) k13)
  replace A2 := hideR (keepB (unhideR A2) k13)
  replace M := hideR (keepB (unhideR M) k13)
  replace N := hideR (keepB (unhideR N) k13)
  replace HW := hideR (below_go (unhideR HW) k13)
  clear k13
  go_wp2_with fail
  refine (conv_any x0 x3 x6 x1 x4 x7 x2 x5 x8 _).mono ?_
  rintro e w14 ⟨rfl, k14⟩
  replace A0 := hideR (keepB (unhideR A0) k14)
  replace A1 := hideR (keepB (unhideR A1) k14)
  replace A2 := hideR (keepB (unhideR A2) k14)
  replace M := hideR (keepB (unhideR M) k14)
  replace N := hideR (keepB (unhideR N) k14)
  replace HW := hideR (below_go (unhideR HW) k14)
  clear k14
  have e9 : nine x0 x3 x6 x1 x4 x7 x2 x5 x8 = #[.float .f64 x0, .float .f64 x3, .float .f64 x6, .float .f64 x1, .float .f64 x4, .float .f64 x7, .float .f64 x2, .float .f64 x5, .float .f64 x8] := rfl
  rw [e9]
  clear e9
  obtain ⟨⟨c0, c1, c2, c3, c4, c5, c6, c7, c8⟩, _⟩ := nine_at (t := 53) (unhideR N)
  have lN := ltB (unhideR N)
  go_wp2_with fail
  refine (sameVec_any _ _ _ _ _ _ _ (unhideR S9).e0 (unhideR S9).e3 (unhideR S9).e6).mono ?_
  rintro e w15 ⟨rfl, k15⟩
  have O := hideR (keepB (keepA (alloc_last w14 _)) k15)
  have P := hideR (keepB (alloc_last2 w14 _ _) k15)
  replace HW := hideR (below_go (((unhideR HW).alloc (unhideR HW).size _).alloc (Nat.le_trans (unhideR HW).size (by simp)) _) k15)
  clear c0 c1 c2 c3 c4 c5 c6 c7 c8 lN k15 A0 A1 A2 M N
  obtain ⟨⟨c0, c1, c2, c3, c4, c5, c6, c7, c8⟩, _⟩ := nine_at (t := 53) (unhideR O)
  obtain ⟨⟨d0, d1, d2, d3, d4, d5, d6, d7, d8⟩, _⟩ := nine_at (t := 53) (unhideR P)
  go_wp2_with fail
  refine (sameVec_any _ _ _ _ _ _ _ (unhideR S9).e1 (unhideR S9).e4 (unhideR S9).e7).mono ?_
  rintro e w16 ⟨rfl, k16⟩
  clear c0 c1 c2 c3 c4 c5 c6 c7 c8 d0 d1 d2 d3 d4 d5 d6 d7 d8
  replace O := hideR (keepB (unhideR O) k16)
  replace P := hideR (keepB (unhideR P) k16)
  replace HW := hideR (below_go (unhideR HW) k16)
  clear k16
  obtain ⟨⟨c0, c1, c2, c3, c4, c5, c6, c7, c8⟩, _⟩ := nine_at (t := 53) (unhideR O)
  obtain ⟨⟨d0, d1, d2, d3, d4, d5, d6, d7, d8⟩, _⟩ := nine_at (t := 53) (unhideR P)
  go_wp2_with fail
  refine (sameVec_any _ _ _ _ _ _ _ (unhideR S9).e2 (unhideR S9).e5 (unhideR S9).e8).mono ?_
  rintro e w17 ⟨rfl, k17⟩
  clear c0 c1 c2 c3 c4 c5 c6 c7 c8 d0 d1 d2 d3 d4 d5 d6 d7 d8
  replace O := hideR (keepB (unhideR O) k17)
  replace P := hideR (keepB (unhideR P) k17)
  replace HW := hideR (below_go (unhideR HW) k17)
  clear k17
  go_wp2
  go_ret
  exact ⟨rfl, unhideR HW⟩
end Go.Proofs.Ytbobnmaeiohnnad
