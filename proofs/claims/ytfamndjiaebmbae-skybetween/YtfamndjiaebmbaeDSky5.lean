/-
  How far two places are from each other: the program's, by its contract.
-/
import Derived.Test.YtfamndjiaebmbaeDSky4
import Derived.Test.YtfamndjiaebmbaeLoose5
namespace Go.Proofs.Ytfamndjiaebmbae
open Go Go.RowKit

def PtSet (a b : Int) (v : Value) : Prop := ∃ x y z, v = .agg #[.float .f64 x, .float .f64 y, .float .f64 z] ∧ PointIs a b x y z
theorem pt_some (a b : Int) : ∃ v, PtSet a b v := by
  obtain ⟨x, hx⟩ := fop_some .mul (cosV b) (cosV a)
  obtain ⟨y, hy⟩ := fop_some .mul (cosV b) (sinV a)
  exact ⟨_, x, y, _, rfl, ⟨hx, hy, rfl⟩⟩
theorem lw_ev {o : BinOp} {a b : FE} {r : Nat} (h : Ev (.op o a b) r) : Lw r := by
  cases h with
  | op _ _ k => exact lw_op k
def zero3 : Obj := .cells #[.float .f64 0, .float .f64 0, .float .f64 0] 26
set_option maxRecDepth 100000 in
set_option maxHeartbeats 8000000 in
theorem between_any (a b c d : Int) (w : World) : Calls Try.prog 18 #[.agg #[.int .i64 a, .int .i64 b], .agg #[.int .i64 c, .int .i64 d]] w fun e w' => ∃ n px py pz qx qy qz, e = .returned (.int .i64 n) ∧ PointIs a b px py pz ∧ PointIs c d qx qy qz ∧ ApIs px py pz qx qy qz n ∧ Below w.heap.size w w' := by
  have hsf := run_store_float Try.prog
  go_enter Try.func18, Try.ntmps18
  go_wp2_with fail
  obtain ⟨W, hW⟩ : ∃ W, W = ((w.alloc (.cells #[.int .i64 a, .int .i64 b] 30)).alloc (.cells #[.int .i64 c, .int .i64 d] 30)) := ⟨_, rfl⟩
  have htwo : ∀ v, Below W.heap.size W v → v.heap[w.heap.size]? = some (.cells #[.int .i64 a, .int .i64 b] 30) ∧ v.heap[w.heap.size + 1]? = some (.cells #[.int .i64 c, .int .i64 d] 30) ∧ Below w.heap.size w v := fun v hv => two_blocks (hW ▸ hv)
  rw [← hW]
  have HT := hideR htwo
  have lW : w.heap.size ≤ W.heap.size := by rw [hW]; simp; omega
  clear htwo hW
  refine wp_region_new 1 #[true, true, true, true, true, true, false, false] [.lets (· = .agg #[.int .i64 a, .int .i64 b]),
    .lets (PtSet a b),
    .lets (· = .agg #[.int .i64 c, .int .i64 d]),
    .lets (PtSet c d),
    .new zero3,
    .new zero3] (by kernel_rfl) (by kernel_rfl) rfl (by kernel_rfl) (by kernel_rfl) ?_
  refine lexK_step (fun K hK => ⟨by kernel_rfl, ⟨_, rfl⟩, fun v hv => ?_, fun v hv => ?_⟩)
  · obtain ⟨⟨c0, c1⟩, _⟩ := pair_at (unhideR HT _ hv).1
    go_simp
    exact mUpon_b
  subst hv
  go_simp
  refine hK _ ?_
  clear hK K
  refine lexK_step (fun K hK => ⟨by kernel_rfl, pt_some _ _, fun v hv => ?_, fun v hv => ?_⟩)
  · go_simp
    refine (point_any _ _ _).mono ?_
    rintro e w9 ⟨x1, y1, z1, rfl, hp, k⟩
    exact ⟨_, rfl, ⟨x1, y1, z1, rfl, hp⟩, k⟩
  obtain ⟨px, py, pz, rfl, hp⟩ := hv
  go_simp
  refine hK _ ?_
  clear hK K
  have Hp := hideR hp
  clear hp
  refine lexK_step (fun K hK => ⟨by kernel_rfl, ⟨_, rfl⟩, fun v hv => ?_, fun v hv => ?_⟩)
  · obtain ⟨⟨c0, c1⟩, _⟩ := pair_at (unhideR HT _ hv).2.1
    go_simp
    exact mUpon_b
  subst hv
  go_simp
  refine hK _ ?_
  clear hK K
  refine lexK_step (fun K hK => ⟨by kernel_rfl, pt_some _ _, fun v hv => ?_, fun v hv => ?_⟩)
  · go_simp
    refine (point_any _ _ _).mono ?_
    rintro e w9 ⟨x1, y1, z1, rfl, hp, k⟩
    exact ⟨_, rfl, ⟨x1, y1, z1, rfl, hp⟩, k⟩
  obtain ⟨qx, qy, qz, rfl, hq⟩ := hv
  go_simp
  refine hK _ ?_
  clear hK K
  have Hq := hideR hq
  clear hq
  refine lexK_new (fun b5 fb5 K hK => ⟨by kernel_rfl, fun v => ?_, ?_⟩) (fin0.some _)
  · go_simp
    exact ⟨rfl, rfl⟩
  unfold ptr
  go_simp
  refine hK _ ?_
  clear hK K
  refine lexK_new (fun b6 fb6 K hK => ⟨by kernel_rfl, fun v => ?_, ?_⟩) ((fin0.put b5 _).some _)
  · go_simp
    exact ⟨rfl, rfl⟩
  unfold ptr
  go_simp
  refine hK _ ?_
  clear hK K
  refine lexK_end (fun v hv => ?_)
  obtain ⟨_, hne⟩ := fb6.of_put
  have h5 : v.heap[b5]? = some zero3 := hv.held b5 zero3 (by unfold Hd.put; rw [if_neg (Ne.symm hne), if_pos rfl])
  have h6 : v.heap[b6]? = some zero3 := hv.held b6 zero3 (by unfold Hd.put; rw [if_pos rfl])
  unfold zero3 at h5 h6
  have g5 := fb5.ge
  have g6 := fb6.ge
  have HB0 := hideR ((unhideR HT _ hv.low).2.2)
  clear hv fb5 fb6
  obtain ⟨⟨c0, c1, c2⟩, f0, f1, f2⟩ := three_at h5
  refine wpAny_step (i := 6) (by kernel_rfl) rfl (by kernel_rfl) (fun K hK => ?_)
  unfold Oper.wp
  go_simp
  refine hK _ _ ?_
  clear hK K
  have V5 : (((v.setCell ⟨b5, 0, none⟩ (.float .f64 px)).setCell ⟨b5, 1, none⟩ (.float .f64 py)).setCell ⟨b5, 2, none⟩ (.float .f64 pz)).heap[b5]? = some (.cells #[.float .f64 px, .float .f64 py, .float .f64 pz] 26) := set3 h5
  have V6 : (((v.setCell ⟨b5, 0, none⟩ (.float .f64 px)).setCell ⟨b5, 1, none⟩ (.float .f64 py)).setCell ⟨b5, 2, none⟩ (.float .f64 pz)).heap[b6]? = some (.cells #[.float .f64 0, .float .f64 0, .float .f64 0] 26) := (set3_other hne).trans h6
  have HB1 := hideR (below_three (unhideR HB0) (show w.heap.size ≤ b5 by omega) (.float .f64 px) (.float .f64 py) (.float .f64 pz))
  clear HB0 c0 c1 c2 f0 f1 f2 h5 h6
  generalize ((v.setCell ⟨b5, 0, none⟩ (.float .f64 px)).setCell ⟨b5, 1, none⟩ (.float .f64 py)).setCell ⟨b5, 2, none⟩ (.float .f64 pz) = v1 at *
  obtain ⟨⟨c0, c1, c2⟩, f0, f1, f2⟩ := three_at V6
  refine wpAny_step (i := 7) (by kernel_rfl) rfl (by kernel_rfl) (fun K hK => ?_)
  unfold Oper.wp
  go_simp
  refine hK _ _ ?_
  clear hK K
  have U6 : (((v1.setCell ⟨b6, 0, none⟩ (.float .f64 qx)).setCell ⟨b6, 1, none⟩ (.float .f64 qy)).setCell ⟨b6, 2, none⟩ (.float .f64 qz)).heap[b6]? = some (.cells #[.float .f64 qx, .float .f64 qy, .float .f64 qz] 26) := set3 V6
  have U5 : (((v1.setCell ⟨b6, 0, none⟩ (.float .f64 qx)).setCell ⟨b6, 1, none⟩ (.float .f64 qy)).setCell ⟨b6, 2, none⟩ (.float .f64 qz)).heap[b5]? = some (.cells #[.float .f64 px, .float .f64 py, .float .f64 pz] 26) := (set3_other (Ne.symm hne)).trans V5
  have HW := hideR (below_three (unhideR HB1) (show w.heap.size ≤ b6 by omega) (.float .f64 qx) (.float .f64 qy) (.float .f64 qz))
  clear HB1 c0 c1 c2 f0 f1 f2 V5 V6
  generalize ((v1.setCell ⟨b6, 0, none⟩ (.float .f64 qx)).setCell ⟨b6, 1, none⟩ (.float .f64 qy)).setCell ⟨b6, 2, none⟩ (.float .f64 qz) = V at *
  refine wpAny_end (by kernel_rfl) ?_
  have PB := hideR U5
  have QB := hideR U6
  clear U5 U6 hne g5 g6 lW HT
  go_wp2_with fail
  refine wp_region_letsB V.heap.size [(· = .agg #[.float .f64 px, .float .f64 py, .float .f64 pz]),
    (· = .agg #[.float .f64 qx, .float .f64 qy, .float .f64 qz]),
    VSet (crE py qz pz qy) (crE pz qx px qz) (crE px qy py qx),
    LSet px py pz qx qy qz,
    (· = .agg #[.float .f64 px, .float .f64 py, .float .f64 pz]),
    (· = .agg #[.float .f64 qx, .float .f64 qy, .float .f64 qz]),
    FSet (dtE px py pz qx qy qz),
    ASet px py pz qx qy qz,
    ASet px py pz qx qy qz,
    ISet px py pz qx qy qz,
    BSet,
    ISet px py pz qx qy qz,
    BSet] (by kernel_rfl) (by kernel_rfl) ?_
  refine lexB_step (fun K hK => ⟨by kernel_rfl, ⟨_, rfl⟩, fun v hv => ?_, fun v hv => ?_⟩)
  · obtain ⟨⟨c0, c1, c2⟩, _⟩ := three_at (keepB (unhideR PB) hv)
    go_simp
    exact lUpon_b hv
  subst hv
  go_simp
  refine hK _ ?_
  clear hK K
  refine lexB_step (fun K hK => ⟨by kernel_rfl, ⟨_, rfl⟩, fun v hv => ?_, fun v hv => ?_⟩)
  · obtain ⟨⟨c0, c1, c2⟩, _⟩ := three_at (keepB (unhideR QB) hv)
    go_simp
    exact lUpon_b hv
  subst hv
  go_simp
  refine hK _ ?_
  clear hK K
  refine lexB_step (fun K hK => ⟨by kernel_rfl, vset_some _ _ _, fun v hv => ?_, fun v hv => ?_⟩)
  · go_simp
    refine (cross_any px py pz qx qy qz _).mono ?_
    rintro e w1 ⟨u, rfl, hu, k⟩
    exact ⟨_, rfl, hu, below_on2 hv (Nat.le_refl _) k⟩
  obtain ⟨c0, c1, c2, rfl, e0, e1, e2⟩ := hv
  go_simp
  refine hK _ ?_
  clear hK K
  have E := hideR (And.intro e0 (And.intro e1 e2))
  clear e0 e1 e2
  refine lexB_step (fun K hK => ⟨by kernel_rfl, lset_some _ _ _ _ _ _, fun v hv => ?_, fun v hv => ?_⟩)
  · go_simp
    refine (length_any c0 c1 c2 _).mono ?_
    rintro e w1 ⟨r, t, rfl, h1, h2, k⟩
    exact ⟨_, rfl, ⟨r, rfl, c0, c1, c2, t, (unhideR E).1, (unhideR E).2.1, (unhideR E).2.2, h1, h2⟩, below_on2 hv (Nat.le_refl _) k⟩
  obtain ⟨l, rfl, hl⟩ := hv
  go_simp
  refine hK _ ?_
  clear hK K
  have HL := hideR hl
  clear hl E
  refine lexB_step (fun K hK => ⟨by kernel_rfl, ⟨_, rfl⟩, fun v hv => ?_, fun v hv => ?_⟩)
  · obtain ⟨⟨c0, c1, c2⟩, _⟩ := three_at (keepB (unhideR PB) hv)
    go_simp
    exact lUpon_b hv
  subst hv
  go_simp
  refine hK _ ?_
  clear hK K
  refine lexB_step (fun K hK => ⟨by kernel_rfl, ⟨_, rfl⟩, fun v hv => ?_, fun v hv => ?_⟩)
  · obtain ⟨⟨c0, c1, c2⟩, _⟩ := three_at (keepB (unhideR QB) hv)
    go_simp
    exact lUpon_b hv
  subst hv
  go_simp
  refine hK _ ?_
  clear hK K
  refine lexB_step (fun K hK => ⟨by kernel_rfl, fset_some _, fun v hv => ?_, fun v hv => ?_⟩)
  · go_simp
    refine (dot_any px py pz qx qy qz _).mono ?_
    rintro e w1 ⟨r, rfl, h1, k⟩
    exact ⟨_, rfl, ⟨r, rfl, h1⟩, below_on2 hv (Nat.le_refl _) k⟩
  obtain ⟨dd, rfl, hd⟩ := hv
  go_simp
  refine hK _ ?_
  clear hK K
  have HD := hideR hd
  clear hd
  refine lexB_step (fun K hK => ⟨by kernel_rfl, aset_some _ _ _ _ _ _, fun v hv => ?_, fun v hv => ?_⟩)
  · go_simp
    refine (angle_lw l dd _ (by obtain ⟨_, _, _, _, _, _, _, _, h⟩ := unhideR HL; exact lw_sq h) (lw_ev (unhideR HD))).mono ?_
    rintro e w1 ⟨rfl, k⟩
    exact ⟨_, rfl, ⟨_, _, rfl, ⟨l, dd, unhideR HL, unhideR HD, rfl⟩⟩, below_on2 hv (Nat.le_refl _) k⟩
  obtain ⟨n, bb, rfl, ha⟩ := hv
  go_simp
  refine hK _ ?_
  clear hK K
  have HA := hideR ha
  clear ha HL HD
  refine lexB_step (fun K hK => ⟨by kernel_rfl, aset_some _ _ _ _ _ _, fun v hv => ?_, fun v hv => ?_⟩)
  · go_simp
    exact ⟨hv, _, _, rfl, unhideR HA⟩
  obtain ⟨n2, bb2, rfl, ha⟩ := hv
  go_simp
  refine hK _ ?_
  clear hK K
  have HA2 := hideR ha
  clear ha HA
  refine lexB_step (fun K hK => ⟨by kernel_rfl, iset_some _ _ _ _ _ _, fun v hv => ?_, fun v hv => ?_⟩)
  · go_simp
    exact ⟨hv, _, rfl, unhideR HA2⟩
  obtain ⟨n3, rfl, ha⟩ := hv
  go_simp
  refine hK _ ?_
  clear hK K
  have HA3 := hideR ha
  clear ha
  refine lexB_step (fun K hK => ⟨by kernel_rfl, ⟨_, true, rfl⟩, fun v hv => ?_, fun v hv => ?_⟩)
  · go_simp
    exact ⟨hv, _, rfl⟩
  obtain ⟨b3, rfl⟩ := hv
  go_simp
  refine hK _ ?_
  clear hK K
  refine lexB_step (fun K hK => ⟨by kernel_rfl, iset_some _ _ _ _ _ _, fun v hv => ?_, fun v hv => ?_⟩)
  · go_simp
    exact ⟨hv, _, rfl, unhideR HA3⟩
  obtain ⟨n4, rfl, ha⟩ := hv
  go_simp
  refine hK _ ?_
  clear hK K
  have HA4 := hideR ha
  clear ha HA3
  refine lexB_step (fun K hK => ⟨by kernel_rfl, ⟨_, true, rfl⟩, fun v hv => ?_, fun v hv => ?_⟩)
  · go_simp
    exact ⟨hv, _, rfl⟩
  obtain ⟨b4, rfl⟩ := hv
  go_simp
  refine hK _ ?_
  clear hK K
  refine lexL_end ?_
  intro w3 k3
  have HB := hideR (below_go (unhideR HW) k3)
  clear k3
  go_wp2
  go_ret
  exact ⟨n4, px, py, pz, qx, qy, qz, rfl, unhideR Hp, unhideR Hq, unhideR HA4, unhideR HB⟩
end Go.Proofs.Ytfamndjiaebmbae
