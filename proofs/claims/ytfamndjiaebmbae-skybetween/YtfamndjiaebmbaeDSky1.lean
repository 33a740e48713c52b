/-
  The program's points and places, by contracts.
-/
import Derived.Test.YtfamndjiaebmbaeSky1
import Derived.Test.YtfamndjiaebmbaeDAng
import Derived.Test.YtfamndjiaebmbaeLens
import Derived.Test.YtfamndjiaebmbaeSgd
namespace Go.Proofs.Ytfamndjiaebmbae
open Go Go.RowKit

theorem ev_m_inv {x y r : Nat} (h : Ev (mE x y) r) : FOp .mul x y r := by
  unfold mE at h
  cases h with
  | op a b c => cases a; cases b; exact c
theorem lw_sq {t r : Nat} (h : FSq t r) : Lw r := by
  unfold FSq at h
  cases e : FloatKind.f64.format.sqrt t with
  | some v =>
    rw [e] at h
    subst h
    have hw : (2 : Nat) ^ FloatKind.f64.format.width = 18446744073709551616 := by decide
    exact .inr (hw ▸ Ieee.Format.sqrt_lt _ e)
  | none =>
    rw [e] at h
    exact .inl h
set_option maxHeartbeats 8000000 in
theorem point_any (lon lat : Int) (w : World) : Calls Try.prog 9 #[.agg #[.int .i64 lon, .int .i64 lat]] w fun e w' => ∃ x y z, e = .returned (.agg #[.float .f64 x, .float .f64 y, .float .f64 z]) ∧ PointIs lon lat x y z ∧ Below w.heap.size w w' := by
  have hsf := run_store_float Try.prog
  have hm := fun t x y v => run_fmul (P := Try.prog) t x y v
  have h1 := fun v => cos_any lat v
  have h2 := fun v => cos_any lon v
  have h3 := fun v => sin_any lon v
  have h4 := fun v => sin_any lat v
  have HP := hideR (fun x y (hx : FOp .mul (cosV lat) (cosV lon) x) (hy : FOp .mul (cosV lat) (sinV lon) y) => PointIs.mk hx hy (rfl : sinV lat = sinV lat))
  generalize sinV lat = s at *
  generalize cosV lat = c at *
  generalize sinV lon = sl at *
  generalize cosV lon = cl at *
  go_enter Try.func9, Try.ntmps9
  go_wp2_with fail
  refine (h1 _).mono ?_
  rintro e w1 ⟨rfl, k1⟩
  obtain ⟨b0, b1, hB1⟩ := two_blocks k1
  have HW := hideR hB1
  have A0 := hideR b0
  have A1 := hideR b1
  clear k1 b0 b1 hB1
  go_wp2_with fail
  refine wp_region_lastB w1.heap.size [(· = .float .f64 c),
    (· = .pointer (some ⟨w.heap.size, 0, none⟩)),
    (· = .int .i64 lon),
    (· = .float .f64 cl),
    FSet (mE c cl),
    (· = .float .f64 c),
    (· = .pointer (some ⟨w.heap.size, 0, none⟩)),
    (· = .int .i64 lon),
    (· = .float .f64 sl),
    FSet (mE c sl),
    (· = .pointer (some ⟨w.heap.size, 1, none⟩)),
    (· = .int .i64 lat),
    (· = .float .f64 s),
    VSet (mE c cl) (mE c sl) (.num s)] (by kernel_rfl) (by kernel_rfl) rfl (by kernel_rfl) (by kernel_rfl) ?_
  refine lexM_step (fun K hK => ⟨by kernel_rfl, ⟨_, rfl⟩, fun v hv => ?_, fun v hv => ?_⟩)
  · go_simp
    exact lUpon_b hv
  subst hv
  go_simp
  refine hK _ ?_
  clear hK K
  refine lexM_step (fun K hK => ⟨by kernel_rfl, ⟨_, rfl⟩, fun v hv => ?_, fun v hv => ?_⟩)
  · go_simp
    exact lUpon_b hv
  subst hv
  go_simp
  refine hK _ ?_
  clear hK K
  refine lexM_step (fun K hK => ⟨by kernel_rfl, ⟨_, rfl⟩, fun v hv => ?_, fun v hv => ?_⟩)
  · obtain ⟨⟨c0, c1⟩, _⟩ := pair_at (keepB (unhideR A0) hv)
    go_simp
    exact lUpon_b hv
  subst hv
  go_simp
  refine hK _ ?_
  clear hK K
  refine lexM_step (fun K hK => ⟨by kernel_rfl, ⟨_, rfl⟩, fun v hv => ?_, fun v hv => ?_⟩)
  · go_simp
    refine (h2 _).mono ?_
    rintro e w9 ⟨rfl, k⟩
    exact ⟨_, rfl, rfl, below_on2 hv (Nat.le_refl _) k⟩
  subst hv
  go_simp
  refine hK _ ?_
  clear hK K
  refine lexM_step (fun K hK => ⟨by kernel_rfl, fset_some _, fun v hv => ?_, fun v hv => ?_⟩)
  · go_simp
    exact ⟨below_drewN hv _, _, rfl, .op (.num _) (.num _) (fnum_is _ _ _ _)⟩
  obtain ⟨r0, rfl, e_r0⟩ := hv
  go_simp
  refine hK _ ?_
  clear hK K
  have E_r0 := hideR e_r0
  clear e_r0
  refine lexM_step (fun K hK => ⟨by kernel_rfl, ⟨_, rfl⟩, fun v hv => ?_, fun v hv => ?_⟩)
  · go_simp
    exact lUpon_b hv
  subst hv
  go_simp
  refine hK _ ?_
  clear hK K
  refine lexM_step (fun K hK => ⟨by kernel_rfl, ⟨_, rfl⟩, fun v hv => ?_, fun v hv => ?_⟩)
  · go_simp
    exact lUpon_b hv
  subst hv
  go_simp
  refine hK _ ?_
  clear hK K
  refine lexM_step (fun K hK => ⟨by kernel_rfl, ⟨_, rfl⟩, fun v hv => ?_, fun v hv => ?_⟩)
  · obtain ⟨⟨c0, c1⟩, _⟩ := pair_at (keepB (unhideR A0) hv)
    go_simp
    exact lUpon_b hv
  subst hv
  go_simp
  refine hK _ ?_
  clear hK K
  refine lexM_step (fun K hK => ⟨by kernel_rfl, ⟨_, rfl⟩, fun v hv => ?_, fun v hv => ?_⟩)
  · go_simp
    refine (h3 _).mono ?_
    rintro e w9 ⟨rfl, k⟩
    exact ⟨_, rfl, rfl, below_on2 hv (Nat.le_refl _) k⟩
  subst hv
  go_simp
  refine hK _ ?_
  clear hK K
  refine lexM_step (fun K hK => ⟨by kernel_rfl, fset_some _, fun v hv => ?_, fun v hv => ?_⟩)
  · go_simp
    exact ⟨below_drewN hv _, _, rfl, .op (.num _) (.num _) (fnum_is _ _ _ _)⟩
  obtain ⟨r1, rfl, e_r1⟩ := hv
  go_simp
  refine hK _ ?_
  clear hK K
  have E_r1 := hideR e_r1
  clear e_r1
  refine lexM_step (fun K hK => ⟨by kernel_rfl, ⟨_, rfl⟩, fun v hv => ?_, fun v hv => ?_⟩)
  · go_simp
    exact lUpon_b hv
  subst hv
  go_simp
  refine hK _ ?_
  clear hK K
  refine lexM_step (fun K hK => ⟨by kernel_rfl, ⟨_, rfl⟩, fun v hv => ?_, fun v hv => ?_⟩)
  · obtain ⟨⟨c0, c1⟩, _⟩ := pair_at (keepB (unhideR A0) hv)
    go_simp
    exact lUpon_b hv
  subst hv
  go_simp
  refine hK _ ?_
  clear hK K
  refine lexM_step (fun K hK => ⟨by kernel_rfl, ⟨_, rfl⟩, fun v hv => ?_, fun v hv => ?_⟩)
  · go_simp
    refine (h4 _).mono ?_
    rintro e w9 ⟨rfl, k⟩
    exact ⟨_, rfl, rfl, below_on2 hv (Nat.le_refl _) k⟩
  subst hv
  go_simp
  refine hK _ ?_
  clear hK K
  refine lexM_step (fun K hK => ⟨by kernel_rfl, vset_some _ _ _, fun v hv => ?_, fun v hv => ?_⟩)
  · go_simp
    exact ⟨hv, _, _, _, rfl, unhideR E_r0, unhideR E_r1, .num _⟩
  obtain ⟨p, q, r, rfl, e0, e1, e2⟩ := hv
  go_simp
  refine hK _ ?_
  clear hK K
  have E := hideR (And.intro e0 (And.intro e1 e2))
  clear e0 e1 e2 E_r0 E_r1
  refine lexM_end (o := _) rfl (by kernel_rfl) (fun v hv => ?_)
  obtain ⟨⟨j0, j1, j2⟩, f0, f1, f2⟩ := three_at (keepB (unhideR A1) hv)
  have HB := hideR (below_go (unhideR HW) hv)
  clear hv
  unfold Oper.wp
  go_simp
  go_wp2
  simp [bodyPost, results, Try.results9, go_sem, j0, j1, j2]
  obtain ⟨e0, e1, e2⟩ := unhideR E
  cases e2
  exact ⟨p, q, s, ⟨rfl, rfl, rfl⟩, unhideR HP p q (ev_m_inv e0) (ev_m_inv e1), below_three (unhideR HB) (by omega) _ _ _⟩
end Go.Proofs.Ytfamndjiaebmbae
