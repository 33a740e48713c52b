/-
  Rotations about an axis: by contracts.
-/
import Derived.Test.YtbobnmaeiohnnadSpin7
import Derived.Test.YtbobnmaeiohnnadDSin
import Derived.Test.YtbobnmaeiohnnadSpin3
import Derived.Test.YtbobnmaeiohnnadLoose4
namespace Go.Proofs.Ytbobnmaeiohnnad
open Go Go.RowKit

/-- what About tells. -/
def AboutIs (x y z : Nat) (h : Int) (e : Ending) : Prop := ∃ r t, Ev (lenE x y z) t ∧ FSq t r ∧
  ((divB r = true ∧ ∃ p q s g0 g1 g2, e = .returned (.tuple #[.agg #[.float .f64 (cosV h), .float .f64 p, .float .f64 q, .float .f64 s], .bool true]) ∧ FOp .quo x r g0 ∧ FOp .quo y r g1 ∧ FOp .quo z r g2 ∧ FOp .mul (sinV h) g0 p ∧ FOp .mul (sinV h) g1 q ∧ FOp .mul (sinV h) g2 s) ∨
   (divB r = false ∧ e = .returned (.tuple #[.agg #[.float .f64 4607182418800017408, .float .f64 0, .float .f64 0, .float .f64 0], .bool false])))
set_option maxHeartbeats 8000000 in
theorem about_any (x y z : Nat) (h : Int) (w : World) : Calls Try.prog 25 #[.agg #[.float .f64 x, .float .f64 y, .float .f64 z], .int .i64 h] w fun e w' => AboutIs x y z h e ∧ Below w.heap.size w w' := by
  have hsf := run_store_float Try.prog
  go_enter Try.func25, Try.ntmps25
  go_wp2_with fail
  refine (length_any _ _ _ _).mono ?_
  rintro e w1 ⟨r, t, rfl, ht, hr, hB⟩
  obtain ⟨h0, h1, hB1⟩ := two_blocks hB
  have HU := hideR (And.intro ht hr)
  clear ht hr hB
  have hd := fun v => divides_any r v
  have hs := hB1.size
  have l1 : w.heap.size + 1 < w1.heap.size := (Array.getElem?_eq_some_iff.1 h1).1
  cases hv' : divB r with
  | false =>
    rw [hv'] at hd
    go_wp2_with fail
    refine (hd _).mono ?_
    rintro x w2 ⟨rfl, rfl⟩
    go_wp2_with fail
    refine (none_any _).mono ?_
    rintro x w3 ⟨rfl, hB3⟩
    have h3 := (hB3.block (w.heap.size + 1) l1).trans h1
    obtain ⟨⟨c0, c1, c2, c3⟩, f0, f1, f2, f3⟩ := four_at h3
    have HB := hideR (below_go hB1 hB3)
    clear hB3 hB1 h3 h0 h1 hd
    go_wp2
    simp [bodyPost, results, Try.results25, go_sem, c0, c1, c2, c3]
    exact ⟨⟨r, t, (unhideR HU).1, (unhideR HU).2, .inr ⟨hv', rfl⟩⟩, below_four (unhideR HB) (by omega) _ _ _ _⟩
  | true =>
    rw [hv'] at hd
    go_wp2_with fail
    refine (hd _).mono ?_
    rintro x w2 ⟨rfl, rfl⟩
    clear hd
    go_wp2_with fail
    refine (sin_any _ _).mono ?_
    rintro x w2 ⟨rfl, k2⟩
    have b0 := (k2.block w.heap.size (by omega)).trans h0
    have b1 := (k2.block (w.heap.size + 1) l1).trans h1
    have l2 : w.heap.size + 1 < w2.heap.size := Nat.lt_of_lt_of_le l1 k2.size
    have HB := hideR (below_go hB1 k2)
    obtain ⟨⟨c0, c1, c2⟩, _⟩ := three_at b0
    clear h0 h1 hB1 k2
    have HC := hideR (fun v => cos_any h v)
    have B0 := hideR b0
    have B1 := hideR b1
    clear b0 b1 c0 c1 c2
    have hm := fun t x y v => run_fmul (P := Try.prog) t x y v
    have hq := fun t x y v => run_fquo (P := Try.prog) t x y v
    have HE : ∀ e, HeldR (AboutIs x y z h e) = HeldR (AboutIs x y z h e) := fun _ => rfl
    obtain ⟨S, hS⟩ : ∃ S, S = sinV h := ⟨_, rfl⟩
    obtain ⟨C, hC⟩ : ∃ C, C = cosV h := ⟨_, rfl⟩
    have HS := hideR hS
    have HCC := hideR hC
    rw [← hS]
    rw [← hC] at HC
    clear hS hC HE
    go_wp2_with fail
    refine wp_region_tailB w2.heap.size 1 (List.replicate 21 true ++ List.replicate 2 false).toArray [(· = .int .i64 h),
      (· = .float .f64 C),
      (· = .float .f64 S),
      (· = .pointer (some ⟨w.heap.size, 0, none⟩)),
      (· = .float .f64 x),
      (· = .float .f64 r),
      FSet (.op .quo (.num x) (.num r)),
      FSet (.op .mul (.num S) (.op .quo (.num x) (.num r))),
      (· = .float .f64 S),
      (· = .pointer (some ⟨w.heap.size, 1, none⟩)),
      (· = .float .f64 y),
      (· = .float .f64 r),
      FSet (.op .quo (.num y) (.num r)),
      FSet (.op .mul (.num S) (.op .quo (.num y) (.num r))),
      (· = .float .f64 S),
      (· = .pointer (some ⟨w.heap.size, 2, none⟩)),
      (· = .float .f64 z),
      (· = .float .f64 r),
      FSet (.op .quo (.num z) (.num r)),
      FSet (.op .mul (.num S) (.op .quo (.num z) (.num r))),
      QSetB (.num C) (.op .mul (.num S) (.op .quo (.num x) (.num r))) (.op .mul (.num S) (.op .quo (.num y) (.num r))) (.op .mul (.num S) (.op .quo (.num z) (.num r)))] (by kernel_rfl) (by kernel_rfl) rfl (by kernel_rfl) (by kernel_rfl) ?_
    refine lexM_step (fun K hK => ⟨by kernel_rfl, ⟨_, rfl⟩, fun v hv => ?_, fun v hv => ?_⟩)
    · go_simp
      exact lUpon_b hv
    subst hv
    go_simp
    refine hK _ ?_
    clear hK K
    refine lexM_step (fun K hK => ⟨by kernel_rfl, ⟨_, rfl⟩, fun v hv => ?_, fun v hv => ?_⟩)
    · go_simp
      refine (unhideR HC _).mono ?_
      rintro e w3 ⟨rfl, k⟩
      exact ⟨_, rfl, rfl, below_on2 hv (Nat.le_refl _) k⟩
    subst hv
    go_simp
    refine hK _ ?_
    clear hK K
    refine lexM_step (fun K hK => ⟨by kernel_rfl, ⟨_, rfl⟩, fun v hv => ?_, fun v hv => ?_⟩)
    · go_simp
      exact lUpon_b hv
    subst hv
    go_simp
    refine hK _ ?_
    clear hK K
    refine lexM_step (fun K hK => ⟨by kernel_rfl, ⟨_, rfl⟩, fun v hv => ?_, fun v hv => ?_⟩)
    · go_simp
      exact lUpon_b hv
    subst hv
    go_simp
    refine hK _ ?_
    clear hK K
    refine lexM_step (fun K hK => ⟨by kernel_rfl, ⟨_, rfl⟩, fun v hv => ?_, fun v hv => ?_⟩)
    · obtain ⟨⟨c0, c1, c2⟩, _⟩ := three_at ((hv.block _ (by omega)).trans (unhideR B0))
      go_simp
      exact lUpon_b hv
    subst hv
    go_simp
    refine hK _ ?_
    clear hK K
    refine lexM_step (fun K hK => ⟨by kernel_rfl, ⟨_, rfl⟩, fun v hv => ?_, fun v hv => ?_⟩)
    · go_simp
      exact lUpon_b hv
    subst hv
    go_simp
    refine hK _ ?_
    clear hK K
    refine lexM_step (fun K hK => ⟨by kernel_rfl, fset_some _, fun v hv => ?_, fun v hv => ?_⟩)
    · go_simp
      exact ⟨below_drewN hv _, _, rfl, .op (.num _) (.num _) (fnum_is _ _ _ _)⟩
    obtain ⟨g0, rfl, e⟩ := hv
    go_simp
    refine hK _ ?_
    clear hK K
    have E0 := hideR e
    clear e
    refine lexM_step (fun K hK => ⟨by kernel_rfl, fset_some _, fun v hv => ?_, fun v hv => ?_⟩)
    · go_simp
      exact ⟨below_drewN hv _, _, rfl, .op (.num _) (unhideR E0) (fnum_is _ _ _ _)⟩
    obtain ⟨m0, rfl, e⟩ := hv
    go_simp
    refine hK _ ?_
    clear hK K
    have F0 := hideR e
    clear e E0
    refine lexM_step (fun K hK => ⟨by kernel_rfl, ⟨_, rfl⟩, fun v hv => ?_, fun v hv => ?_⟩)
    · go_simp
      exact lUpon_b hv
    subst hv
    go_simp
    refine hK _ ?_
    clear hK K
    refine lexM_step (fun K hK => ⟨by kernel_rfl, ⟨_, rfl⟩, fun v hv => ?_, fun v hv => ?_⟩)
    · go_simp
      exact lUpon_b hv
    subst hv
    go_simp
    refine hK _ ?_
    clear hK K
    refine lexM_step (fun K hK => ⟨by kernel_rfl, ⟨_, rfl⟩, fun v hv => ?_, fun v hv => ?_⟩)
    · obtain ⟨⟨c0, c1, c2⟩, _⟩ := three_at ((hv.block _ (by omega)).trans (unhideR B0))
      go_simp
      exact lUpon_b hv
    subst hv
    go_simp
    refine hK _ ?_
    clear hK K
    refine lexM_step (fun K hK => ⟨by kernel_rfl, ⟨_, rfl⟩, fun v hv => ?_, fun v hv => ?_⟩)
    · go_simp
      exact lUpon_b hv
    subst hv
    go_simp
    refine hK _ ?_
    clear hK K
    refine lexM_step (fun K hK => ⟨by kernel_rfl, fset_some _, fun v hv => ?_, fun v hv => ?_⟩)
    · go_simp
      exact ⟨below_drewN hv _, _, rfl, .op (.num _) (.num _) (fnum_is _ _ _ _)⟩
    obtain ⟨g1, rfl, e⟩ := hv
    go_simp
    refine hK _ ?_
    clear hK K
    have E1 := hideR e
    clear e
    refine lexM_step (fun K hK => ⟨by kernel_rfl, fset_some _, fun v hv => ?_, fun v hv => ?_⟩)
    · go_simp
      exact ⟨below_drewN hv _, _, rfl, .op (.num _) (unhideR E1) (fnum_is _ _ _ _)⟩
    obtain ⟨m1, rfl, e⟩ := hv
    go_simp
    refine hK _ ?_
    clear hK K
    have F1 := hideR e
    clear e E1
    refine lexM_step (fun K hK => ⟨by kernel_rfl, ⟨_, rfl⟩, fun v hv => ?_, fun v hv => ?_⟩)
    · go_simp
      exact lUpon_b hv
    subst hv
    go_simp
    refine hK _ ?_
    clear hK K
    refine lexM_step (fun K hK => ⟨by kernel_rfl, ⟨_, rfl⟩, fun v hv => ?_, fun v hv => ?_⟩)
    · go_simp
      exact lUpon_b hv
    subst hv
    go_simp
    refine hK _ ?_
    clear hK K
    refine lexM_step (fun K hK => ⟨by kernel_rfl, ⟨_, rfl⟩, fun v hv => ?_, fun v hv => ?_⟩)
    · obtain ⟨⟨c0, c1, c2⟩, _⟩ := three_at ((hv.block _ (by omega)).trans (unhideR B0))
      go_simp
      exact lUpon_b hv
    subst hv
    go_simp
    refine hK _ ?_
    clear hK K
    refine lexM_step (fun K hK => ⟨by kernel_rfl, ⟨_, rfl⟩, fun v hv => ?_, fun v hv => ?_⟩)
    · go_simp
      exact lUpon_b hv
    subst hv
    go_simp
    refine hK _ ?_
    clear hK K
    refine lexM_step (fun K hK => ⟨by kernel_rfl, fset_some _, fun v hv => ?_, fun v hv => ?_⟩)
    · go_simp
      exact ⟨below_drewN hv _, _, rfl, .op (.num _) (.num _) (fnum_is _ _ _ _)⟩
    obtain ⟨g2, rfl, e⟩ := hv
    go_simp
    refine hK _ ?_
    clear hK K
    have E2 := hideR e
    clear e
    refine lexM_step (fun K hK => ⟨by kernel_rfl, fset_some _, fun v hv => ?_, fun v hv => ?_⟩)
    · go_simp
      exact ⟨below_drewN hv _, _, rfl, .op (.num _) (unhideR E2) (fnum_is _ _ _ _)⟩
    obtain ⟨m2, rfl, e⟩ := hv
    go_simp
    refine hK _ ?_
    clear hK K
    have F2 := hideR e
    clear e E2
    refine lexM_step (fun K hK => ⟨by kernel_rfl, qsetB_some _ _ _ _, fun v hv => ?_, fun v hv => ?_⟩)
    · go_simp
      exact ⟨hv, _, _, _, _, rfl, .num _, unhideR F0, unhideR F1, unhideR F2⟩
    obtain ⟨p, q, s, u, rfl, e0, e1, e2, e3⟩ := hv
    go_simp
    refine hK _ ?_
    clear hK K
    cases e0
    have E := hideR (And.intro e1 (And.intro e2 e3))
    clear e1 e2 e3 F0 F1 F2
    refine lexT_end (fun v hv => ?_)
    obtain ⟨⟨c0, c1, c2, c3⟩, f0, f1, f2, f3⟩ := four_at ((hv.block _ l2).trans (unhideR B1))
    refine wpAny_step (i := 21) (by kernel_rfl) rfl (by kernel_rfl) (fun K hK => ?_)
    unfold Oper.wp
    go_simp
    refine hK _ _ ?_
    clear hK K
    refine wpAny_step (i := 22) (by kernel_rfl) rfl (by kernel_rfl) (fun K hK => ?_)
    unfold Oper.wp
    go_simp
    refine hK _ _ ?_
    clear hK K
    refine wpAny_end (by kernel_rfl) ?_
    have HB2 := hideR (below_go (unhideR HB) hv)
    clear HB hv
    go_wp2
    simp [bodyPost, results, Try.results25, go_sem, c0, c1, c2, c3]
    obtain ⟨e1, e2, e3⟩ := unhideR E
    cases e1 with | op n1 d1 o1 =>
    cases e2 with | op n2 d2 o2 =>
    cases e3 with | op n3 d3 o3 =>
    cases n1; cases n2; cases n3
    cases d1 with | op a1 a2 a3 =>
    cases d2 with | op b1 b2 b3 =>
    cases d3 with | op k1 k2 k3 =>
    cases a1; cases a2; cases b1; cases b2; cases k1; cases k2
    have hS := unhideR HS
    have hC := unhideR HCC
    subst hS hC
    exact ⟨⟨r, t, (unhideR HU).1, (unhideR HU).2, .inl ⟨hv', _, _, _, _, _, _, rfl, a3, b3, k3, o1, o2, o3⟩⟩, below_four (unhideR HB2) (by omega) _ _ _ _⟩
set_option maxHeartbeats 8000000 in
theorem aboutOf_any (x y z : Nat) (h : Int) (w : World) : Calls Try.prog 26 #[.agg #[.float .f64 x, .float .f64 y, .float .f64 z], .int .i64 h] w fun e w' => AboutIs x y z h e ∧ Below w.heap.size w w' := by
  have hsf := run_store_float Try.prog
  go_enter Try.func26, Try.ntmps26
  go_wp2_with fail
  refine (lengthOf_any _ _ _ _).mono ?_
  rintro e w1 ⟨r, t, rfl, ht, hr, hB⟩
  obtain ⟨h0, h1, hB1⟩ := two_blocks hB
  have hs := hB1.size
  have l1 : w.heap.size + 1 < w1.heap.size := (Array.getElem?_eq_some_iff.1 h1).1
  have hq := sq_divB hr
  have HU := hideR (And.intro ht hr)
  clear ht hr hB
  have hfi := fun v => finite_any r v
  have ho : oneB r = (finB r && !(FloatKind.f64.format.order r 0 == some .eq)) := rfl
  obtain ⟨f, hf⟩ : ∃ f, finB r = f := ⟨_, rfl⟩
  obtain ⟨o, hoo⟩ : ∃ o, (FloatKind.f64.format.order r 0 == some .eq) = o := ⟨_, rfl⟩
  rw [hf, hoo] at ho
  rw [hf] at hfi
  rw [ho] at hq
  clear ho hf
  go_wp2_with fail
  refine (hfi _).mono ?_
  rintro x w2 ⟨rfl, n2, rfl⟩
  clear hfi
  cases f
  case false =>
    obtain ⟨⟨c0, c1, c2, c3⟩, f0, f1, f2, f3⟩ := four_at h1
    have HB := hideR hB1
    clear h0 h1 hB1
    go_wp2
    simp [bodyPost, results, Try.results26, go_sem, c0, c1, c2, c3]
    exact ⟨⟨r, t, (unhideR HU).1, (unhideR HU).2, .inr ⟨hq, rfl⟩⟩, below_four (below_drewN (unhideR HB) _) (by omega) _ _ _ _⟩
  case true =>
    cases o
    case true =>
      obtain ⟨⟨c0, c1, c2, c3⟩, f0, f1, f2, f3⟩ := four_at h1
      have HB := hideR hB1
      clear h0 h1 hB1
      go_wp2
      simp [bodyPost, results, Try.results26, go_sem, c0, c1, c2, c3]
      exact ⟨⟨r, t, (unhideR HU).1, (unhideR HU).2, .inr ⟨hq, rfl⟩⟩, below_four (below_drewN (unhideR HB) _) (by omega) _ _ _ _⟩
    case false =>
      go_wp2_with fail
      refine (sinCos_is _ _).mono ?_
      rintro x w2 ⟨rfl, k2⟩
      have b0 := (k2.block w.heap.size (by show w.heap.size < w1.heap.size; omega)).trans h0
      have b1 := (k2.block (w.heap.size + 1) l1).trans h1
      have HB := hideR (below_go (below_drewN hB1 n2) k2)
      obtain ⟨⟨g0, g1, g2⟩, _⟩ := three_at b0
      obtain ⟨⟨c0, c1, c2, c3⟩, f0, f1, f2, f3⟩ := four_at b1
      clear h0 h1 hB1 k2 b0 b1
      obtain ⟨S, hS⟩ : ∃ S, S = sinV h := ⟨_, rfl⟩
      obtain ⟨C, hC⟩ : ∃ C, C = cosV h := ⟨_, rfl⟩
      rw [← hS, ← hC]
      have HS := hideR hS
      have HCC := hideR hC
      clear hS hC
      go_wp2_with fail
      refine upon_float four_quo ?_
      intro q0 nq0 hq0
      go_wp2_with fail
      refine upon_float four_quo ?_
      intro q1 nq1 hq1
      go_wp2_with fail
      refine upon_float four_quo ?_
      intro q2 nq2 hq2
      go_wp2_with fail
      refine upon_float four_mul ?_
      intro p0 np0 hp0
      go_wp2_with fail
      refine upon_float four_mul ?_
      intro p1 np1 hp1
      go_wp2_with fail
      refine upon_float four_mul ?_
      intro p2 np2 hp2
      go_wp2
      simp [bodyPost, results, Try.results26, go_sem, c0, c1, c2, c3]
      have hS := unhideR HS
      have hC := unhideR HCC
      subst hS hC
      exact ⟨⟨r, t, (unhideR HU).1, (unhideR HU).2, .inl ⟨hq, _, _, _, _, _, _, rfl, hq0, hq1, hq2, hp0, hp1, hp2⟩⟩, below_four (below_drewN (unhideR HB) _) (by omega) _ _ _ _⟩
end Go.Proofs.Ytbobnmaeiohnnad
