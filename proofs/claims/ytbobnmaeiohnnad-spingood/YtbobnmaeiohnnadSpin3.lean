/-
  The law SpinTimes: its walk out of the contracts.
-/
import Derived.Test.YtbobnmaeiohnnadSpin2
import Derived.Test.YtbobnmaeiohnnadLoose2
import Derived.Deep.RegionWith
import Derived.Deep.QuietTactic
namespace Go.Proofs.Ytbobnmaeiohnnad
open Go Go.RowKit

theorem fop_det {op : BinOp} {x y r v : Nat} (h : FOp op x y r) (hv : floatBits op .f64 x y = some v) : r = v := by
  unfold FOp at h
  rw [hv] at h
  exact h
theorem turns_val : (∀ p, Ev (tWE 4607182418800017408 0 0 0 0 4611686018427387904 0 0) p → p = 0) ∧ (∀ q, Ev (tXE 4607182418800017408 0 0 0 0 4611686018427387904 0 0) q → q = 4611686018427387904) := by
  have m1 : floatBits .mul .f64 4607182418800017408 0 = some 0 := by decide +kernel
  have m2 : floatBits .mul .f64 0 4611686018427387904 = some 0 := by decide +kernel
  have m3 : floatBits .mul .f64 0 0 = some 0 := by decide +kernel
  have m4 : floatBits .mul .f64 4607182418800017408 4611686018427387904 = some 4611686018427387904 := by decide +kernel
  have s1 : floatBits .sub .f64 0 0 = some 0 := by decide +kernel
  have s2 : floatBits .add .f64 4611686018427387904 0 = some 4611686018427387904 := by decide +kernel
  have s3 : floatBits .sub .f64 4611686018427387904 0 = some 4611686018427387904 := by decide +kernel
  constructor
  · intro p hp
    cases hp with | op h1 h2 hr =>
    cases h1 with | op h3 h4 hr2 =>
    cases h3 with | op h5 h6 hr3 =>
    cases h2 with | op x1 x2 hm1 =>
    cases h4 with | op x3 x4 hm2 =>
    cases h5 with | op x5 x6 hm3 =>
    cases h6 with | op x7 x8 hm4 =>
    cases x1; cases x2; cases x3; cases x4; cases x5; cases x6; cases x7; cases x8
    obtain rfl := fop_det hm1 m3
    obtain rfl := fop_det hm2 m3
    obtain rfl := fop_det hm3 m1
    obtain rfl := fop_det hm4 m2
    obtain rfl := fop_det hr3 s1
    obtain rfl := fop_det hr2 s1
    exact fop_det hr s1
  · intro p hp
    cases hp with | op h1 h2 hr =>
    cases h1 with | op h3 h4 hr2 =>
    cases h3 with | op h5 h6 hr3 =>
    cases h2 with | op x1 x2 hm1 =>
    cases h4 with | op x3 x4 hm2 =>
    cases h5 with | op x5 x6 hm3 =>
    cases h6 with | op x7 x8 hm4 =>
    cases x1; cases x2; cases x3; cases x4; cases x5; cases x6; cases x7; cases x8
    obtain rfl := fop_det hm1 m3
    obtain rfl := fop_det hm2 m3
    obtain rfl := fop_det hm3 m4
    obtain rfl := fop_det hm4 m3
    obtain rfl := fop_det hr3 s2
    obtain rfl := fop_det hr2 s2
    exact fop_det hr s3
set_option maxHeartbeats 4000000 in
theorem turns_any (w : World) : Calls Try.prog 14 #[] w fun x w' => x = .returned (.bool true) ∧ Below w.heap.size w w' := by
  have hsf := run_store_float Try.prog
  have ho1 : FloatKind.f64.format.order 4611686018427387904 4611686018427387904 = some .eq := by decide +kernel
  have ho2 : FloatKind.f64.format.order 0 0 = some .eq := by decide +kernel
  go_enter Try.func14, Try.ntmps14
  go_wp2_with fail
  refine (times_any _ _ _ _ _ _ _ _ _).mono ?_
  rintro x w1 ⟨p, q, r, s, rfl, hp, hq, hr, hs, hB⟩
  obtain rfl := turns_val.1 p hp
  obtain rfl := turns_val.2 q hq
  clear hp hq hr hs
  go_wp2
  go_ret
  exact ⟨rfl, hB.alloc hB.size _⟩
theorem fop_unit {a r r' p p' : Nat} (h : FOp .quo a r p) (h' : FOp .quo a r' p') (hr : FSame r r') : FSame p p' := h.same h' (.refl a) hr
/-- two that were told as the same's units are the same. -/
theorem unit_same {a b c d : Nat} {x y : Ending} (h : UnitIs a b c d x) (k : UnitIs a b c d y) :
    ∃ p q s u p' q' s' u' t, x = .returned (.tuple #[.agg #[.float .f64 p, .float .f64 q, .float .f64 s, .float .f64 u], .bool t]) ∧ y = .returned (.tuple #[.agg #[.float .f64 p', .float .f64 q', .float .f64 s', .float .f64 u'], .bool t]) ∧
      FSame p p' ∧ FSame q q' ∧ FSame s s' ∧ FSame u u' := by
  obtain ⟨r, t, e1, s1, h⟩ := h
  obtain ⟨r', t', e2, s2, k⟩ := k
  have hr := s1.same s2 (e1.same e2)
  have hd := divB_same hr
  rcases h with ⟨h0, p, q, s, u, rfl, h1, h2, h3, h4⟩ | ⟨h0, rfl⟩
  · rcases k with ⟨k0, p', q', s', u', rfl, k1, k2, k3, k4⟩ | ⟨k0, rfl⟩
    · exact ⟨p, q, s, u, p', q', s', u', true, rfl, rfl, fop_unit h1 k1 hr, fop_unit h2 k2 hr, fop_unit h3 k3 hr, fop_unit h4 k4 hr⟩
    · rw [h0, k0] at hd; cases hd
  · rcases k with ⟨k0, p', q', s', u', rfl, k1, k2, k3, k4⟩ | ⟨k0, rfl⟩
    · rw [h0, k0] at hd; cases hd
    · exact ⟨_, _, _, _, _, _, _, _, false, rfl, rfl, .refl _, .refl _, .refl _, .refl _⟩
def QSetB (e0 e1 e2 e3 : FE) (v : Value) : Prop := ∃ p q r s, v = .agg #[.float .f64 p, .float .f64 q, .float .f64 r, .float .f64 s] ∧ Ev e0 p ∧ Ev e1 q ∧ Ev e2 r ∧ Ev e3 s
theorem qsetB_some (e0 e1 e2 e3 : FE) : ∃ v, QSetB e0 e1 e2 e3 v := by
  obtain ⟨p, hp⟩ := ev_some e0
  obtain ⟨q, hq⟩ := ev_some e1
  obtain ⟨r, hr⟩ := ev_some e2
  obtain ⟨s, hs⟩ := ev_some e3
  exact ⟨_, p, q, r, s, rfl, hp, hq, hr, hs⟩
theorem unit_form {a b c d : Nat} {x : Ending} (h : UnitIs a b c d x) : ∃ p q s u t, x = .returned (.tuple #[.agg #[.float .f64 p, .float .f64 q, .float .f64 s, .float .f64 u], .bool t]) := by
  obtain ⟨p, q, s, u, _, _, _, _, t, e, _⟩ := unit_same h h
  exact ⟨p, q, s, u, t, e⟩
theorem unit_same2 {a b c d p q s u p' q' s' u' : Nat} {t t' : Bool} (h : UnitIs a b c d (.returned (.tuple #[.agg #[.float .f64 p, .float .f64 q, .float .f64 s, .float .f64 u], .bool t]))) (k : UnitIs a b c d (.returned (.tuple #[.agg #[.float .f64 p', .float .f64 q', .float .f64 s', .float .f64 u'], .bool t']))) :
    t = t' ∧ FSame p p' ∧ FSame q q' ∧ FSame s s' ∧ FSame u u' := by
  obtain ⟨_, _, _, _, _, _, _, _, _, e1, e2, h1, h2, h3, h4⟩ := unit_same h k
  simp only [Ending.returned.injEq, Value.tuple.injEq, Array.mk.injEq, List.cons.injEq, Value.agg.injEq, Value.float.injEq, Value.bool.injEq, and_true, true_and] at e1 e2
  obtain ⟨⟨rfl, rfl, rfl, rfl⟩, rfl⟩ := e1
  obtain ⟨⟨rfl, rfl, rfl, rfl⟩, rfl⟩ := e2
  exact ⟨rfl, h1, h2, h3, h4⟩
theorem sameBits_true {x y : Nat} (w : World) (h : FSame x y) : Calls Try.prog 19 #[.float .f64 x, .float .f64 y] w fun e w' => e = .returned (.bool true) ∧ w' = w := (same_iff.2 h) ▸ sameBits_any x y w
set_option maxHeartbeats 8000000 in
theorem spinTimes_walk (a b c d e f g h : Nat) (w : World) :
    Calls Try.prog 5 #[.agg #[.float .f64 a, .float .f64 b, .float .f64 c, .float .f64 d], .agg #[.float .f64 e, .float .f64 f, .float .f64 g, .float .f64 h]] w fun x w' => x = .returned (.bool true) ∧ Below w.heap.size w w' := by
  have hsf := run_store_float Try.prog
  have hneg : ∀ x v, (Op.unary UnOp.neg (.float .f64 x)).run Try.prog v = .ok (.float .f64 (Op.negFloat .f64 x)) v := fun _ _ => rfl
  go_enter Try.func5, Try.ntmps5
  go_wp2_with fail
  refine (turns_any _).mono ?_
  rintro x w1 ⟨rfl, hB1⟩
  obtain ⟨h0, h1, hBw⟩ := two_blocks hB1
  have hs1 := hB1.size
  have hsz : w.heap.size + 2 ≤ w1.heap.size := by simpa using hs1
  have HW := hideR hBw
  clear hB1 hBw hs1
  have hl : ∀ v, Below w1.heap.size w1 v → (v.heap[w.heap.size]? = some (.cells #[.float .f64 a, .float .f64 b, .float .f64 c, .float .f64 d] 30)) ∧ (v.heap[w.heap.size + 1]? = some (.cells #[.float .f64 e, .float .f64 f, .float .f64 g, .float .f64 h] 30)) := fun v hv =>
    ⟨(hv.block _ (by omega)).trans h0, (hv.block _ (by omega)).trans h1⟩
  have HL := hideR hl
  clear hl h0 h1
  obtain ⟨B, hBd⟩ : ∃ B, B = w1.heap.size := ⟨_, rfl⟩
  rw [← hBd] at HL
  have hBB : B ≤ w1.heap.size := by omega
  have hsB : w.heap.size + 2 ≤ B := by omega
  have hBW : B ≤ w1.heap.size := hBB
  clear hBd
  go_wp2_with fail
  refine wp_region_letsB B [(· = .agg #[.float .f64 a, .float .f64 b, .float .f64 c, .float .f64 d]),
    (· = .agg #[.float .f64 a, .float .f64 b, .float .f64 c, .float .f64 d]),
    (· = .agg #[.float .f64 e, .float .f64 f, .float .f64 g, .float .f64 h]),
    (· = .agg #[.float .f64 e, .float .f64 f, .float .f64 g, .float .f64 h]),
    QSetB (tWE a b c d e f g h) (tXE a b c d e f g h) (tYE a b c d e f g h) (tZE a b c d e f g h),
    (· = .agg #[.float .f64 a, .float .f64 b, .float .f64 c, .float .f64 d]),
    (· = .agg #[.float .f64 e, .float .f64 f, .float .f64 g, .float .f64 h]),
    QSetB (tWE a b c d e f g h) (tXE a b c d e f g h) (tYE a b c d e f g h) (tZE a b c d e f g h),
    (· = .bool true),
    (· = .bool true)] (by kernel_rfl) (by kernel_rfl) ?_
  refine lexB_step (fun K hK => ⟨by kernel_rfl, ⟨_, rfl⟩, fun v hv => ?_, fun v hv => ?_⟩)
  · obtain ⟨⟨c0, c1, c2, c3⟩, _⟩ := four_at (unhideR HL v (hv)).1
    go_simp
    exact lUpon_b hv
  subst hv
  go_simp
  refine hK _ ?_
  clear hK K
  refine lexB_step (fun K hK => ⟨by kernel_rfl, ⟨_, rfl⟩, fun v hv => ?_, fun v hv => ?_⟩)
  · go_simp
    refine (q_any _ _ _ _ _).mono ?_
    rintro x w2 ⟨rfl, k⟩
    exact ⟨_, rfl, rfl, below_on2 hv hBB k⟩
  subst hv
  go_simp
  refine hK _ ?_
  clear hK K
  refine lexB_step (fun K hK => ⟨by kernel_rfl, ⟨_, rfl⟩, fun v hv => ?_, fun v hv => ?_⟩)
  · obtain ⟨⟨c0, c1, c2, c3⟩, _⟩ := four_at (unhideR HL v (hv)).2
    go_simp
    exact lUpon_b hv
  subst hv
  go_simp
  refine hK _ ?_
  clear hK K
  refine lexB_step (fun K hK => ⟨by kernel_rfl, ⟨_, rfl⟩, fun v hv => ?_, fun v hv => ?_⟩)
  · go_simp
    refine (q_any _ _ _ _ _).mono ?_
    rintro x w2 ⟨rfl, k⟩
    exact ⟨_, rfl, rfl, below_on2 hv hBB k⟩
  subst hv
  go_simp
  refine hK _ ?_
  clear hK K
  refine lexB_step (fun K hK => ⟨by kernel_rfl, qsetB_some _ _ _ _, fun v hv => ?_, fun v hv => ?_⟩)
  · go_simp
    refine (times_any _ _ _ _ _ _ _ _ _).mono ?_
    rintro x w2 ⟨p, q, r, s, rfl, e0, e1, e2, e3, k⟩
    exact ⟨_, rfl, ⟨p, q, r, s, rfl, e0, e1, e2, e3⟩, below_on2 hv hBB k⟩
  obtain ⟨p, q, r, s, rfl, e0, e1, e2, e3⟩ := hv
  go_simp
  refine hK _ ?_
  clear hK K
  have E := hideR (And.intro e0 (And.intro e1 (And.intro e2 e3)))
  clear e0 e1 e2 e3
  refine lexB_step (fun K hK => ⟨by kernel_rfl, ⟨_, rfl⟩, fun v hv => ?_, fun v hv => ?_⟩)
  · obtain ⟨⟨c0, c1, c2, c3⟩, _⟩ := four_at (unhideR HL v (hv)).1
    go_simp
    exact lUpon_b hv
  subst hv
  go_simp
  refine hK _ ?_
  clear hK K
  refine lexB_step (fun K hK => ⟨by kernel_rfl, ⟨_, rfl⟩, fun v hv => ?_, fun v hv => ?_⟩)
  · obtain ⟨⟨c0, c1, c2, c3⟩, _⟩ := four_at (unhideR HL v (hv)).2
    go_simp
    exact lUpon_b hv
  subst hv
  go_simp
  refine hK _ ?_
  clear hK K
  refine lexB_step (fun K hK => ⟨by kernel_rfl, qsetB_some _ _ _ _, fun v hv => ?_, fun v hv => ?_⟩)
  · go_simp
    refine (timesOf_any _ _ _ _ _ _ _ _ _).mono ?_
    rintro x w2 ⟨p, q, r, s, rfl, e0, e1, e2, e3, k⟩
    exact ⟨_, rfl, ⟨p, q, r, s, rfl, e0, e1, e2, e3⟩, below_on2 hv hBB k⟩
  obtain ⟨p1, q1, r1, s1, rfl, e0, e1, e2, e3⟩ := hv
  go_simp
  refine hK _ ?_
  clear hK K
  have F := hideR (And.intro ((unhideR E).1.same e0) (And.intro ((unhideR E).2.1.same e1) (And.intro ((unhideR E).2.2.1.same e2) ((unhideR E).2.2.2.same e3))))
  clear e0 e1 e2 e3 E
  refine lexB_step (fun K hK => ⟨by kernel_rfl, ⟨_, rfl⟩, fun v hv => ?_, fun v hv => ?_⟩)
  · go_simp
    refine (sameQ_any _ _ _ _ _ _ _ _ _ (unhideR F).1 (unhideR F).2.1 (unhideR F).2.2.1 (unhideR F).2.2.2).mono ?_
    rintro x w2 ⟨rfl, k⟩
    exact ⟨_, rfl, rfl, below_on2 hv hBB k⟩
  subst hv
  go_simp
  refine hK _ ?_
  clear hK K
  refine lexB_step (fun K hK => ⟨by kernel_rfl, ⟨_, rfl⟩, fun v hv => ?_, fun v hv => ?_⟩)
  · go_simp
    exact lUpon_b hv
  subst hv
  go_simp
  refine hK _ ?_
  clear hK K
  clear F
  refine lexL_end ?_
  intro w2 hv
  have H2 := hideR hv
  have hBB : B ≤ w2.heap.size := Nat.le_trans hBB hv.size
  clear hv
  go_wp2_with fail
  refine wp_region_letsB B [(· = .agg #[.float .f64 a, .float .f64 b, .float .f64 c, .float .f64 d]),
    (· = .agg #[.float .f64 a, .float .f64 b, .float .f64 c, .float .f64 d]),
    QSet (sqE a b c d),
    (· = .agg #[.float .f64 a, .float .f64 b, .float .f64 c, .float .f64 d]),
    QSet (sqE a b c d),
    (· = .bool true),
    (· = .bool true)] (by kernel_rfl) (by kernel_rfl) ?_
  refine lexB_step (fun K hK => ⟨by kernel_rfl, ⟨_, rfl⟩, fun v hv => ?_, fun v hv => ?_⟩)
  · obtain ⟨⟨c0, c1, c2, c3⟩, _⟩ := four_at (unhideR HL v ((unhideR H2).trans hv)).1
    go_simp
    exact lUpon_b hv
  subst hv
  go_simp
  refine hK _ ?_
  clear hK K
  refine lexB_step (fun K hK => ⟨by kernel_rfl, ⟨_, rfl⟩, fun v hv => ?_, fun v hv => ?_⟩)
  · go_simp
    refine (q_any _ _ _ _ _).mono ?_
    rintro x w2 ⟨rfl, k⟩
    exact ⟨_, rfl, rfl, below_on2 hv hBB k⟩
  subst hv
  go_simp
  refine hK _ ?_
  clear hK K
  refine lexB_step (fun K hK => ⟨by kernel_rfl, qset_some _, fun v hv => ?_, fun v hv => ?_⟩)
  · go_simp
    refine (size_any _ _ _ _ _).mono ?_
    rintro x w3 ⟨r, t, rfl, e0, e1, k⟩
    exact ⟨_, rfl, ⟨r, t, rfl, e0, e1⟩, below_on2 hv hBB k⟩
  obtain ⟨r, t, rfl, e0, e1⟩ := hv
  go_simp
  refine hK _ ?_
  clear hK K
  have E := hideR (And.intro e0 e1)
  clear e0 e1
  refine lexB_step (fun K hK => ⟨by kernel_rfl, ⟨_, rfl⟩, fun v hv => ?_, fun v hv => ?_⟩)
  · obtain ⟨⟨c0, c1, c2, c3⟩, _⟩ := four_at (unhideR HL v ((unhideR H2).trans hv)).1
    go_simp
    exact lUpon_b hv
  subst hv
  go_simp
  refine hK _ ?_
  clear hK K
  refine lexB_step (fun K hK => ⟨by kernel_rfl, qset_some _, fun v hv => ?_, fun v hv => ?_⟩)
  · go_simp
    refine (sizeOf_any _ _ _ _ _).mono ?_
    rintro x w3 ⟨r, t, rfl, e0, e1, k⟩
    exact ⟨_, rfl, ⟨r, t, rfl, e0, e1⟩, below_on2 hv hBB k⟩
  obtain ⟨r1, t1, rfl, e0, e1⟩ := hv
  go_simp
  refine hK _ ?_
  clear hK K
  have F := hideR ((unhideR E).2.same e1 ((unhideR E).1.same e0))
  clear e0 e1 E
  refine lexB_step (fun K hK => ⟨by kernel_rfl, ⟨_, rfl⟩, fun v hv => ?_, fun v hv => ?_⟩)
  · go_simp
    refine (sameBits_true _ (unhideR F)).mono ?_
    rintro x w3 ⟨rfl, rfl⟩
    exact ⟨_, rfl, rfl, hv⟩
  subst hv
  go_simp
  refine hK _ ?_
  clear hK K
  refine lexB_step (fun K hK => ⟨by kernel_rfl, ⟨_, rfl⟩, fun v hv => ?_, fun v hv => ?_⟩)
  · go_simp
    exact lUpon_b hv
  subst hv
  go_simp
  refine hK _ ?_
  clear hK K
  clear F
  refine lexL_end ?_
  intro w3 hv
  have H3 := hideR ((unhideR H2).trans hv)
  have hBB : B ≤ w3.heap.size := Nat.le_trans hBB hv.size
  clear hv H2
  go_wp2_with fail
  refine wp_region_letsB B [(· = .agg #[.float .f64 a, .float .f64 b, .float .f64 c, .float .f64 d]),
    (· = .agg #[.float .f64 a, .float .f64 b, .float .f64 c, .float .f64 d]),
    (· = .agg #[.float .f64 a, .float .f64 (Op.negFloat .f64 b), .float .f64 (Op.negFloat .f64 c), .float .f64 (Op.negFloat .f64 d)]),
    (· = .pointer (some ⟨w.heap.size, 0, none⟩)),
    (· = .float .f64 a),
    (· = .pointer (some ⟨w.heap.size, 1, none⟩)),
    (· = .float .f64 b),
    (· = .float .f64 (Op.negFloat .f64 b)),
    (· = .pointer (some ⟨w.heap.size, 2, none⟩)),
    (· = .float .f64 c),
    (· = .float .f64 (Op.negFloat .f64 c)),
    (· = .pointer (some ⟨w.heap.size, 3, none⟩)),
    (· = .float .f64 d),
    (· = .float .f64 (Op.negFloat .f64 d)),
    (· = .agg #[.float .f64 a, .float .f64 (Op.negFloat .f64 b), .float .f64 (Op.negFloat .f64 c), .float .f64 (Op.negFloat .f64 d)]),
    (· = .bool true),
    (· = .bool true)] (by kernel_rfl) (by kernel_rfl) ?_
  refine lexB_step (fun K hK => ⟨by kernel_rfl, ⟨_, rfl⟩, fun v hv => ?_, fun v hv => ?_⟩)
  · obtain ⟨⟨c0, c1, c2, c3⟩, _⟩ := four_at (unhideR HL v ((unhideR H3).trans hv)).1
    go_simp
    exact lUpon_b hv
  subst hv
  go_simp
  refine hK _ ?_
  clear hK K
  refine lexB_step (fun K hK => ⟨by kernel_rfl, ⟨_, rfl⟩, fun v hv => ?_, fun v hv => ?_⟩)
  · go_simp
    refine (q_any _ _ _ _ _).mono ?_
    rintro x w2 ⟨rfl, k⟩
    exact ⟨_, rfl, rfl, below_on2 hv hBB k⟩
  subst hv
  go_simp
  refine hK _ ?_
  clear hK K
  refine lexB_step (fun K hK => ⟨by kernel_rfl, ⟨_, rfl⟩, fun v hv => ?_, fun v hv => ?_⟩)
  · go_simp
    refine (back_any _ _ _ _ _).mono ?_
    rintro x w2 ⟨rfl, k⟩
    exact ⟨_, rfl, rfl, below_on2 hv hBB k⟩
  subst hv
  go_simp
  refine hK _ ?_
  clear hK K
  refine lexB_step (fun K hK => ⟨by kernel_rfl, ⟨_, rfl⟩, fun v hv => ?_, fun v hv => ?_⟩)
  · go_simp
    exact lUpon_b hv
  subst hv
  go_simp
  refine hK _ ?_
  clear hK K
  refine lexB_step (fun K hK => ⟨by kernel_rfl, ⟨_, rfl⟩, fun v hv => ?_, fun v hv => ?_⟩)
  · obtain ⟨⟨c0, c1, c2, c3⟩, _⟩ := four_at (unhideR HL v ((unhideR H3).trans hv)).1
    go_simp
    exact lUpon_b hv
  subst hv
  go_simp
  refine hK _ ?_
  clear hK K
  refine lexB_step (fun K hK => ⟨by kernel_rfl, ⟨_, rfl⟩, fun v hv => ?_, fun v hv => ?_⟩)
  · go_simp
    exact lUpon_b hv
  subst hv
  go_simp
  refine hK _ ?_
  clear hK K
  refine lexB_step (fun K hK => ⟨by kernel_rfl, ⟨_, rfl⟩, fun v hv => ?_, fun v hv => ?_⟩)
  · obtain ⟨⟨c0, c1, c2, c3⟩, _⟩ := four_at (unhideR HL v ((unhideR H3).trans hv)).1
    go_simp
    exact lUpon_b hv
  subst hv
  go_simp
  refine hK _ ?_
  clear hK K
  refine lexB_step (fun K hK => ⟨by kernel_rfl, ⟨_, rfl⟩, fun v hv => ?_, fun v hv => ?_⟩)
  · go_simp
    exact lUpon_b hv
  subst hv
  go_simp
  refine hK _ ?_
  clear hK K
  refine lexB_step (fun K hK => ⟨by kernel_rfl, ⟨_, rfl⟩, fun v hv => ?_, fun v hv => ?_⟩)
  · go_simp
    exact lUpon_b hv
  subst hv
  go_simp
  refine hK _ ?_
  clear hK K
  refine lexB_step (fun K hK => ⟨by kernel_rfl, ⟨_, rfl⟩, fun v hv => ?_, fun v hv => ?_⟩)
  · obtain ⟨⟨c0, c1, c2, c3⟩, _⟩ := four_at (unhideR HL v ((unhideR H3).trans hv)).1
    go_simp
    exact lUpon_b hv
  subst hv
  go_simp
  refine hK _ ?_
  clear hK K
  refine lexB_step (fun K hK => ⟨by kernel_rfl, ⟨_, rfl⟩, fun v hv => ?_, fun v hv => ?_⟩)
  · go_simp
    exact lUpon_b hv
  subst hv
  go_simp
  refine hK _ ?_
  clear hK K
  refine lexB_step (fun K hK => ⟨by kernel_rfl, ⟨_, rfl⟩, fun v hv => ?_, fun v hv => ?_⟩)
  · go_simp
    exact lUpon_b hv
  subst hv
  go_simp
  refine hK _ ?_
  clear hK K
  refine lexB_step (fun K hK => ⟨by kernel_rfl, ⟨_, rfl⟩, fun v hv => ?_, fun v hv => ?_⟩)
  · obtain ⟨⟨c0, c1, c2, c3⟩, _⟩ := four_at (unhideR HL v ((unhideR H3).trans hv)).1
    go_simp
    exact lUpon_b hv
  subst hv
  go_simp
  refine hK _ ?_
  clear hK K
  refine lexB_step (fun K hK => ⟨by kernel_rfl, ⟨_, rfl⟩, fun v hv => ?_, fun v hv => ?_⟩)
  · go_simp
    exact lUpon_b hv
  subst hv
  go_simp
  refine hK _ ?_
  clear hK K
  refine lexB_step (fun K hK => ⟨by kernel_rfl, ⟨_, rfl⟩, fun v hv => ?_, fun v hv => ?_⟩)
  · go_simp
    exact lUpon_b hv
  subst hv
  go_simp
  refine hK _ ?_
  clear hK K
  refine lexB_step (fun K hK => ⟨by kernel_rfl, ⟨_, rfl⟩, fun v hv => ?_, fun v hv => ?_⟩)
  · go_simp
    refine (sameQ_any _ _ _ _ _ _ _ _ _ (.refl _) (.refl _) (.refl _) (.refl _)).mono ?_
    rintro x w2 ⟨rfl, k⟩
    exact ⟨_, rfl, rfl, below_on2 hv hBB k⟩
  subst hv
  go_simp
  refine hK _ ?_
  clear hK K
  refine lexB_step (fun K hK => ⟨by kernel_rfl, ⟨_, rfl⟩, fun v hv => ?_, fun v hv => ?_⟩)
  · go_simp
    exact lUpon_b hv
  subst hv
  go_simp
  refine hK _ ?_
  clear hK K
  refine lexL_end ?_
  intro w4 hv
  have H4 := hideR ((unhideR H3).trans hv)
  have hBB : B ≤ w4.heap.size := Nat.le_trans hBB hv.size
  clear hv H3
  obtain ⟨⟨c0, c1, c2, c3⟩, _⟩ := four_at (unhideR HL _ (unhideR H4)).1
  go_wp2_with fail
  refine (q_any _ _ _ _ _).mono ?_
  rintro x w5 ⟨rfl, k5⟩
  clear c0 c1 c2 c3
  have H5 := hideR (below_on2 (unhideR H4) hBW k5)
  clear k5 H4
  go_wp2_with fail
  refine (unit_any _ _ _ _ _).mono ?_
  rintro x w6 ⟨hu, k6⟩
  obtain ⟨p, q, s, u, t, rfl⟩ := unit_form hu
  have HU := hideR hu
  have H6 := hideR (below_on2 (unhideR H5) hBW k6)
  clear hu k6 H5
  obtain ⟨⟨c0, c1, c2, c3⟩, _⟩ := four_at (unhideR HL _ (unhideR H6)).1
  have hlt : w.heap.size < w6.heap.size := by have := (unhideR H6).size; omega
  go_wp2_with fail
  refine (unitOf_any _ _ _ _ _).mono ?_
  rintro x w7 ⟨hu, k7⟩
  obtain ⟨p2, q2, s2, u2, t2, rfl⟩ := unit_form hu
  obtain ⟨rfl, j1, j2, j3, j4⟩ := unit_same2 (unhideR HU) hu
  have hblk : w7.heap[w6.heap.size]? = some (.cells #[.float .f64 p, .float .f64 q, .float .f64 s, .float .f64 u] 33) := (k7.block _ (by simp)).trans (by show (w6.heap.push _)[w6.heap.size]? = _; exact Array.getElem?_push_size)
  have hlt7 : w6.heap.size < w7.heap.size := by have := k7.size; simp at this; omega
  obtain ⟨⟨d0, d1, d2, d3⟩, _⟩ := four_at hblk
  have H7 := hideR (below_on2 ((unhideR H6).alloc (Nat.le_trans hBW (unhideR H6).size) _) hBW k7)
  have J := hideR (And.intro j1 (And.intro j2 (And.intro j3 j4)))
  clear hu k7 H6 HU j1 j2 j3 j4 c0 c1 c2 c3 hblk
  go_wp2_with fail
  refine (sameQ_any _ _ _ _ _ _ _ _ _ (unhideR J).1 (unhideR J).2.1 (unhideR J).2.2.1 (unhideR J).2.2.2).mono ?_
  rintro x w8 ⟨rfl, k8⟩
  have H8 := hideR (below_on2 ((unhideR H7).alloc (Nat.le_trans hBW (unhideR H7).size) _) hBW k8)
  clear k8 H7
  go_wp2
  go_ret
  exact ⟨rfl, (unhideR HW).trans ((unhideR H8).mono (by omega))⟩
end Go.Proofs.Ytbobnmaeiohnnad
