/-
  Which of two is nearer: the document's Nearer, by contract. The nearest of an atlas: the document's Nearest, by contract.
-/
import Derived.Test.YtfonpobdnhifgamGreatDoorAtCA
import Derived.Test.YtfonpobdnhifgamGreatDoorAtIA
namespace Go.Proofs.YtfonpobdnhifgamGreatDoor
open Go Go.RowKit

/-- 1: a's cosine to d is more than b's; 0: the same; -1: less. -/
def nrV (d a b : Dr) : Int := if 0 ≤ dtV d a ∧ dtV d b < 0 then 1 else if dtV d a < 0 ∧ 0 ≤ dtV d b then -1 else if dtV d a < 0 then -cmp3 (dtV d a * dtV d a * dtV b b) (dtV d b * dtV d b * dtV a a) else cmp3 (dtV d a * dtV d a * dtV b b) (dtV d b * dtV d b * dtV a a)
theorem three_allocA (w : World) (o1 o2 o3 : Obj) : (((w.alloc o1).alloc o2).alloc o3).heap[w.heap.size]? = some o1 ∧ (((w.alloc o1).alloc o2).alloc o3).heap[w.heap.size + 1]? = some o2 ∧ (((w.alloc o1).alloc o2).alloc o3).heap[w.heap.size + 1 + 1]? = some o3 ∧ Below w.heap.size w (((w.alloc o1).alloc o2).alloc o3) := by
  refine ⟨keepA (keepA (alloc_last w o1)), keepA ?_, ?_, below_go (below_go (below_a w o1) (below_a _ o2)) (below_a _ o3)⟩
  · have := alloc_last (w.alloc o1) o2
    simpa using this
  · have := alloc_last ((w.alloc o1).alloc o2) o3
    simpa using this
theorem cmp3_small (a b : Int) : -1 ≤ cmp3 a b ∧ cmp3 a b ≤ 1 := by
  unfold cmp3
  split
  · omega
  · split <;> omega
set_option maxRecDepth 100000 in
set_option maxHeartbeats 6400000 in
theorem nearer_any (d a b : Dr) (w : World) (hd : dirB d = true) (ha : dirB a = true) (hb : dirB b = true) :
    Calls Tryz.prog 35 #[d.val, a.val, b.val] w fun r w' => r = .returned (.int .i64 (nrV d a b)) ∧ Below w.heap.size w w' := by
  have hp := fun u => dot_any d a u hd ha
  have hq := fun u => dot_any d b u hd hb
  have haa := fun u => dot_any a a u ha ha
  have hbb := fun u => dot_any b b u hb hb
  have b1 := dt_bd hd ha
  have b2 := dt_bd hd hb
  have b3 := dt_bd ha ha
  have b4 := dt_bd hb hb
  have b5 := dt_self (d := a)
  have b6 := dt_self (d := b)
  obtain ⟨R, hR⟩ : ∃ R, nrV d a b = R := ⟨_, rfl⟩
  rw [hR]
  unfold nrV at hR
  have HR := hideR hR
  obtain ⟨dx, dy, dz⟩ := d
  obtain ⟨ax, ay, az⟩ := a
  obtain ⟨bx, bB, bz⟩ := b
  generalize dtV ⟨dx, dy, dz⟩ ⟨ax, ay, az⟩ = p at *
  generalize dtV ⟨dx, dy, dz⟩ ⟨bx, bB, bz⟩ = q at *
  generalize dtV ⟨ax, ay, az⟩ ⟨ax, ay, az⟩ = aa at *
  generalize dtV ⟨bx, bB, bz⟩ ⟨bx, bB, bz⟩ = bb at *
  unfold Dr.val at *
  simp only at *
  obtain ⟨z1, z2, z3, hbw⟩ := three_allocA w (.cells #[.int .i64 dx, .int .i64 dy, .int .i64 dz] 24) (.cells #[.int .i64 ax, .int .i64 ay, .int .i64 az] 24) (.cells #[.int .i64 bx, .int .i64 bB, .int .i64 bz] 24)
  have HB := hideR hbw
  clear hd ha hb hR hbw
  go_enter Tryz.func35, Tryz.ntmps35
  go_upto_region 1 with fail
  generalize ((w.alloc (.cells #[.int .i64 dx, .int .i64 dy, .int .i64 dz] 24)).alloc (.cells #[.int .i64 ax, .int .i64 ay, .int .i64 az] 24)).alloc (.cells #[.int .i64 bx, .int .i64 bB, .int .i64 bz] 24) = u0 at *
  generalize w.heap.size = K at z1 z2 z3 ⊢
  have x10 := (cells_at z1 0 (by simp)).1
  have x11 := (cells_at z1 1 (by simp)).1
  have x12 := (cells_at z1 2 (by simp)).1
  have x20 := (cells_at z2 0 (by simp)).1
  have x21 := (cells_at z2 1 (by simp)).1
  have x22 := (cells_at z2 2 (by simp)).1
  have x30 := (cells_at z3 0 (by simp)).1
  have x31 := (cells_at z3 1 (by simp)).1
  have x32 := (cells_at z3 2 (by simp)).1
  go_wp2_with fail
  refine (hp _).mono ?_
  rintro r u1 ⟨rfl, k1⟩
  replace z1 := keepB z1 k1
  replace z2 := keepB z2 k1
  replace z3 := keepB z3 k1
  replace HB := hideR (below_go (unhideR HB) k1)
  clear k1 hp x10 x11 x12 x20 x21 x22 x30 x31 x32
  have x10 := (cells_at z1 0 (by simp)).1
  have x11 := (cells_at z1 1 (by simp)).1
  have x12 := (cells_at z1 2 (by simp)).1
  have x20 := (cells_at z2 0 (by simp)).1
  have x21 := (cells_at z2 1 (by simp)).1
  have x22 := (cells_at z2 2 (by simp)).1
  have x30 := (cells_at z3 0 (by simp)).1
  have x31 := (cells_at z3 1 (by simp)).1
  have x32 := (cells_at z3 2 (by simp)).1
  go_wp2_with fail
  refine (hq _).mono ?_
  rintro r u2 ⟨rfl, k1⟩
  replace z1 := keepB z1 k1
  replace z2 := keepB z2 k1
  replace z3 := keepB z3 k1
  replace HB := hideR (below_go (unhideR HB) k1)
  clear k1 hq x10 x11 x12 x20 x21 x22 x30 x31 x32
  by_cases q1 : 0 ≤ p ∧ q < 0
  · have t1 : decide (0 ≤ p) = true := decide_eq_true q1.1
    have t2 : decide (q < 0) = true := decide_eq_true q1.2
    have e : R = 1 := by rw [← unhideR HR, if_pos q1]
    subst e
    clear haa hbb HR z1 z2 z3 q1
    go_wp2
    go_ret
    exact ⟨rfl, unhideR HB⟩
  by_cases q2 : p < 0 ∧ 0 ≤ q
  · have t0 : decide (0 ≤ p) = false := decide_eq_false (by omega)
    have t1 : decide (p < 0) = true := decide_eq_true q2.1
    have t2 : decide (0 ≤ q) = true := decide_eq_true q2.2
    have e : R = -1 := by rw [← unhideR HR, if_neg q1, if_pos q2]
    subst e
    clear haa hbb HR z1 z2 z3 q1 q2
    go_wp2
    go_ret
    exact ⟨rfl, unhideR HB⟩
  have HR2 : HeldR (R = if p < 0 then -cmp3 (p * p * bb) (q * q * aa) else cmp3 (p * p * bb) (q * q * aa)) := hideR (by rw [← unhideR HR, if_neg q1, if_neg q2])
  clear HR
  have HS : HeldR ((0 ≤ p ∧ 0 ≤ q) ∨ (p < 0 ∧ q < 0)) := hideR (by omega)
  rcases unhideR HS with q3 | q3
  · skip
    have t0 : decide (0 ≤ p) = true := decide_eq_true q3.1
    have t1 : decide (p < 0) = false := decide_eq_false (by omega)
    have t2 : decide (0 ≤ q) = true := decide_eq_true q3.2
    have t3 : decide (q < 0) = false := decide_eq_false (by omega)
    have e0 := unhideR HR2
    rw [if_neg (by omega)] at e0
    have HR3 := hideR e0
    clear e0 q1 q2 q3 HR2 HS
    go_upto_region 7 with fail
    refine M.wp_region_made 0 #[true, true, true, true, true, true, true, false] [.lets (· = .int .i64 p),
      .made SlB (BlF (p * p) 8),
      .lets (· = .agg #[.int .i64 bx, .int .i64 bB, .int .i64 bz]),
      .lets (· = .agg #[.int .i64 bx, .int .i64 bB, .int .i64 bz]),
      .lets (· = .int .i64 bb),
      .made SlB (BlF bb 4),
      .made SlB (BlF (p * p * bb) 12)] [1, 5, 6] [1, 5, 6] (by kernel_rfl) (by kernel_rfl) rfl ?kinds (by kernel_rfl) (by kernel_rfl) (by kernel_rfl) ?_
    case kinds =>
      constructor
      · intro i h
        rcases i with _ | _ | _ | _ | _ | _ | _ | i <;> simp [M.Kx.isMade] at h ⊢
      · intro i h
        rcases i with _ | _ | _ | _ | _ | _ | _ | i <;> simp [M.Kx.isUse] at h ⊢
    refine M.lexX_step (fun K hK => ⟨by kernel_rfl, ⟨_, rfl⟩, fun v hv => ?_, fun v hv => ?_⟩)
    · go_simp
      exact mUpon_b
    subst hv
    go_simp
    refine hK _ ?_
    clear hK K
    refine M.lexX_made ⟨by kernel_rfl, ⟨_, none, 0, 0, rfl⟩, blF_stb _ _, fun v hv hγ => ?_, ?_⟩
    · go_simp
      refine (bsq_any p v (by omega) (by omega)).mono ?_
      rintro e w9 ⟨ad9, c9, M9, rfl, hM9, hx9, hl9, k9⟩
      refine ⟨_, rfl, ⟨⟨_, _, _, rfl⟩, fun a' n' c' e' => ?_⟩, k9⟩
      cases e'
      exact ⟨M9, rfl, hM9, hx9, by omega⟩
    rintro _ ⟨admp, nmp, cmp, rfl⟩ K hK
    go_simp
    refine hK _ ?_
    clear hK K
    refine M.lexX_step (fun K hK => ⟨by kernel_rfl, ⟨_, rfl⟩, fun v hv => ?_, fun v hv => ?_⟩)
    · have q9 := keepB z3 hv
      have q0 := (cells_at q9 0 (by simp)).1
      have q1 := (cells_at q9 1 (by simp)).1
      have q2 := (cells_at q9 2 (by simp)).1
      go_simp
      exact mUpon_b
    subst hv
    go_simp
    refine hK _ ?_
    clear hK K
    refine M.lexX_step (fun K hK => ⟨by kernel_rfl, ⟨_, rfl⟩, fun v hv => ?_, fun v hv => ?_⟩)
    · have q9 := keepB z3 hv
      have q0 := (cells_at q9 0 (by simp)).1
      have q1 := (cells_at q9 1 (by simp)).1
      have q2 := (cells_at q9 2 (by simp)).1
      go_simp
      exact mUpon_b
    subst hv
    go_simp
    refine hK _ ?_
    clear hK K
    refine M.lexX_step (fun K hK => ⟨by kernel_rfl, ⟨_, rfl⟩, fun v hv => ?_, fun v hv => ?_⟩)
    · go_simp
      refine (hbb _).mono ?_
      rintro e w9 ⟨rfl, k⟩
      exact ⟨_, rfl, rfl, k⟩
    subst hv
    go_simp
    refine hK _ ?_
    clear hK K
    refine M.lexX_made ⟨by kernel_rfl, ⟨_, none, 0, 0, rfl⟩, blF_stb _ _, fun v hv hγ => ?_, ?_⟩
    · go_simp
      refine (bigOfV bb v (by omega) (by omega)).mono ?_
      rintro e w9 ⟨ad9, c9, M9, rfl, hM9, hx9, hl9, k9⟩
      refine ⟨_, rfl, ⟨⟨_, _, _, rfl⟩, fun a' n' c' e' => ?_⟩, k9⟩
      cases e'
      exact ⟨M9, rfl, hM9, hx9, by omega⟩
    rintro _ ⟨admq, nmq, cmq, rfl⟩ K hK
    go_simp
    refine hK _ ?_
    clear hK K
    refine M.lexX_made ⟨by kernel_rfl, ⟨_, none, 0, 0, rfl⟩, blF_stb _ _, fun v hv hγ => ?_, ?_⟩
    · obtain ⟨Mq, rfl, hMq, hxq, hlq⟩ := hγ.2 _ _ _ rfl
      obtain ⟨Mp, rfl, hMp, hxp, hlp⟩ := hγ.1.2 _ _ _ rfl
      go_simp
      refine (bigMulV admp admq cmp cmq Mp Mq v (by omega) (by omega) hMp hMq).mono ?_
      rintro e w9 ⟨ad9, c9, M9, rfl, hM9, hx9, hl9, k9⟩
      refine ⟨_, rfl, ⟨⟨_, _, _, rfl⟩, fun a' n' c' e' => ?_⟩, k9⟩
      cases e'
      exact ⟨M9, rfl, hM9, by rw [hx9, hxp, hxq], by omega⟩
    rintro _ ⟨admr, nmr, cmr, rfl⟩ K hK
    go_simp
    refine hK _ ?_
    clear hK K
    refine M.lexX_end (fun vm hv => ?_)
    have k5 := hv.low
    obtain ⟨Nm, hnm, hN, hvN, hlm⟩ := hv.fact.2 _ _ _ rfl
    clear hv
    have HNm := hideR hN
    have HvNm := hideR hvN
    clear hN hvN
    replace z1 := keepB z1 k5
    replace z2 := keepB z2 k5
    replace z3 := keepB z3 k5
    replace HB := hideR (below_go (unhideR HB) k5)
    clear k5
    refine wpAny_step (i := 7) (by kernel_rfl) rfl (by kernel_rfl) (fun K hK => ?_)
    unfold Oper.wp
    go_simp
    refine hK _ _ ?_
    clear hK K
    refine wpAny_end (by kernel_rfl) ?_
    subst hnm
    go_upto_region 8 with fail
    refine M.wp_region_made 0 #[true, true, true, true, true, true, true, false] [.lets (· = .int .i64 q),
      .made SlB (BlF (q * q) 8),
      .lets (· = .agg #[.int .i64 ax, .int .i64 ay, .int .i64 az]),
      .lets (· = .agg #[.int .i64 ax, .int .i64 ay, .int .i64 az]),
      .lets (· = .int .i64 aa),
      .made SlB (BlF aa 4),
      .made SlB (BlF (q * q * aa) 12)] [1, 5, 6] [1, 5, 6] (by kernel_rfl) (by kernel_rfl) rfl ?kinds (by kernel_rfl) (by kernel_rfl) (by kernel_rfl) ?_
    case kinds =>
      constructor
      · intro i h
        rcases i with _ | _ | _ | _ | _ | _ | _ | i <;> simp [M.Kx.isMade] at h ⊢
      · intro i h
        rcases i with _ | _ | _ | _ | _ | _ | _ | i <;> simp [M.Kx.isUse] at h ⊢
    refine M.lexX_step (fun K hK => ⟨by kernel_rfl, ⟨_, rfl⟩, fun v hv => ?_, fun v hv => ?_⟩)
    · go_simp
      exact mUpon_b
    subst hv
    go_simp
    refine hK _ ?_
    clear hK K
    refine M.lexX_made ⟨by kernel_rfl, ⟨_, none, 0, 0, rfl⟩, blF_stb _ _, fun v hv hγ => ?_, ?_⟩
    · go_simp
      refine (bsq_any q v (by omega) (by omega)).mono ?_
      rintro e w9 ⟨ad9, c9, M9, rfl, hM9, hx9, hl9, k9⟩
      refine ⟨_, rfl, ⟨⟨_, _, _, rfl⟩, fun a' n' c' e' => ?_⟩, k9⟩
      cases e'
      exact ⟨M9, rfl, hM9, hx9, by omega⟩
    rintro _ ⟨adnp, nnp, cnp, rfl⟩ K hK
    go_simp
    refine hK _ ?_
    clear hK K
    refine M.lexX_step (fun K hK => ⟨by kernel_rfl, ⟨_, rfl⟩, fun v hv => ?_, fun v hv => ?_⟩)
    · have q9 := keepB z2 hv
      have q0 := (cells_at q9 0 (by simp)).1
      have q1 := (cells_at q9 1 (by simp)).1
      have q2 := (cells_at q9 2 (by simp)).1
      go_simp
      exact mUpon_b
    subst hv
    go_simp
    refine hK _ ?_
    clear hK K
    refine M.lexX_step (fun K hK => ⟨by kernel_rfl, ⟨_, rfl⟩, fun v hv => ?_, fun v hv => ?_⟩)
    · have q9 := keepB z2 hv
      have q0 := (cells_at q9 0 (by simp)).1
      have q1 := (cells_at q9 1 (by simp)).1
      have q2 := (cells_at q9 2 (by simp)).1
      go_simp
      exact mUpon_b
    subst hv
    go_simp
    refine hK _ ?_
    clear hK K
    refine M.lexX_step (fun K hK => ⟨by kernel_rfl, ⟨_, rfl⟩, fun v hv => ?_, fun v hv => ?_⟩)
    · go_simp
      refine (haa _).mono ?_
      rintro e w9 ⟨rfl, k⟩
      exact ⟨_, rfl, rfl, k⟩
    subst hv
    go_simp
    refine hK _ ?_
    clear hK K
    refine M.lexX_made ⟨by kernel_rfl, ⟨_, none, 0, 0, rfl⟩, blF_stb _ _, fun v hv hγ => ?_, ?_⟩
    · go_simp
      refine (bigOfV aa v (by omega) (by omega)).mono ?_
      rintro e w9 ⟨ad9, c9, M9, rfl, hM9, hx9, hl9, k9⟩
      refine ⟨_, rfl, ⟨⟨_, _, _, rfl⟩, fun a' n' c' e' => ?_⟩, k9⟩
      cases e'
      exact ⟨M9, rfl, hM9, hx9, by omega⟩
    rintro _ ⟨adnq, nnq, cnq, rfl⟩ K hK
    go_simp
    refine hK _ ?_
    clear hK K
    refine M.lexX_made ⟨by kernel_rfl, ⟨_, none, 0, 0, rfl⟩, blF_stb _ _, fun v hv hγ => ?_, ?_⟩
    · obtain ⟨Mq, rfl, hMq, hxq, hlq⟩ := hγ.2 _ _ _ rfl
      obtain ⟨Mp, rfl, hMp, hxp, hlp⟩ := hγ.1.2 _ _ _ rfl
      go_simp
      refine (bigMulV adnp adnq cnp cnq Mp Mq v (by omega) (by omega) hMp hMq).mono ?_
      rintro e w9 ⟨ad9, c9, M9, rfl, hM9, hx9, hl9, k9⟩
      refine ⟨_, rfl, ⟨⟨_, _, _, rfl⟩, fun a' n' c' e' => ?_⟩, k9⟩
      cases e'
      exact ⟨M9, rfl, hM9, by rw [hx9, hxp, hxq], by omega⟩
    rintro _ ⟨adnr, nnr, cnr, rfl⟩ K hK
    go_simp
    refine hK _ ?_
    clear hK K
    refine M.lexX_end (fun vn hv => ?_)
    have k5 := hv.low
    obtain ⟨Nn, hnn, hN, hvN, hln⟩ := hv.fact.2 _ _ _ rfl
    clear hv
    have HNn := hideR hN
    have HvNn := hideR hvN
    clear hN hvN
    replace z1 := keepB z1 k5
    replace z2 := keepB z2 k5
    replace z3 := keepB z3 k5
    replace HB := hideR (below_go (unhideR HB) k5)
    replace HNm := hideR ((unhideR HNm).below k5)
    clear k5
    refine wpAny_step (i := 7) (by kernel_rfl) rfl (by kernel_rfl) (fun K hK => ?_)
    unfold Oper.wp
    go_simp
    refine hK _ _ ?_
    clear hK K
    refine wpAny_end (by kernel_rfl) ?_
    subst hnn
    have hcm := bigCmpV admr adnr cmr cnr Nm Nn vn (by omega) (unhideR HNm) (unhideR HNn)
    rw [unhideR HvNm, unhideR HvNn] at hcm
    have hsm := cmp3_small (p * p * bb) (q * q * aa)
    generalize cmp3 (p * p * bb) (q * q * aa) = cm at *
    have wn : IntKind.i64.wrap (-cm) = -cm := iwrap (by omega) (by omega)
    go_wp2_with fail
    refine hcm.mono ?_
    rintro r v6 ⟨rfl, k6⟩
    have HE := hideR (below_go (unhideR HB) k6)
    have e1 := unhideR HR3
    subst e1
    clear hcm k6 HB HNm HNn HvNm HvNn HR3 z1 z2 z3
    go_wp2
    go_ret
    exact ⟨rfl, unhideR HE⟩
  · skip
    have t0 : decide (0 ≤ p) = false := decide_eq_false (by omega)
    have t1 : decide (p < 0) = true := decide_eq_true q3.1
    have t2 : decide (0 ≤ q) = false := decide_eq_false (by omega)
    have t3 : decide (q < 0) = true := decide_eq_true q3.2
    have e0 := unhideR HR2
    rw [if_pos q3.1] at e0
    have HR3 := hideR e0
    clear e0 q1 q2 q3 HR2 HS
    go_upto_region 7 with fail
    refine M.wp_region_made 0 #[true, true, true, true, true, true, true, false] [.lets (· = .int .i64 p),
      .made SlB (BlF (p * p) 8),
      .lets (· = .agg #[.int .i64 bx, .int .i64 bB, .int .i64 bz]),
      .lets (· = .agg #[.int .i64 bx, .int .i64 bB, .int .i64 bz]),
      .lets (· = .int .i64 bb),
      .made SlB (BlF bb 4),
      .made SlB (BlF (p * p * bb) 12)] [1, 5, 6] [1, 5, 6] (by kernel_rfl) (by kernel_rfl) rfl ?kinds (by kernel_rfl) (by kernel_rfl) (by kernel_rfl) ?_
    case kinds =>
      constructor
      · intro i h
        rcases i with _ | _ | _ | _ | _ | _ | _ | i <;> simp [M.Kx.isMade] at h ⊢
      · intro i h
        rcases i with _ | _ | _ | _ | _ | _ | _ | i <;> simp [M.Kx.isUse] at h ⊢
    refine M.lexX_step (fun K hK => ⟨by kernel_rfl, ⟨_, rfl⟩, fun v hv => ?_, fun v hv => ?_⟩)
    · go_simp
      exact mUpon_b
    subst hv
    go_simp
    refine hK _ ?_
    clear hK K
    refine M.lexX_made ⟨by kernel_rfl, ⟨_, none, 0, 0, rfl⟩, blF_stb _ _, fun v hv hγ => ?_, ?_⟩
    · go_simp
      refine (bsq_any p v (by omega) (by omega)).mono ?_
      rintro e w9 ⟨ad9, c9, M9, rfl, hM9, hx9, hl9, k9⟩
      refine ⟨_, rfl, ⟨⟨_, _, _, rfl⟩, fun a' n' c' e' => ?_⟩, k9⟩
      cases e'
      exact ⟨M9, rfl, hM9, hx9, by omega⟩
    rintro _ ⟨admp, nmp, cmp, rfl⟩ K hK
    go_simp
    refine hK _ ?_
    clear hK K
    refine M.lexX_step (fun K hK => ⟨by kernel_rfl, ⟨_, rfl⟩, fun v hv => ?_, fun v hv => ?_⟩)
    · have q9 := keepB z3 hv
      have q0 := (cells_at q9 0 (by simp)).1
      have q1 := (cells_at q9 1 (by simp)).1
      have q2 := (cells_at q9 2 (by simp)).1
      go_simp
      exact mUpon_b
    subst hv
    go_simp
    refine hK _ ?_
    clear hK K
    refine M.lexX_step (fun K hK => ⟨by kernel_rfl, ⟨_, rfl⟩, fun v hv => ?_, fun v hv => ?_⟩)
    · have q9 := keepB z3 hv
      have q0 := (cells_at q9 0 (by simp)).1
      have q1 := (cells_at q9 1 (by simp)).1
      have q2 := (cells_at q9 2 (by simp)).1
      go_simp
      exact mUpon_b
    subst hv
    go_simp
    refine hK _ ?_
    clear hK K
    refine M.lexX_step (fun K hK => ⟨by kernel_rfl, ⟨_, rfl⟩, fun v hv => ?_, fun v hv => ?_⟩)
    · go_simp
      refine (hbb _).mono ?_
      rintro e w9 ⟨rfl, k⟩
      exact ⟨_, rfl, rfl, k⟩
    subst hv
    go_simp
    refine hK _ ?_
    clear hK K
    refine M.lexX_made ⟨by kernel_rfl, ⟨_, none, 0, 0, rfl⟩, blF_stb _ _, fun v hv hγ => ?_, ?_⟩
    · go_simp
      refine (bigOfV bb v (by omega) (by omega)).mono ?_
      rintro e w9 ⟨ad9, c9, M9, rfl, hM9, hx9, hl9, k9⟩
      refine ⟨_, rfl, ⟨⟨_, _, _, rfl⟩, fun a' n' c' e' => ?_⟩, k9⟩
      cases e'
      exact ⟨M9, rfl, hM9, hx9, by omega⟩
    rintro _ ⟨admq, nmq, cmq, rfl⟩ K hK
    go_simp
    refine hK _ ?_
    clear hK K
    refine M.lexX_made ⟨by kernel_rfl, ⟨_, none, 0, 0, rfl⟩, blF_stb _ _, fun v hv hγ => ?_, ?_⟩
    · obtain ⟨Mq, rfl, hMq, hxq, hlq⟩ := hγ.2 _ _ _ rfl
      obtain ⟨Mp, rfl, hMp, hxp, hlp⟩ := hγ.1.2 _ _ _ rfl
      go_simp
      refine (bigMulV admp admq cmp cmq Mp Mq v (by omega) (by omega) hMp hMq).mono ?_
      rintro e w9 ⟨ad9, c9, M9, rfl, hM9, hx9, hl9, k9⟩
      refine ⟨_, rfl, ⟨⟨_, _, _, rfl⟩, fun a' n' c' e' => ?_⟩, k9⟩
      cases e'
      exact ⟨M9, rfl, hM9, by rw [hx9, hxp, hxq], by omega⟩
    rintro _ ⟨admr, nmr, cmr, rfl⟩ K hK
    go_simp
    refine hK _ ?_
    clear hK K
    refine M.lexX_end (fun vm hv => ?_)
    have k5 := hv.low
    obtain ⟨Nm, hnm, hN, hvN, hlm⟩ := hv.fact.2 _ _ _ rfl
    clear hv
    have HNm := hideR hN
    have HvNm := hideR hvN
    clear hN hvN
    replace z1 := keepB z1 k5
    replace z2 := keepB z2 k5
    replace z3 := keepB z3 k5
    replace HB := hideR (below_go (unhideR HB) k5)
    clear k5
    refine wpAny_step (i := 7) (by kernel_rfl) rfl (by kernel_rfl) (fun K hK => ?_)
    unfold Oper.wp
    go_simp
    refine hK _ _ ?_
    clear hK K
    refine wpAny_end (by kernel_rfl) ?_
    subst hnm
    go_upto_region 8 with fail
    refine M.wp_region_made 0 #[true, true, true, true, true, true, true, false] [.lets (· = .int .i64 q),
      .made SlB (BlF (q * q) 8),
      .lets (· = .agg #[.int .i64 ax, .int .i64 ay, .int .i64 az]),
      .lets (· = .agg #[.int .i64 ax, .int .i64 ay, .int .i64 az]),
      .lets (· = .int .i64 aa),
      .made SlB (BlF aa 4),
      .made SlB (BlF (q * q * aa) 12)] [1, 5, 6] [1, 5, 6] (by kernel_rfl) (by kernel_rfl) rfl ?kinds (by kernel_rfl) (by kernel_rfl) (by kernel_rfl) ?_
    case kinds =>
      constructor
      · intro i h
        rcases i with _ | _ | _ | _ | _ | _ | _ | i <;> simp [M.Kx.isMade] at h ⊢
      · intro i h
        rcases i with _ | _ | _ | _ | _ | _ | _ | i <;> simp [M.Kx.isUse] at h ⊢
    refine M.lexX_step (fun K hK => ⟨by kernel_rfl, ⟨_, rfl⟩, fun v hv => ?_, fun v hv => ?_⟩)
    · go_simp
      exact mUpon_b
    subst hv
    go_simp
    refine hK _ ?_
    clear hK K
    refine M.lexX_made ⟨by kernel_rfl, ⟨_, none, 0, 0, rfl⟩, blF_stb _ _, fun v hv hγ => ?_, ?_⟩
    · go_simp
      refine (bsq_any q v (by omega) (by omega)).mono ?_
      rintro e w9 ⟨ad9, c9, M9, rfl, hM9, hx9, hl9, k9⟩
      refine ⟨_, rfl, ⟨⟨_, _, _, rfl⟩, fun a' n' c' e' => ?_⟩, k9⟩
      cases e'
      exact ⟨M9, rfl, hM9, hx9, by omega⟩
    rintro _ ⟨adnp, nnp, cnp, rfl⟩ K hK
    go_simp
    refine hK _ ?_
    clear hK K
    refine M.lexX_step (fun K hK => ⟨by kernel_rfl, ⟨_, rfl⟩, fun v hv => ?_, fun v hv => ?_⟩)
    · have q9 := keepB z2 hv
      have q0 := (cells_at q9 0 (by simp)).1
      have q1 := (cells_at q9 1 (by simp)).1
      have q2 := (cells_at q9 2 (by simp)).1
      go_simp
      exact mUpon_b
    subst hv
    go_simp
    refine hK _ ?_
    clear hK K
    refine M.lexX_step (fun K hK => ⟨by kernel_rfl, ⟨_, rfl⟩, fun v hv => ?_, fun v hv => ?_⟩)
    · have q9 := keepB z2 hv
      have q0 := (cells_at q9 0 (by simp)).1
      have q1 := (cells_at q9 1 (by simp)).1
      have q2 := (cells_at q9 2 (by simp)).1
      go_simp
      exact mUpon_b
    subst hv
    go_simp
    refine hK _ ?_
    clear hK K
    refine M.lexX_step (fun K hK => ⟨by kernel_rfl, ⟨_, rfl⟩, fun v hv => ?_, fun v hv => ?_⟩)
    · go_simp
      refine (haa _).mono ?_
      rintro e w9 ⟨rfl, k⟩
      exact ⟨_, rfl, rfl, k⟩
    subst hv
    go_simp
    refine hK _ ?_
    clear hK K
    refine M.lexX_made ⟨by kernel_rfl, ⟨_, none, 0, 0, rfl⟩, blF_stb _ _, fun v hv hγ => ?_, ?_⟩
    · go_simp
      refine (bigOfV aa v (by omega) (by omega)).mono ?_
      rintro e w9 ⟨ad9, c9, M9, rfl, hM9, hx9, hl9, k9⟩
      refine ⟨_, rfl, ⟨⟨_, _, _, rfl⟩, fun a' n' c' e' => ?_⟩, k9⟩
      cases e'
      exact ⟨M9, rfl, hM9, hx9, by omega⟩
    rintro _ ⟨adnq, nnq, cnq, rfl⟩ K hK
    go_simp
    refine hK _ ?_
    clear hK K
    refine M.lexX_made ⟨by kernel_rfl, ⟨_, none, 0, 0, rfl⟩, blF_stb _ _, fun v hv hγ => ?_, ?_⟩
    · obtain ⟨Mq, rfl, hMq, hxq, hlq⟩ := hγ.2 _ _ _ rfl
      obtain ⟨Mp, rfl, hMp, hxp, hlp⟩ := hγ.1.2 _ _ _ rfl
      go_simp
      refine (bigMulV adnp adnq cnp cnq Mp Mq v (by omega) (by omega) hMp hMq).mono ?_
      rintro e w9 ⟨ad9, c9, M9, rfl, hM9, hx9, hl9, k9⟩
      refine ⟨_, rfl, ⟨⟨_, _, _, rfl⟩, fun a' n' c' e' => ?_⟩, k9⟩
      cases e'
      exact ⟨M9, rfl, hM9, by rw [hx9, hxp, hxq], by omega⟩
    rintro _ ⟨adnr, nnr, cnr, rfl⟩ K hK
    go_simp
    refine hK _ ?_
    clear hK K
    refine M.lexX_end (fun vn hv => ?_)
    have k5 := hv.low
    obtain ⟨Nn, hnn, hN, hvN, hln⟩ := hv.fact.2 _ _ _ rfl
    clear hv
    have HNn := hideR hN
    have HvNn := hideR hvN
    clear hN hvN
    replace z1 := keepB z1 k5
    replace z2 := keepB z2 k5
    replace z3 := keepB z3 k5
    replace HB := hideR (below_go (unhideR HB) k5)
    replace HNm := hideR ((unhideR HNm).below k5)
    clear k5
    refine wpAny_step (i := 7) (by kernel_rfl) rfl (by kernel_rfl) (fun K hK => ?_)
    unfold Oper.wp
    go_simp
    refine hK _ _ ?_
    clear hK K
    refine wpAny_end (by kernel_rfl) ?_
    subst hnn
    have hcm := bigCmpV admr adnr cmr cnr Nm Nn vn (by omega) (unhideR HNm) (unhideR HNn)
    rw [unhideR HvNm, unhideR HvNn] at hcm
    have hsm := cmp3_small (p * p * bb) (q * q * aa)
    generalize cmp3 (p * p * bb) (q * q * aa) = cm at *
    have wn : IntKind.i64.wrap (-cm) = -cm := iwrap (by omega) (by omega)
    go_wp2_with fail
    refine hcm.mono ?_
    rintro r v6 ⟨rfl, k6⟩
    have HE := hideR (below_go (unhideR HB) k6)
    have e1 := unhideR HR3
    subst e1
    clear hcm k6 HB HNm HNn HvNm HvNn HR3 z1 z2 z3
    go_wp2
    go_ret
    exact ⟨rfl, unhideR HE⟩
end Go.Proofs.YtfonpobdnhifgamGreatDoor
namespace Go.Proofs.YtfonpobdnhifgamGreatDoor
open Go Go.RowKit

theorem drewBlN {B : Nat} {w u : World} (h : Below B w u) : Below B w u.drew := ⟨h.os, h.tape, h.output, h.size, h.block⟩
/-- is one nearer to d than another, of equal ones by its name? -/
def btB (d : Dr) (x y : En) : Bool := decide (0 < nrV d x.d y.d) || (decide (nrV d x.d y.d = 0) && lessB x.nm y.nm)
/-- the number of the nearest of the first i. -/
def nbV (d : Dr) (L : List En) : Nat → Int
  | 0 => -1
  | i + 1 => if nbV d L i < 0 then (i : Nat) else if btB d (L.getD i en0) (L.getD (nbV d L i).toNat en0) then (i : Nat) else nbV d L i
theorem nrV_small (d a b : Dr) : -1 ≤ nrV d a b ∧ nrV d a b ≤ 1 := by
  have h := cmp3_small (dtV d a * dtV d a * dtV b b) (dtV d b * dtV d b * dtV a a)
  unfold nrV
  split
  · omega
  · split
    · omega
    · split <;> omega
set_option maxRecDepth 100000 in
set_option maxHeartbeats 6400000 in
theorem nearest_any (d : Dr) {w : World} {g : Nat} {lv : Int} {ad : Option Addr} {cap : Nat} {L : List En} (hA0 : AtB w g lv ad cap L) (hl : L.length ≤ 4000) (hd : dirB d = true) (hL : ∀ k, k < L.length → dirB (L.getD k en0).d = true) :
    Calls Tryz.prog 16 #[.pointer (some ⟨g, 0, none⟩), d.val] w fun r w' => r = .returned (.int .i64 (nbV d L L.length)) ∧ Below w.heap.size w w' := by
  have HNr : HeldR (∀ a b, a < L.length → b < L.length → ∀ u, Calls Tryz.prog 35 #[d.val, (L.getD a en0).d.val, (L.getD b en0).d.val] u fun r w' => r = .returned (.int .i64 (nrV d (L.getD a en0).d (L.getD b en0).d)) ∧ Below u.heap.size u w') := hideR (fun a b ha hb u => nearer_any d _ _ u hd (hL a ha) (hL b hb))
  have HNb : HeldR (∀ i, nbV d L (i + 1) = if nbV d L i < 0 then ((i : Nat) : Int) else if btB d (L.getD i en0) (L.getD (nbV d L i).toNat en0) then ((i : Nat) : Int) else nbV d L i) := hideR (fun i => rfl)
  have H0 : HeldR (nbV d L 0 = -1) := hideR rfl
  have HBt : HeldR (∀ a b : Nat, btB d (L.getD a en0) (L.getD b en0) = (decide (0 < nrV d (L.getD a en0).d (L.getD b en0).d) || (decide (nrV d (L.getD a en0).d (L.getD b en0).d = 0) && lessB (L.getD a en0).nm (L.getD b en0).nm))) := hideR (fun _ _ => rfl)
  have HSm : HeldR (∀ a b : Nat, -1 ≤ nrV d (L.getD a en0).d (L.getD b en0).d ∧ nrV d (L.getD a en0).d (L.getD b en0).d ≤ 1) := hideR (fun a b => nrV_small _ _ _)
  obtain ⟨n, hn⟩ : ∃ n, L.length = n := ⟨_, rfl⟩
  have Hn := hideR hn
  obtain ⟨dx, dy, dz⟩ := d
  unfold Dr.val at *
  simp only at *
  have z1 := alloc_last w (.cells #[.int .i64 dx, .int .i64 dy, .int .i64 dz] 24)
  have HB := hideR (below_a w (.cells #[.int .i64 dx, .int .i64 dy, .int .i64 dz] 24))
  have HA := hideR (hA0.below (below_a w (.cells #[.int .i64 dx, .int .i64 dy, .int .i64 dz] 24)))
  rw [hn] at hl ⊢
  clear hA0 hd hL hn
  go_enter Tryz.func16, Tryz.ntmps16
  go_upto_region 1 with fail
  generalize w.alloc (.cells #[.int .i64 dx, .int .i64 dy, .int .i64 dz] 24) = u0 at *
  generalize w.heap.size = K at z1 ⊢
  go_wp2_with fail
  go_loopw [5, 6] (fun bv iv wl => ∃ (i : Nat) (bs : Int), i ≤ n ∧ -1 ≤ bs ∧ bs < i ∧ bv = .int .i64 bs ∧ iv = .int .i64 (i : Nat) ∧ HeldR (nbV ⟨dx, dy, dz⟩ L i = bs) ∧ HeldR (AtB wl g lv ad cap L) ∧ wl.heap[K]? = some (.cells #[.int .i64 dx, .int .i64 dy, .int .i64 dz] 24) ∧ HeldR (Below w.heap.size w wl)) (fun _ iv _ => n + 1 - (intOf iv).toNat)
  case atStart => exact ⟨0, -1, by omega, by omega, by omega, rfl, rfl, H0, HA, z1, HB⟩
  case round =>
    clear HA z1 HB H0
    obtain ⟨i, bs, hin, hb1, hb2, rfl, rfl, HN, HA, z1, HB⟩ := hrel
    have hab := (unhideR HA).b
    rw [unhideR Hn] at hab
    have a1 := (cells_at hab 1 (by simp)).1
    clear hab
    by_cases q : i < n
    · have ti : decide ((i : Int) < (n : Int)) = true := decide_eq_true (by omega)
      have tin : decide (i < n) = true := decide_eq_true q
      have wi : IntKind.i64.wrap ((i : Int) + 1) = (i : Int) + 1 := iwrap (by omega) (by omega)
      by_cases q2 : bs < 0
      · have t2 : decide (bs < 0) = true := decide_eq_true q2
        have HN2 : HeldR (nbV ⟨dx, dy, dz⟩ L (i + 1) = ((i : Nat) : Int)) := hideR (by rw [unhideR HNb i, unhideR HN, if_pos q2])
        clear HN HNb HNr HBt HSm
        go_wp2
        exact ⟨⟨i + 1, (i : Nat), by omega, by omega, by omega, by go_num, by go_num, HN2, HA, z1, HB⟩, by simp [intOf]; omega⟩
      · have t2 : decide (bs < 0) = false := decide_eq_false q2
        obtain ⟨m, rfl⟩ : ∃ m : Nat, bs = m := ⟨bs.toNat, by omega⟩
        obtain ⟨b, off, had, hbl, hei⟩ := (unhideR HA).e.at_ i (by rw [unhideR Hn]; exact q)
        obtain ⟨b', off', had', _, hem⟩ := (unhideR HA).e.at_ m (by rw [unhideR Hn]; omega)
        subst had
        cases had'
        have hin2 : (i : Int) < (n : Int) := by omega
        have hmn2 : (m : Int) < (n : Int) := by omega
        have hmn : m < n := by omega
        have hnr := unhideR HNr i m (by rw [unhideR Hn]; exact q) (by rw [unhideR Hn]; omega)
        have hsm := unhideR HSm i m
        have hbt := unhideR HBt i m
        have hnb := unhideR HNb i
        rw [unhideR HN, if_neg q2, Int.toNat_natCast, hbt] at hnb
        have HEi := hideR hei
        have HEm := hideR hem
        have Hbl := hideR hbl
        have HNB := hideR hnb
        clear hei hem hbl hnb hbt HN HNb HNr HBt HSm q2
        generalize nrV ⟨dx, dy, dz⟩ (L.getD i en0).d (L.getD m en0).d = nr at *
        obtain ⟨ei, hEi⟩ : ∃ e, L.getD i en0 = e := ⟨_, rfl⟩
        obtain ⟨em, hEm⟩ : ∃ e, L.getD m en0 = e := ⟨_, rfl⟩
        rw [hEi] at hnr HEi HNB
        rw [hEm] at hnr HEm HNB
        obtain ⟨si, pi, li⟩ := ei
        obtain ⟨sm, pm, lm⟩ := em
        simp only at *
        clear hEi hEm
        rcases (show 0 < nr ∨ nr = 0 ∨ nr < 0 by omega) with q3 | q3 | q3
        · skip
          have t3 : decide (0 < nr) = true := decide_eq_true q3
          have HN2 : HeldR (nbV ⟨dx, dy, dz⟩ L (i + 1) = ((i : Nat) : Int)) := hideR (by rw [unhideR HNB, t3]; rfl)
          clear HNB q3 hsm
          go_upto_region 7 with fail
          clear a1
          refine wp_region_made 0 #[true, true, true, true, true, true, true, true, true, true, true, true, true, true, true, true, true, true, false] [.lets (· = .agg #[.int .i64 dx, .int .i64 dy, .int .i64 dz]),
            .lets (· = .pointer (some ⟨g, 0, none⟩)),
            .lets (· = .pointer (some ⟨g, 0, none⟩)),
            .lets (· = .pointer (some ⟨g, 1, none⟩)),
            .lets (· = .slice (some ⟨b, off, none⟩) n cap),
            .lets (· = .int .i64 (i : Nat)),
            .lets (· = .pointer (some ⟨b, off + i * 5, none⟩)),
            .lets (· = .pointer (some ⟨b, off + i * 5 + 1, none⟩)),
            .lets (· = .agg #[.int .i64 pi.x, .int .i64 pi.y, .int .i64 pi.z]),
            .lets (· = .pointer (some ⟨g, 0, none⟩)),
            .lets (· = .pointer (some ⟨g, 0, none⟩)),
            .lets (· = .pointer (some ⟨g, 1, none⟩)),
            .lets (· = .slice (some ⟨b, off, none⟩) n cap),
            .lets (· = .int .i64 (m : Nat)),
            .lets (· = .pointer (some ⟨b, off + m * 5, none⟩)),
            .lets (· = .pointer (some ⟨b, off + m * 5 + 1, none⟩)),
            .lets (· = .agg #[.int .i64 pm.x, .int .i64 pm.y, .int .i64 pm.z]),
            .lets (· = .int .i64 nr)] [] [] (by kernel_rfl) (by kernel_rfl) rfl ?kinds (by kernel_rfl) (by kernel_rfl) (by kernel_rfl) ?_
          case kinds =>
            constructor
            · intro i h
              rcases i with _ | _ | _ | _ | _ | _ | _ | _ | _ | _ | _ | _ | _ | _ | _ | _ | _ | _ | i <;> simp [Kx.isMade] at h
            · intro i h
              rcases i with _ | _ | _ | _ | _ | _ | _ | _ | _ | _ | _ | _ | _ | _ | _ | _ | _ | _ | i <;> simp [Kx.isUse] at h
          refine lexX_step (fun K hK => ⟨by kernel_rfl, ⟨_, rfl⟩, fun v hv => ?_, fun v hv => ?_⟩)
          · have q9 := keepB z1 hv
            have q0 := (cells_at q9 0 (by simp)).1
            have q1 := (cells_at q9 1 (by simp)).1
            have q2 := (cells_at q9 2 (by simp)).1
            go_simp
            exact mUpon_b
          subst hv
          go_simp
          refine hK _ ?_
          clear hK K
          refine lexX_step (fun K hK => ⟨by kernel_rfl, ⟨_, rfl⟩, fun v hv => ?_, fun v hv => ?_⟩)
          · go_simp
            exact mUpon_b
          subst hv
          go_simp
          refine hK _ ?_
          clear hK K
          refine lexX_step (fun K hK => ⟨by kernel_rfl, ⟨_, rfl⟩, fun v hv => ?_, fun v hv => ?_⟩)
          · go_simp
            exact mUpon_b
          subst hv
          go_simp
          refine hK _ ?_
          clear hK K
          refine lexX_step (fun K hK => ⟨by kernel_rfl, ⟨_, rfl⟩, fun v hv => ?_, fun v hv => ?_⟩)
          · go_simp
            exact mUpon_b
          subst hv
          go_simp
          refine hK _ ?_
          clear hK K
          refine lexX_step (fun K hK => ⟨by kernel_rfl, ⟨_, rfl⟩, fun v hv => ?_, fun v hv => ?_⟩)
          · have q9 := (cells_at (keepB (unhideR HA).b hv) 1 (by simp)).1
            rw [unhideR Hn] at q9
            go_simp
            exact mUpon_b
          subst hv
          go_simp
          refine hK _ ?_
          clear hK K
          refine lexX_step (fun K hK => ⟨by kernel_rfl, ⟨_, rfl⟩, fun v hv => ?_, fun v hv => ?_⟩)
          · go_simp
            exact mUpon_b
          subst hv
          go_simp
          refine hK _ ?_
          clear hK K
          refine lexX_step (fun K hK => ⟨by kernel_rfl, ⟨_, rfl⟩, fun v hv => ?_, fun v hv => ?_⟩)
          · go_simp
            exact mUpon_b
          subst hv
          go_simp
          refine hK _ ?_
          clear hK K
          refine lexX_step (fun K hK => ⟨by kernel_rfl, ⟨_, rfl⟩, fun v hv => ?_, fun v hv => ?_⟩)
          · go_simp
            exact mUpon_b
          subst hv
          go_simp
          refine hK _ ?_
          clear hK K
          refine lexX_step (fun K hK => ⟨by kernel_rfl, ⟨_, rfl⟩, fun v hv => ?_, fun v hv => ?_⟩)
          · have q9 := (unhideR HEi).below hv (unhideR Hbl)
            have q0 := q9.c1
            have q1 := q9.c2
            have q2 := q9.c3
            go_simp
            exact mUpon_b
          subst hv
          go_simp
          refine hK _ ?_
          clear hK K
          refine lexX_step (fun K hK => ⟨by kernel_rfl, ⟨_, rfl⟩, fun v hv => ?_, fun v hv => ?_⟩)
          · go_simp
            exact mUpon_b
          subst hv
          go_simp
          refine hK _ ?_
          clear hK K
          refine lexX_step (fun K hK => ⟨by kernel_rfl, ⟨_, rfl⟩, fun v hv => ?_, fun v hv => ?_⟩)
          · go_simp
            exact mUpon_b
          subst hv
          go_simp
          refine hK _ ?_
          clear hK K
          refine lexX_step (fun K hK => ⟨by kernel_rfl, ⟨_, rfl⟩, fun v hv => ?_, fun v hv => ?_⟩)
          · go_simp
            exact mUpon_b
          subst hv
          go_simp
          refine hK _ ?_
          clear hK K
          refine lexX_step (fun K hK => ⟨by kernel_rfl, ⟨_, rfl⟩, fun v hv => ?_, fun v hv => ?_⟩)
          · have q9 := (cells_at (keepB (unhideR HA).b hv) 1 (by simp)).1
            rw [unhideR Hn] at q9
            go_simp
            exact mUpon_b
          subst hv
          go_simp
          refine hK _ ?_
          clear hK K
          refine lexX_step (fun K hK => ⟨by kernel_rfl, ⟨_, rfl⟩, fun v hv => ?_, fun v hv => ?_⟩)
          · go_simp
            exact mUpon_b
          subst hv
          go_simp
          refine hK _ ?_
          clear hK K
          refine lexX_step (fun K hK => ⟨by kernel_rfl, ⟨_, rfl⟩, fun v hv => ?_, fun v hv => ?_⟩)
          · go_simp
            exact mUpon_b
          subst hv
          go_simp
          refine hK _ ?_
          clear hK K
          refine lexX_step (fun K hK => ⟨by kernel_rfl, ⟨_, rfl⟩, fun v hv => ?_, fun v hv => ?_⟩)
          · go_simp
            exact mUpon_b
          subst hv
          go_simp
          refine hK _ ?_
          clear hK K
          refine lexX_step (fun K hK => ⟨by kernel_rfl, ⟨_, rfl⟩, fun v hv => ?_, fun v hv => ?_⟩)
          · have q9 := (unhideR HEm).below hv (unhideR Hbl)
            have q0 := q9.c1
            have q1 := q9.c2
            have q2 := q9.c3
            go_simp
            exact mUpon_b
          subst hv
          go_simp
          refine hK _ ?_
          clear hK K
          refine lexX_step (fun K hK => ⟨by kernel_rfl, ⟨_, rfl⟩, fun v hv => ?_, fun v hv => ?_⟩)
          · go_simp
            refine (hnr _).mono ?_
            rintro e w9 ⟨rfl, k⟩
            exact ⟨_, rfl, rfl, k⟩
          subst hv
          go_simp
          refine hK _ ?_
          clear hK K
          refine lexX_end (fun v5 hv => ?_)
          have k5 := hv.low
          clear hv hnr
          replace z1 := keepB z1 k5
          replace HA := hideR ((unhideR HA).below k5)
          replace HEi := hideR ((unhideR HEi).below k5 (unhideR Hbl))
          replace HEm := hideR ((unhideR HEm).below k5 (unhideR Hbl))
          replace HB := hideR (below_go (unhideR HB) k5)
          clear k5 Hbl
          refine wpAny_step (i := 18) (by kernel_rfl) rfl (by kernel_rfl) (fun K hK => ?_)
          unfold Oper.wp
          go_simp
          refine hK _ _ ?_
          clear hK K
          refine wpAny_end (by kernel_rfl) ?_
          go_upto_region 8 with fail
          have a1 := (cells_at (show v5.drew.heap[g]? = some (.cells #[.int .i64 lv, .slice (some ⟨b, off, none⟩) L.length cap] 47) from (unhideR HA).b) 1 (by simp)).1
          rw [unhideR Hn] at a1
          have ni : v5.drew.cell? ⟨b, off + i * 5, none⟩ = some (.string si) := (unhideR HEi).c0
          have nm : v5.drew.cell? ⟨b, off + m * 5, none⟩ = some (.string sm) := (unhideR HEm).c0
          replace HB := hideR (drewBlN (unhideR HB))
          replace z1 : v5.drew.heap[K]? = some (.cells #[.int .i64 dx, .int .i64 dy, .int .i64 dz] 24) := z1
          replace HA : HeldR (AtB v5.drew g lv (some ⟨b, off, none⟩) cap L) := hideR ⟨(unhideR HA).b, (unhideR HA).e.below (drewBlN (Below.refl _ _))⟩
          clear HEi HEm
          go_region
          clear a1 ni nm
          generalize v5.drew = v6 at *
          go_wp2
          exact ⟨⟨i + 1, (i : Nat), by omega, by omega, by omega, by go_num, by go_num, HN2, HA, z1, HB⟩, by simp [intOf]; omega⟩
        · skip
          have t3 : decide (0 < nr) = false := decide_eq_false (by omega)
          have t4 : (nr == 0) = true := by simp [q3]
          have hq : decide (nr = 0) = true := decide_eq_true q3
          cases q4 : lessB si sm with
          | true =>
          have HN2 : HeldR (nbV ⟨dx, dy, dz⟩ L (i + 1) = ((i : Nat) : Int)) := hideR (by rw [unhideR HNB, t3, hq, q4]; rfl)
          unfold lessB at q4
          clear HNB q3 hsm hq
          go_upto_region 7 with fail
          clear a1
          refine wp_region_made 0 #[true, true, true, true, true, true, true, true, true, true, true, true, true, true, true, true, true, true, false] [.lets (· = .agg #[.int .i64 dx, .int .i64 dy, .int .i64 dz]),
            .lets (· = .pointer (some ⟨g, 0, none⟩)),
            .lets (· = .pointer (some ⟨g, 0, none⟩)),
            .lets (· = .pointer (some ⟨g, 1, none⟩)),
            .lets (· = .slice (some ⟨b, off, none⟩) n cap),
            .lets (· = .int .i64 (i : Nat)),
            .lets (· = .pointer (some ⟨b, off + i * 5, none⟩)),
            .lets (· = .pointer (some ⟨b, off + i * 5 + 1, none⟩)),
            .lets (· = .agg #[.int .i64 pi.x, .int .i64 pi.y, .int .i64 pi.z]),
            .lets (· = .pointer (some ⟨g, 0, none⟩)),
            .lets (· = .pointer (some ⟨g, 0, none⟩)),
            .lets (· = .pointer (some ⟨g, 1, none⟩)),
            .lets (· = .slice (some ⟨b, off, none⟩) n cap),
            .lets (· = .int .i64 (m : Nat)),
            .lets (· = .pointer (some ⟨b, off + m * 5, none⟩)),
            .lets (· = .pointer (some ⟨b, off + m * 5 + 1, none⟩)),
            .lets (· = .agg #[.int .i64 pm.x, .int .i64 pm.y, .int .i64 pm.z]),
            .lets (· = .int .i64 nr)] [] [] (by kernel_rfl) (by kernel_rfl) rfl ?kinds (by kernel_rfl) (by kernel_rfl) (by kernel_rfl) ?_
          case kinds =>
            constructor
            · intro i h
              rcases i with _ | _ | _ | _ | _ | _ | _ | _ | _ | _ | _ | _ | _ | _ | _ | _ | _ | _ | i <;> simp [Kx.isMade] at h
            · intro i h
              rcases i with _ | _ | _ | _ | _ | _ | _ | _ | _ | _ | _ | _ | _ | _ | _ | _ | _ | _ | i <;> simp [Kx.isUse] at h
          refine lexX_step (fun K hK => ⟨by kernel_rfl, ⟨_, rfl⟩, fun v hv => ?_, fun v hv => ?_⟩)
          · have q9 := keepB z1 hv
            have q0 := (cells_at q9 0 (by simp)).1
            have q1 := (cells_at q9 1 (by simp)).1
            have q2 := (cells_at q9 2 (by simp)).1
            go_simp
            exact mUpon_b
          subst hv
          go_simp
          refine hK _ ?_
          clear hK K
          refine lexX_step (fun K hK => ⟨by kernel_rfl, ⟨_, rfl⟩, fun v hv => ?_, fun v hv => ?_⟩)
          · go_simp
            exact mUpon_b
          subst hv
          go_simp
          refine hK _ ?_
          clear hK K
          refine lexX_step (fun K hK => ⟨by kernel_rfl, ⟨_, rfl⟩, fun v hv => ?_, fun v hv => ?_⟩)
          · go_simp
            exact mUpon_b
          subst hv
          go_simp
          refine hK _ ?_
          clear hK K
          refine lexX_step (fun K hK => ⟨by kernel_rfl, ⟨_, rfl⟩, fun v hv => ?_, fun v hv => ?_⟩)
          · go_simp
            exact mUpon_b
          subst hv
          go_simp
          refine hK _ ?_
          clear hK K
          refine lexX_step (fun K hK => ⟨by kernel_rfl, ⟨_, rfl⟩, fun v hv => ?_, fun v hv => ?_⟩)
          · have q9 := (cells_at (keepB (unhideR HA).b hv) 1 (by simp)).1
            rw [unhideR Hn] at q9
            go_simp
            exact mUpon_b
          subst hv
          go_simp
          refine hK _ ?_
          clear hK K
          refine lexX_step (fun K hK => ⟨by kernel_rfl, ⟨_, rfl⟩, fun v hv => ?_, fun v hv => ?_⟩)
          · go_simp
            exact mUpon_b
          subst hv
          go_simp
          refine hK _ ?_
          clear hK K
          refine lexX_step (fun K hK => ⟨by kernel_rfl, ⟨_, rfl⟩, fun v hv => ?_, fun v hv => ?_⟩)
          · go_simp
            exact mUpon_b
          subst hv
          go_simp
          refine hK _ ?_
          clear hK K
          refine lexX_step (fun K hK => ⟨by kernel_rfl, ⟨_, rfl⟩, fun v hv => ?_, fun v hv => ?_⟩)
          · go_simp
            exact mUpon_b
          subst hv
          go_simp
          refine hK _ ?_
          clear hK K
          refine lexX_step (fun K hK => ⟨by kernel_rfl, ⟨_, rfl⟩, fun v hv => ?_, fun v hv => ?_⟩)
          · have q9 := (unhideR HEi).below hv (unhideR Hbl)
            have q0 := q9.c1
            have q1 := q9.c2
            have q2 := q9.c3
            go_simp
            exact mUpon_b
          subst hv
          go_simp
          refine hK _ ?_
          clear hK K
          refine lexX_step (fun K hK => ⟨by kernel_rfl, ⟨_, rfl⟩, fun v hv => ?_, fun v hv => ?_⟩)
          · go_simp
            exact mUpon_b
          subst hv
          go_simp
          refine hK _ ?_
          clear hK K
          refine lexX_step (fun K hK => ⟨by kernel_rfl, ⟨_, rfl⟩, fun v hv => ?_, fun v hv => ?_⟩)
          · go_simp
            exact mUpon_b
          subst hv
          go_simp
          refine hK _ ?_
          clear hK K
          refine lexX_step (fun K hK => ⟨by kernel_rfl, ⟨_, rfl⟩, fun v hv => ?_, fun v hv => ?_⟩)
          · go_simp
            exact mUpon_b
          subst hv
          go_simp
          refine hK _ ?_
          clear hK K
          refine lexX_step (fun K hK => ⟨by kernel_rfl, ⟨_, rfl⟩, fun v hv => ?_, fun v hv => ?_⟩)
          · have q9 := (cells_at (keepB (unhideR HA).b hv) 1 (by simp)).1
            rw [unhideR Hn] at q9
            go_simp
            exact mUpon_b
          subst hv
          go_simp
          refine hK _ ?_
          clear hK K
          refine lexX_step (fun K hK => ⟨by kernel_rfl, ⟨_, rfl⟩, fun v hv => ?_, fun v hv => ?_⟩)
          · go_simp
            exact mUpon_b
          subst hv
          go_simp
          refine hK _ ?_
          clear hK K
          refine lexX_step (fun K hK => ⟨by kernel_rfl, ⟨_, rfl⟩, fun v hv => ?_, fun v hv => ?_⟩)
          · go_simp
            exact mUpon_b
          subst hv
          go_simp
          refine hK _ ?_
          clear hK K
          refine lexX_step (fun K hK => ⟨by kernel_rfl, ⟨_, rfl⟩, fun v hv => ?_, fun v hv => ?_⟩)
          · go_simp
            exact mUpon_b
          subst hv
          go_simp
          refine hK _ ?_
          clear hK K
          refine lexX_step (fun K hK => ⟨by kernel_rfl, ⟨_, rfl⟩, fun v hv => ?_, fun v hv => ?_⟩)
          · have q9 := (unhideR HEm).below hv (unhideR Hbl)
            have q0 := q9.c1
            have q1 := q9.c2
            have q2 := q9.c3
            go_simp
            exact mUpon_b
          subst hv
          go_simp
          refine hK _ ?_
          clear hK K
          refine lexX_step (fun K hK => ⟨by kernel_rfl, ⟨_, rfl⟩, fun v hv => ?_, fun v hv => ?_⟩)
          · go_simp
            refine (hnr _).mono ?_
            rintro e w9 ⟨rfl, k⟩
            exact ⟨_, rfl, rfl, k⟩
          subst hv
          go_simp
          refine hK _ ?_
          clear hK K
          refine lexX_end (fun v5 hv => ?_)
          have k5 := hv.low
          clear hv hnr
          replace z1 := keepB z1 k5
          replace HA := hideR ((unhideR HA).below k5)
          replace HEi := hideR ((unhideR HEi).below k5 (unhideR Hbl))
          replace HEm := hideR ((unhideR HEm).below k5 (unhideR Hbl))
          replace HB := hideR (below_go (unhideR HB) k5)
          clear k5 Hbl
          refine wpAny_step (i := 18) (by kernel_rfl) rfl (by kernel_rfl) (fun K hK => ?_)
          unfold Oper.wp
          go_simp
          refine hK _ _ ?_
          clear hK K
          refine wpAny_end (by kernel_rfl) ?_
          go_upto_region 8 with fail
          have a1 := (cells_at (show v5.drew.heap[g]? = some (.cells #[.int .i64 lv, .slice (some ⟨b, off, none⟩) L.length cap] 47) from (unhideR HA).b) 1 (by simp)).1
          rw [unhideR Hn] at a1
          have ni : v5.drew.cell? ⟨b, off + i * 5, none⟩ = some (.string si) := (unhideR HEi).c0
          have nm : v5.drew.cell? ⟨b, off + m * 5, none⟩ = some (.string sm) := (unhideR HEm).c0
          replace HB := hideR (drewBlN (unhideR HB))
          replace z1 : v5.drew.heap[K]? = some (.cells #[.int .i64 dx, .int .i64 dy, .int .i64 dz] 24) := z1
          replace HA : HeldR (AtB v5.drew g lv (some ⟨b, off, none⟩) cap L) := hideR ⟨(unhideR HA).b, (unhideR HA).e.below (drewBlN (Below.refl _ _))⟩
          clear HEi HEm
          go_region
          clear a1 ni nm
          generalize v5.drew = v6 at *
          go_wp2
          exact ⟨⟨i + 1, (i : Nat), by omega, by omega, by omega, by go_num, by go_num, HN2, HA, z1, HB⟩, by simp [intOf]; omega⟩
          | false =>
          have HN2 : HeldR (nbV ⟨dx, dy, dz⟩ L (i + 1) = ((m : Nat) : Int)) := hideR (by rw [unhideR HNB, t3, hq, q4]; rfl)
          unfold lessB at q4
          clear HNB q3 hsm hq
          go_upto_region 7 with fail
          clear a1
          refine wp_region_made 0 #[true, true, true, true, true, true, true, true, true, true, true, true, true, true, true, true, true, true, false] [.lets (· = .agg #[.int .i64 dx, .int .i64 dy, .int .i64 dz]),
            .lets (· = .pointer (some ⟨g, 0, none⟩)),
            .lets (· = .pointer (some ⟨g, 0, none⟩)),
            .lets (· = .pointer (some ⟨g, 1, none⟩)),
            .lets (· = .slice (some ⟨b, off, none⟩) n cap),
            .lets (· = .int .i64 (i : Nat)),
            .lets (· = .pointer (some ⟨b, off + i * 5, none⟩)),
            .lets (· = .pointer (some ⟨b, off + i * 5 + 1, none⟩)),
            .lets (· = .agg #[.int .i64 pi.x, .int .i64 pi.y, .int .i64 pi.z]),
            .lets (· = .pointer (some ⟨g, 0, none⟩)),
            .lets (· = .pointer (some ⟨g, 0, none⟩)),
            .lets (· = .pointer (some ⟨g, 1, none⟩)),
            .lets (· = .slice (some ⟨b, off, none⟩) n cap),
            .lets (· = .int .i64 (m : Nat)),
            .lets (· = .pointer (some ⟨b, off + m * 5, none⟩)),
            .lets (· = .pointer (some ⟨b, off + m * 5 + 1, none⟩)),
            .lets (· = .agg #[.int .i64 pm.x, .int .i64 pm.y, .int .i64 pm.z]),
            .lets (· = .int .i64 nr)] [] [] (by kernel_rfl) (by kernel_rfl) rfl ?kinds (by kernel_rfl) (by kernel_rfl) (by kernel_rfl) ?_
          case kinds =>
            constructor
            · intro i h
              rcases i with _ | _ | _ | _ | _ | _ | _ | _ | _ | _ | _ | _ | _ | _ | _ | _ | _ | _ | i <;> simp [Kx.isMade] at h
            · intro i h
              rcases i with _ | _ | _ | _ | _ | _ | _ | _ | _ | _ | _ | _ | _ | _ | _ | _ | _ | _ | i <;> simp [Kx.isUse] at h
          refine lexX_step (fun K hK => ⟨by kernel_rfl, ⟨_, rfl⟩, fun v hv => ?_, fun v hv => ?_⟩)
          · have q9 := keepB z1 hv
            have q0 := (cells_at q9 0 (by simp)).1
            have q1 := (cells_at q9 1 (by simp)).1
            have q2 := (cells_at q9 2 (by simp)).1
            go_simp
            exact mUpon_b
          subst hv
          go_simp
          refine hK _ ?_
          clear hK K
          refine lexX_step (fun K hK => ⟨by kernel_rfl, ⟨_, rfl⟩, fun v hv => ?_, fun v hv => ?_⟩)
          · go_simp
            exact mUpon_b
          subst hv
          go_simp
          refine hK _ ?_
          clear hK K
          refine lexX_step (fun K hK => ⟨by kernel_rfl, ⟨_, rfl⟩, fun v hv => ?_, fun v hv => ?_⟩)
          · go_simp
            exact mUpon_b
          subst hv
          go_simp
          refine hK _ ?_
          clear hK K
          refine lexX_step (fun K hK => ⟨by kernel_rfl, ⟨_, rfl⟩, fun v hv => ?_, fun v hv => ?_⟩)
          · go_simp
            exact mUpon_b
          subst hv
          go_simp
          refine hK _ ?_
          clear hK K
          refine lexX_step (fun K hK => ⟨by kernel_rfl, ⟨_, rfl⟩, fun v hv => ?_, fun v hv => ?_⟩)
          · have q9 := (cells_at (keepB (unhideR HA).b hv) 1 (by simp)).1
            rw [unhideR Hn] at q9
            go_simp
            exact mUpon_b
          subst hv
          go_simp
          refine hK _ ?_
          clear hK K
          refine lexX_step (fun K hK => ⟨by kernel_rfl, ⟨_, rfl⟩, fun v hv => ?_, fun v hv => ?_⟩)
          · go_simp
            exact mUpon_b
          subst hv
          go_simp
          refine hK _ ?_
          clear hK K
          refine lexX_step (fun K hK => ⟨by kernel_rfl, ⟨_, rfl⟩, fun v hv => ?_, fun v hv => ?_⟩)
          · go_simp
            exact mUpon_b
          subst hv
          go_simp
          refine hK _ ?_
          clear hK K
          refine lexX_step (fun K hK => ⟨by kernel_rfl, ⟨_, rfl⟩, fun v hv => ?_, fun v hv => ?_⟩)
          · go_simp
            exact mUpon_b
          subst hv
          go_simp
          refine hK _ ?_
          clear hK K
          refine lexX_step (fun K hK => ⟨by kernel_rfl, ⟨_, rfl⟩, fun v hv => ?_, fun v hv => ?_⟩)
          · have q9 := (unhideR HEi).below hv (unhideR Hbl)
            have q0 := q9.c1
            have q1 := q9.c2
            have q2 := q9.c3
            go_simp
            exact mUpon_b
          subst hv
          go_simp
          refine hK _ ?_
          clear hK K
          refine lexX_step (fun K hK => ⟨by kernel_rfl, ⟨_, rfl⟩, fun v hv => ?_, fun v hv => ?_⟩)
          · go_simp
            exact mUpon_b
          subst hv
          go_simp
          refine hK _ ?_
          clear hK K
          refine lexX_step (fun K hK => ⟨by kernel_rfl, ⟨_, rfl⟩, fun v hv => ?_, fun v hv => ?_⟩)
          · go_simp
            exact mUpon_b
          subst hv
          go_simp
          refine hK _ ?_
          clear hK K
          refine lexX_step (fun K hK => ⟨by kernel_rfl, ⟨_, rfl⟩, fun v hv => ?_, fun v hv => ?_⟩)
          · go_simp
            exact mUpon_b
          subst hv
          go_simp
          refine hK _ ?_
          clear hK K
          refine lexX_step (fun K hK => ⟨by kernel_rfl, ⟨_, rfl⟩, fun v hv => ?_, fun v hv => ?_⟩)
          · have q9 := (cells_at (keepB (unhideR HA).b hv) 1 (by simp)).1
            rw [unhideR Hn] at q9
            go_simp
            exact mUpon_b
          subst hv
          go_simp
          refine hK _ ?_
          clear hK K
          refine lexX_step (fun K hK => ⟨by kernel_rfl, ⟨_, rfl⟩, fun v hv => ?_, fun v hv => ?_⟩)
          · go_simp
            exact mUpon_b
          subst hv
          go_simp
          refine hK _ ?_
          clear hK K
          refine lexX_step (fun K hK => ⟨by kernel_rfl, ⟨_, rfl⟩, fun v hv => ?_, fun v hv => ?_⟩)
          · go_simp
            exact mUpon_b
          subst hv
          go_simp
          refine hK _ ?_
          clear hK K
          refine lexX_step (fun K hK => ⟨by kernel_rfl, ⟨_, rfl⟩, fun v hv => ?_, fun v hv => ?_⟩)
          · go_simp
            exact mUpon_b
          subst hv
          go_simp
          refine hK _ ?_
          clear hK K
          refine lexX_step (fun K hK => ⟨by kernel_rfl, ⟨_, rfl⟩, fun v hv => ?_, fun v hv => ?_⟩)
          · have q9 := (unhideR HEm).below hv (unhideR Hbl)
            have q0 := q9.c1
            have q1 := q9.c2
            have q2 := q9.c3
            go_simp
            exact mUpon_b
          subst hv
          go_simp
          refine hK _ ?_
          clear hK K
          refine lexX_step (fun K hK => ⟨by kernel_rfl, ⟨_, rfl⟩, fun v hv => ?_, fun v hv => ?_⟩)
          · go_simp
            refine (hnr _).mono ?_
            rintro e w9 ⟨rfl, k⟩
            exact ⟨_, rfl, rfl, k⟩
          subst hv
          go_simp
          refine hK _ ?_
          clear hK K
          refine lexX_end (fun v5 hv => ?_)
          have k5 := hv.low
          clear hv hnr
          replace z1 := keepB z1 k5
          replace HA := hideR ((unhideR HA).below k5)
          replace HEi := hideR ((unhideR HEi).below k5 (unhideR Hbl))
          replace HEm := hideR ((unhideR HEm).below k5 (unhideR Hbl))
          replace HB := hideR (below_go (unhideR HB) k5)
          clear k5 Hbl
          refine wpAny_step (i := 18) (by kernel_rfl) rfl (by kernel_rfl) (fun K hK => ?_)
          unfold Oper.wp
          go_simp
          refine hK _ _ ?_
          clear hK K
          refine wpAny_end (by kernel_rfl) ?_
          go_upto_region 8 with fail
          have a1 := (cells_at (show v5.drew.heap[g]? = some (.cells #[.int .i64 lv, .slice (some ⟨b, off, none⟩) L.length cap] 47) from (unhideR HA).b) 1 (by simp)).1
          rw [unhideR Hn] at a1
          have ni : v5.drew.cell? ⟨b, off + i * 5, none⟩ = some (.string si) := (unhideR HEi).c0
          have nm : v5.drew.cell? ⟨b, off + m * 5, none⟩ = some (.string sm) := (unhideR HEm).c0
          replace HB := hideR (drewBlN (unhideR HB))
          replace z1 : v5.drew.heap[K]? = some (.cells #[.int .i64 dx, .int .i64 dy, .int .i64 dz] 24) := z1
          replace HA : HeldR (AtB v5.drew g lv (some ⟨b, off, none⟩) cap L) := hideR ⟨(unhideR HA).b, (unhideR HA).e.below (drewBlN (Below.refl _ _))⟩
          clear HEi HEm
          go_region
          clear a1 ni nm
          generalize v5.drew = v6 at *
          go_wp2
          exact ⟨⟨i + 1, (m : Nat), by omega, by omega, by omega, by go_num, by go_num, HN2, HA, z1, HB⟩, by simp [intOf]; omega⟩
        · skip
          have t3 : decide (0 < nr) = false := decide_eq_false (by omega)
          have t4 : (nr == 0) = false := by simp; omega
          have HN2 : HeldR (nbV ⟨dx, dy, dz⟩ L (i + 1) = ((m : Nat) : Int)) := hideR (by rw [unhideR HNB, t3, decide_eq_false (show ¬ nr = 0 by omega)]; rfl)
          clear HNB q3 hsm
          go_upto_region 7 with fail
          clear a1
          refine wp_region_made 0 #[true, true, true, true, true, true, true, true, true, true, true, true, true, true, true, true, true, true, false] [.lets (· = .agg #[.int .i64 dx, .int .i64 dy, .int .i64 dz]),
            .lets (· = .pointer (some ⟨g, 0, none⟩)),
            .lets (· = .pointer (some ⟨g, 0, none⟩)),
            .lets (· = .pointer (some ⟨g, 1, none⟩)),
            .lets (· = .slice (some ⟨b, off, none⟩) n cap),
            .lets (· = .int .i64 (i : Nat)),
            .lets (· = .pointer (some ⟨b, off + i * 5, none⟩)),
            .lets (· = .pointer (some ⟨b, off + i * 5 + 1, none⟩)),
            .lets (· = .agg #[.int .i64 pi.x, .int .i64 pi.y, .int .i64 pi.z]),
            .lets (· = .pointer (some ⟨g, 0, none⟩)),
            .lets (· = .pointer (some ⟨g, 0, none⟩)),
            .lets (· = .pointer (some ⟨g, 1, none⟩)),
            .lets (· = .slice (some ⟨b, off, none⟩) n cap),
            .lets (· = .int .i64 (m : Nat)),
            .lets (· = .pointer (some ⟨b, off + m * 5, none⟩)),
            .lets (· = .pointer (some ⟨b, off + m * 5 + 1, none⟩)),
            .lets (· = .agg #[.int .i64 pm.x, .int .i64 pm.y, .int .i64 pm.z]),
            .lets (· = .int .i64 nr)] [] [] (by kernel_rfl) (by kernel_rfl) rfl ?kinds (by kernel_rfl) (by kernel_rfl) (by kernel_rfl) ?_
          case kinds =>
            constructor
            · intro i h
              rcases i with _ | _ | _ | _ | _ | _ | _ | _ | _ | _ | _ | _ | _ | _ | _ | _ | _ | _ | i <;> simp [Kx.isMade] at h
            · intro i h
              rcases i with _ | _ | _ | _ | _ | _ | _ | _ | _ | _ | _ | _ | _ | _ | _ | _ | _ | _ | i <;> simp [Kx.isUse] at h
          refine lexX_step (fun K hK => ⟨by kernel_rfl, ⟨_, rfl⟩, fun v hv => ?_, fun v hv => ?_⟩)
          · have q9 := keepB z1 hv
            have q0 := (cells_at q9 0 (by simp)).1
            have q1 := (cells_at q9 1 (by simp)).1
            have q2 := (cells_at q9 2 (by simp)).1
            go_simp
            exact mUpon_b
          subst hv
          go_simp
          refine hK _ ?_
          clear hK K
          refine lexX_step (fun K hK => ⟨by kernel_rfl, ⟨_, rfl⟩, fun v hv => ?_, fun v hv => ?_⟩)
          · go_simp
            exact mUpon_b
          subst hv
          go_simp
          refine hK _ ?_
          clear hK K
          refine lexX_step (fun K hK => ⟨by kernel_rfl, ⟨_, rfl⟩, fun v hv => ?_, fun v hv => ?_⟩)
          · go_simp
            exact mUpon_b
          subst hv
          go_simp
          refine hK _ ?_
          clear hK K
          refine lexX_step (fun K hK => ⟨by kernel_rfl, ⟨_, rfl⟩, fun v hv => ?_, fun v hv => ?_⟩)
          · go_simp
            exact mUpon_b
          subst hv
          go_simp
          refine hK _ ?_
          clear hK K
          refine lexX_step (fun K hK => ⟨by kernel_rfl, ⟨_, rfl⟩, fun v hv => ?_, fun v hv => ?_⟩)
          · have q9 := (cells_at (keepB (unhideR HA).b hv) 1 (by simp)).1
            rw [unhideR Hn] at q9
            go_simp
            exact mUpon_b
          subst hv
          go_simp
          refine hK _ ?_
          clear hK K
          refine lexX_step (fun K hK => ⟨by kernel_rfl, ⟨_, rfl⟩, fun v hv => ?_, fun v hv => ?_⟩)
          · go_simp
            exact mUpon_b
          subst hv
          go_simp
          refine hK _ ?_
          clear hK K
          refine lexX_step (fun K hK => ⟨by kernel_rfl, ⟨_, rfl⟩, fun v hv => ?_, fun v hv => ?_⟩)
          · go_simp
            exact mUpon_b
          subst hv
          go_simp
          refine hK _ ?_
          clear hK K
          refine lexX_step (fun K hK => ⟨by kernel_rfl, ⟨_, rfl⟩, fun v hv => ?_, fun v hv => ?_⟩)
          · go_simp
            exact mUpon_b
          subst hv
          go_simp
          refine hK _ ?_
          clear hK K
          refine lexX_step (fun K hK => ⟨by kernel_rfl, ⟨_, rfl⟩, fun v hv => ?_, fun v hv => ?_⟩)
          · have q9 := (unhideR HEi).below hv (unhideR Hbl)
            have q0 := q9.c1
            have q1 := q9.c2
            have q2 := q9.c3
            go_simp
            exact mUpon_b
          subst hv
          go_simp
          refine hK _ ?_
          clear hK K
          refine lexX_step (fun K hK => ⟨by kernel_rfl, ⟨_, rfl⟩, fun v hv => ?_, fun v hv => ?_⟩)
          · go_simp
            exact mUpon_b
          subst hv
          go_simp
          refine hK _ ?_
          clear hK K
          refine lexX_step (fun K hK => ⟨by kernel_rfl, ⟨_, rfl⟩, fun v hv => ?_, fun v hv => ?_⟩)
          · go_simp
            exact mUpon_b
          subst hv
          go_simp
          refine hK _ ?_
          clear hK K
          refine lexX_step (fun K hK => ⟨by kernel_rfl, ⟨_, rfl⟩, fun v hv => ?_, fun v hv => ?_⟩)
          · go_simp
            exact mUpon_b
          subst hv
          go_simp
          refine hK _ ?_
          clear hK K
          refine lexX_step (fun K hK => ⟨by kernel_rfl, ⟨_, rfl⟩, fun v hv => ?_, fun v hv => ?_⟩)
          · have q9 := (cells_at (keepB (unhideR HA).b hv) 1 (by simp)).1
            rw [unhideR Hn] at q9
            go_simp
            exact mUpon_b
          subst hv
          go_simp
          refine hK _ ?_
          clear hK K
          refine lexX_step (fun K hK => ⟨by kernel_rfl, ⟨_, rfl⟩, fun v hv => ?_, fun v hv => ?_⟩)
          · go_simp
            exact mUpon_b
          subst hv
          go_simp
          refine hK _ ?_
          clear hK K
          refine lexX_step (fun K hK => ⟨by kernel_rfl, ⟨_, rfl⟩, fun v hv => ?_, fun v hv => ?_⟩)
          · go_simp
            exact mUpon_b
          subst hv
          go_simp
          refine hK _ ?_
          clear hK K
          refine lexX_step (fun K hK => ⟨by kernel_rfl, ⟨_, rfl⟩, fun v hv => ?_, fun v hv => ?_⟩)
          · go_simp
            exact mUpon_b
          subst hv
          go_simp
          refine hK _ ?_
          clear hK K
          refine lexX_step (fun K hK => ⟨by kernel_rfl, ⟨_, rfl⟩, fun v hv => ?_, fun v hv => ?_⟩)
          · have q9 := (unhideR HEm).below hv (unhideR Hbl)
            have q0 := q9.c1
            have q1 := q9.c2
            have q2 := q9.c3
            go_simp
            exact mUpon_b
          subst hv
          go_simp
          refine hK _ ?_
          clear hK K
          refine lexX_step (fun K hK => ⟨by kernel_rfl, ⟨_, rfl⟩, fun v hv => ?_, fun v hv => ?_⟩)
          · go_simp
            refine (hnr _).mono ?_
            rintro e w9 ⟨rfl, k⟩
            exact ⟨_, rfl, rfl, k⟩
          subst hv
          go_simp
          refine hK _ ?_
          clear hK K
          refine lexX_end (fun v5 hv => ?_)
          have k5 := hv.low
          clear hv hnr
          replace z1 := keepB z1 k5
          replace HA := hideR ((unhideR HA).below k5)
          replace HEi := hideR ((unhideR HEi).below k5 (unhideR Hbl))
          replace HEm := hideR ((unhideR HEm).below k5 (unhideR Hbl))
          replace HB := hideR (below_go (unhideR HB) k5)
          clear k5 Hbl
          refine wpAny_step (i := 18) (by kernel_rfl) rfl (by kernel_rfl) (fun K hK => ?_)
          unfold Oper.wp
          go_simp
          refine hK _ _ ?_
          clear hK K
          refine wpAny_end (by kernel_rfl) ?_
          go_upto_region 8 with fail
          have a1 := (cells_at (show v5.drew.heap[g]? = some (.cells #[.int .i64 lv, .slice (some ⟨b, off, none⟩) L.length cap] 47) from (unhideR HA).b) 1 (by simp)).1
          rw [unhideR Hn] at a1
          have ni : v5.drew.cell? ⟨b, off + i * 5, none⟩ = some (.string si) := (unhideR HEi).c0
          have nm : v5.drew.cell? ⟨b, off + m * 5, none⟩ = some (.string sm) := (unhideR HEm).c0
          replace HB := hideR (drewBlN (unhideR HB))
          replace z1 : v5.drew.heap[K]? = some (.cells #[.int .i64 dx, .int .i64 dy, .int .i64 dz] 24) := z1
          replace HA : HeldR (AtB v5.drew g lv (some ⟨b, off, none⟩) cap L) := hideR ⟨(unhideR HA).b, (unhideR HA).e.below (drewBlN (Below.refl _ _))⟩
          clear HEi HEm
          go_region
          clear a1 ni nm
          generalize v5.drew = v6 at *
          go_wp2
          exact ⟨⟨i + 1, (m : Nat), by omega, by omega, by omega, by go_num, by go_num, HN2, HA, z1, HB⟩, by simp [intOf]; omega⟩
    · obtain rfl : i = n := by omega
      have ti : decide ((i : Int) < (i : Int)) = false := decide_eq_false (by omega)
      have tin : decide (i < i) = false := decide_eq_false (by omega)
      have HE : HeldR (Ending.returned (.int .i64 bs) = .returned (.int .i64 (nbV ⟨dx, dy, dz⟩ L i)) ∧ Below w.heap.size w wr) := hideR ⟨by rw [unhideR HN], unhideR HB⟩
      clear HN HNb HNr HBt HSm HA HB z1
      go_wp2
      go_ret
      exact unhideR HE
end Go.Proofs.YtfonpobdnhifgamGreatDoor
