/-
  How near two directions are, exactly: the document's CosineAtLeast, by contract. A cone of an atlas: the document's Cone, by contract.
-/
import Derived.Test.YtfonpobdnhifgamGreatDoorAtDt
import Derived.Test.YtfonpobdnhifgamGreatDoorBigA
import Derived.Test.YtfonpobdnhifgamGreatDoorLooseM
import Derived.Test.YtfonpobdnhifgamGreatDoorAtAA
namespace Go.Proofs.YtfonpobdnhifgamGreatDoor
open Go Go.RowKit

def SlB (v : Value) : Prop := ∃ (ad : Option Addr) (n c : Nat), v = .slice ad n c
def BlF (x : Int) (l : Nat) (v : Value) (w : World) : Prop := ∀ ad n c, v = .slice ad n c → ∃ M : List Int, M.length = n ∧ BigV w ad M ∧ val M = x ∧ n ≤ l
theorem blF_stb (x : Int) (l : Nat) (v : Value) : Stb (BlF x l v) := fun _ _ h k ad n c e => by
  obtain ⟨M, h1, h2, h3, h4⟩ := h ad n c e
  exact ⟨M, h1, h2.below k, h3, h4⟩
theorem sz_sq (n : Int) : szV n * szV n = n * n := by
  unfold szV
  split
  · exact Int.neg_mul_neg n n
  · rfl
set_option maxRecDepth 100000 in
set_option maxHeartbeats 1600000 in
theorem bsq_any (n : Int) (w : World) (h1 : -4611686018427387904 ≤ n) (h2 : n ≤ 4611686018427387904) :
    Calls Tryz.prog 44 #[.int .i64 n] w fun e w' => ∃ ad cap L, e = .returned (.slice ad L.length cap) ∧ BigV w' ad L ∧ val L = n * n ∧ L.length ≤ 8 ∧ Below w.heap.size w w' := by
  have c0 := fun u => size_any n u (by omega) (by omega)
  have hs := sz_is n
  have c1 := fun u => bigOfV (szV n) u (by omega) (by omega)
  have HQ := hideR (sz_sq n)
  generalize szV n = s at *
  clear hs
  go_enter Tryz.func44, Tryz.ntmps44
  go_wp2_with fail
  refine (c0 _).mono ?_
  rintro e v1 ⟨rfl, rfl⟩
  go_wp2_with fail
  refine (c1 _).mono ?_
  rintro e v2 ⟨ad1, cp1, L1, rfl, hB1, hv1, hl1, k1⟩
  have c2 := bigMulV ad1 ad1 cp1 cp1 L1 L1 v2 (by omega) (by omega) hB1 hB1
  clear c0 c1
  obtain ⟨m1, hm1⟩ : ∃ m, L1.length = m := ⟨_, rfl⟩
  rw [hm1] at hl1 c2 ⊢
  have HV := hideR hv1
  clear hB1 hv1 hm1
  go_wp2_with fail
  refine c2.mono ?_
  rintro e v3 ⟨ad2, cp2, L2, rfl, hB2, hv2, hl2, k2⟩
  have HE : HeldR (∃ ad cap L, Ending.returned (.slice ad2 L2.length cp2) = .returned (.slice ad L.length cap) ∧ BigV v3 ad L ∧ val L = n * n ∧ L.length ≤ 8 ∧ Below v1.heap.size v1 v3) := hideR ⟨ad2, cp2, L2, rfl, hB2, by rw [hv2, unhideR HV, unhideR HQ], by omega, below_go k1 k2⟩
  clear c2 hB2 hv2 hl2 k1 k2 HV HQ
  go_wp2
  go_ret
  exact unhideR HE
/-- is the cosine of the angle between at least num/den? -/
def coB (d e : Dr) (num den : Int) : Bool := if 0 ≤ dtV d e ∧ 0 ≤ num then decide (num * num * (dtV d d * dtV e e) ≤ dtV d e * dtV d e * (den * den)) else if dtV d e < 0 ∧ num < 0 then decide (dtV d e * dtV d e * (den * den) ≤ num * num * (dtV d d * dtV e e)) else decide (0 ≤ dtV d e)
theorem dt_self {d : Dr} : 0 ≤ dtV d d := by
  unfold dtV
  have p : ∀ x : Int, 0 ≤ x * x := fun x => by rw [← Int.natAbs_mul_self]; exact Int.natCast_nonneg _
  have := p d.x
  have := p d.y
  have := p d.z
  omega
theorem cmp3_ge0 {a b : Int} : decide (0 ≤ cmp3 a b) = decide (b ≤ a) := by
  unfold cmp3
  by_cases h : a < b
  · rw [if_pos h, decide_eq_false (show ¬ b ≤ a by omega)]
    rfl
  · rw [if_neg h, decide_eq_true (show b ≤ a by omega)]
    split <;> rfl
theorem cmp3_le0' {a b : Int} : decide (cmp3 a b ≤ 0) = decide (a ≤ b) := by
  unfold cmp3
  by_cases h : a < b
  · rw [if_pos h, decide_eq_true (show a ≤ b by omega)]
    rfl
  · rw [if_neg h]
    by_cases k : b < a
    · rw [if_pos k, decide_eq_false (show ¬ a ≤ b by omega)]
      rfl
    · rw [if_neg k, decide_eq_true (show a ≤ b by omega)]
      rfl
set_option maxRecDepth 100000 in
set_option maxHeartbeats 6400000 in
theorem cosine_any (d e : Dr) (num den : Int) (w : World) (hd : dirB d = true) (he : dirB e = true) (n1 : -1048576 ≤ num) (n2 : num ≤ 1048576) (d1 : 1 ≤ den) (d2 : den ≤ 1048576) :
    Calls Tryz.prog 18 #[d.val, e.val, .int .i64 num, .int .i64 den] w fun r w' => r = .returned (.bool (coB d e num den)) ∧ Below w.heap.size w w' := by
  have hpp := fun u => dot_any d e u hd he
  have hdd := fun u => dot_any d d u hd hd
  have hee := fun u => dot_any e e u he he
  have b1 := dt_bd hd he
  have b2 := dt_bd hd hd
  have b3 := dt_bd he he
  have b4 := dt_self (d := d)
  have b5 := dt_self (d := e)
  obtain ⟨R, hR⟩ : ∃ R, coB d e num den = R := ⟨_, rfl⟩
  rw [hR]
  unfold coB at hR
  have HR := hideR hR
  obtain ⟨dx, dy, dz⟩ := d
  obtain ⟨ex, ey, ez⟩ := e
  generalize dtV ⟨dx, dy, dz⟩ ⟨ex, ey, ez⟩ = p at *
  generalize dtV ⟨dx, dy, dz⟩ ⟨dx, dy, dz⟩ = dd at *
  generalize dtV ⟨ex, ey, ez⟩ ⟨ex, ey, ez⟩ = ee at *
  unfold Dr.val at *
  simp only at *
  have z1 := keepA (o' := .cells #[.int .i64 ex, .int .i64 ey, .int .i64 ez] 24) (alloc_last w (.cells #[.int .i64 dx, .int .i64 dy, .int .i64 dz] 24))
  have z2 : ((w.alloc (.cells #[.int .i64 dx, .int .i64 dy, .int .i64 dz] 24)).alloc (.cells #[.int .i64 ex, .int .i64 ey, .int .i64 ez] 24)).heap[w.heap.size + 1]? = some (.cells #[.int .i64 ex, .int .i64 ey, .int .i64 ez] 24) := by
    have := alloc_last (w.alloc (.cells #[.int .i64 dx, .int .i64 dy, .int .i64 dz] 24)) (.cells #[.int .i64 ex, .int .i64 ey, .int .i64 ez] 24)
    simpa using this
  have HB := hideR (below_go (below_a w (.cells #[.int .i64 dx, .int .i64 dy, .int .i64 dz] 24)) (below_a (w.alloc (.cells #[.int .i64 dx, .int .i64 dy, .int .i64 dz] 24)) (.cells #[.int .i64 ex, .int .i64 ey, .int .i64 ez] 24)))
  clear hd he hR
  go_enter Tryz.func18, Tryz.ntmps18
  go_upto_region 1 with fail
  generalize (w.alloc (.cells #[.int .i64 dx, .int .i64 dy, .int .i64 dz] 24)).alloc (.cells #[.int .i64 ex, .int .i64 ey, .int .i64 ez] 24) = u0 at *
  generalize w.heap.size = K at z1 z2 ⊢
  have x0 := (cells_at z1 0 (by simp)).1
  have x1 := (cells_at z1 1 (by simp)).1
  have x2 := (cells_at z1 2 (by simp)).1
  have y0 := (cells_at z2 0 (by simp)).1
  have y1 := (cells_at z2 1 (by simp)).1
  have y2 := (cells_at z2 2 (by simp)).1
  go_wp2_with fail
  refine (hpp _).mono ?_
  rintro r u1 ⟨rfl, k1⟩
  replace z1 := keepB z1 k1
  replace z2 := keepB z2 k1
  replace HB := hideR (below_go (unhideR HB) k1)
  clear k1 hpp x0 x1 x2 y0 y1 y2
  go_wp2_with fail
  refine (bsq_any p _ (by omega) (by omega)).mono ?_
  rintro r u2 ⟨adA, cA, LA, rfl, hA, hvA, hlA, k1⟩
  replace z1 := keepB z1 k1
  replace z2 := keepB z2 k1
  replace HB := hideR (below_go (unhideR HB) k1)
  clear k1
  have HA := hideR hA
  have HvA := hideR hvA
  clear hA hvA
  go_wp2_with fail
  refine (bsq_any den _ (by omega) (by omega)).mono ?_
  rintro r u3 ⟨adB, cB, LB, rfl, hB, hvB, hlB, k1⟩
  replace z1 := keepB z1 k1
  replace z2 := keepB z2 k1
  replace HB := hideR (below_go (unhideR HB) k1)
  have c3 := bigMulV adA adB cA cB LA LB u3 (by omega) (by omega) ((unhideR HA).below k1) hB
  rw [unhideR HvA, hvB] at c3
  clear k1 hB hvB HvA HA
  go_wp2_with fail
  refine c3.mono ?_
  rintro r u4 ⟨adL, cL, LL, rfl, hLf, hvL, hlL, k1⟩
  replace z1 := keepB z1 k1
  replace z2 := keepB z2 k1
  replace HB := hideR (below_go (unhideR HB) k1)
  have HLf := hideR hLf
  have HvL := hideR hvL
  clear k1 c3 hLf hvL
  go_upto_region 3 with fail
  refine M.wp_region_made 0 #[true, true, true, true, true, true, true, true, true, true, true, true, false] [.lets (· = .int .i64 num),
    .made SlB (BlF (num * num) 8),
    .lets (· = .agg #[.int .i64 dx, .int .i64 dy, .int .i64 dz]),
    .lets (· = .agg #[.int .i64 dx, .int .i64 dy, .int .i64 dz]),
    .lets (· = .int .i64 dd),
    .made SlB (BlF dd 4),
    .lets (· = .agg #[.int .i64 ex, .int .i64 ey, .int .i64 ez]),
    .lets (· = .agg #[.int .i64 ex, .int .i64 ey, .int .i64 ez]),
    .lets (· = .int .i64 ee),
    .made SlB (BlF ee 4),
    .made SlB (BlF (dd * ee) 8),
    .made SlB (BlF (num * num * (dd * ee)) 16)] [1, 5, 9, 10, 11] [1, 5, 9, 10, 11] (by kernel_rfl) (by kernel_rfl) rfl ?kinds (by kernel_rfl) (by kernel_rfl) (by kernel_rfl) ?_
  case kinds =>
    constructor
    · intro i h
      rcases i with _ | _ | _ | _ | _ | _ | _ | _ | _ | _ | _ | _ | i <;> simp [M.Kx.isMade] at h ⊢
    · intro i h
      rcases i with _ | _ | _ | _ | _ | _ | _ | _ | _ | _ | _ | _ | i <;> simp [M.Kx.isUse] at h ⊢
  refine M.lexX_step (fun K hK => ⟨by kernel_rfl, ⟨_, rfl⟩, fun v hv => ?_, fun v hv => ?_⟩)
  · go_simp
    exact mUpon_b
  subst hv
  go_simp
  refine hK _ ?_
  clear hK K
  refine M.lexX_made ⟨by kernel_rfl, ⟨_, none, 0, 0, rfl⟩, blF_stb _ _, fun v hv hγ => ?_, ?_⟩
  · go_simp
    refine (bsq_any num v (by omega) (by omega)).mono ?_
    rintro e w9 ⟨ad9, c9, M9, rfl, hM9, hx9, hl9, k9⟩
    refine ⟨_, rfl, ⟨⟨_, _, _, rfl⟩, fun a' n' c' e' => ?_⟩, k9⟩
    cases e'
    exact ⟨M9, rfl, hM9, hx9, by omega⟩
  rintro _ ⟨adp, np, cp, rfl⟩ K hK
  go_simp
  refine hK _ ?_
  clear hK K
  refine M.lexX_step (fun K hK => ⟨by kernel_rfl, ⟨_, rfl⟩, fun v hv => ?_, fun v hv => ?_⟩)
  · have q9 := keepB z1 hv
    have q0 := (cells_at q9 0 (by simp)).1
    have q1 := (cells_at q9 1 (by simp)).1
    have q2 := (cells_at q9 2 (by simp)).1
    go_simp
    exact mUpon_b
  subst hv
  go_simp
  refine hK _ ?_
  clear hK K
  refine M.lexX_step (fun K hK => ⟨by kernel_rfl, ⟨_, rfl⟩, fun v hv => ?_, fun v hv => ?_⟩)
  · have q9 := keepB z1 hv
    have q0 := (cells_at q9 0 (by simp)).1
    have q1 := (cells_at q9 1 (by simp)).1
    have q2 := (cells_at q9 2 (by simp)).1
    go_simp
    exact mUpon_b
  subst hv
  go_simp
  refine hK _ ?_
  clear hK K
  refine M.lexX_step (fun K hK => ⟨by kernel_rfl, ⟨_, rfl⟩, fun v hv => ?_, fun v hv => ?_⟩)
  · go_simp
    refine (hdd _).mono ?_
    rintro e w9 ⟨rfl, k⟩
    exact ⟨_, rfl, rfl, k⟩
  subst hv
  go_simp
  refine hK _ ?_
  clear hK K
  refine M.lexX_made ⟨by kernel_rfl, ⟨_, none, 0, 0, rfl⟩, blF_stb _ _, fun v hv hγ => ?_, ?_⟩
  · go_simp
    refine (bigOfV dd v (by omega) (by omega)).mono ?_
    rintro e w9 ⟨ad9, c9, M9, rfl, hM9, hx9, hl9, k9⟩
    refine ⟨_, rfl, ⟨⟨_, _, _, rfl⟩, fun a' n' c' e' => ?_⟩, k9⟩
    cases e'
    exact ⟨M9, rfl, hM9, hx9, by omega⟩
  rintro _ ⟨adq, nq, cq, rfl⟩ K hK
  go_simp
  refine hK _ ?_
  clear hK K
  refine M.lexX_step (fun K hK => ⟨by kernel_rfl, ⟨_, rfl⟩, fun v hv => ?_, fun v hv => ?_⟩)
  · have q9 := keepB z2 hv
    have q0 := (cells_at q9 0 (by simp)).1
    have q1 := (cells_at q9 1 (by simp)).1
    have q2 := (cells_at q9 2 (by simp)).1
    go_simp
    exact mUpon_b
  subst hv
  go_simp
  refine hK _ ?_
  clear hK K
  refine M.lexX_step (fun K hK => ⟨by kernel_rfl, ⟨_, rfl⟩, fun v hv => ?_, fun v hv => ?_⟩)
  · have q9 := keepB z2 hv
    have q0 := (cells_at q9 0 (by simp)).1
    have q1 := (cells_at q9 1 (by simp)).1
    have q2 := (cells_at q9 2 (by simp)).1
    go_simp
    exact mUpon_b
  subst hv
  go_simp
  refine hK _ ?_
  clear hK K
  refine M.lexX_step (fun K hK => ⟨by kernel_rfl, ⟨_, rfl⟩, fun v hv => ?_, fun v hv => ?_⟩)
  · go_simp
    refine (hee _).mono ?_
    rintro e w9 ⟨rfl, k⟩
    exact ⟨_, rfl, rfl, k⟩
  subst hv
  go_simp
  refine hK _ ?_
  clear hK K
  refine M.lexX_made ⟨by kernel_rfl, ⟨_, none, 0, 0, rfl⟩, blF_stb _ _, fun v hv hγ => ?_, ?_⟩
  · go_simp
    refine (bigOfV ee v (by omega) (by omega)).mono ?_
    rintro e w9 ⟨ad9, c9, M9, rfl, hM9, hx9, hl9, k9⟩
    refine ⟨_, rfl, ⟨⟨_, _, _, rfl⟩, fun a' n' c' e' => ?_⟩, k9⟩
    cases e'
    exact ⟨M9, rfl, hM9, hx9, by omega⟩
  rintro _ ⟨adr, nr, cr, rfl⟩ K hK
  go_simp
  refine hK _ ?_
  clear hK K
  refine M.lexX_made ⟨by kernel_rfl, ⟨_, none, 0, 0, rfl⟩, blF_stb _ _, fun v hv hγ => ?_, ?_⟩
  · obtain ⟨Mr, rfl, hMr, hxr, hlr⟩ := hγ.2 _ _ _ rfl
    obtain ⟨Mq, rfl, hMq, hxq, hlq⟩ := hγ.1.2 _ _ _ rfl
    go_simp
    refine (bigMulV adq adr cq cr Mq Mr v (by omega) (by omega) hMq hMr).mono ?_
    rintro e w9 ⟨ad9, c9, M9, rfl, hM9, hx9, hl9, k9⟩
    refine ⟨_, rfl, ⟨⟨_, _, _, rfl⟩, fun a' n' c' e' => ?_⟩, k9⟩
    cases e'
    exact ⟨M9, rfl, hM9, by rw [hx9, hxq, hxr], by omega⟩
  rintro _ ⟨ads, ns, cs, rfl⟩ K hK
  go_simp
  refine hK _ ?_
  clear hK K
  refine M.lexX_made ⟨by kernel_rfl, ⟨_, none, 0, 0, rfl⟩, blF_stb _ _, fun v hv hγ => ?_, ?_⟩
  · obtain ⟨Ms, rfl, hMs, hxs, hls⟩ := hγ.2 _ _ _ rfl
    obtain ⟨Mp, rfl, hMp, hxp, hlp⟩ := hγ.1.1.1.2 _ _ _ rfl
    go_simp
    refine (bigMulV adp ads cp cs Mp Ms v (by omega) (by omega) hMp hMs).mono ?_
    rintro e w9 ⟨ad9, c9, M9, rfl, hM9, hx9, hl9, k9⟩
    refine ⟨_, rfl, ⟨⟨_, _, _, rfl⟩, fun a' n' c' e' => ?_⟩, k9⟩
    cases e'
    exact ⟨M9, rfl, hM9, by rw [hx9, hxp, hxs], by omega⟩
  rintro _ ⟨adt, nt, ct, rfl⟩ K hK
  go_simp
  refine hK _ ?_
  clear hK K
  refine M.lexX_end (fun v5 hv => ?_)
  have k5 := hv.low
  obtain ⟨N, hnN, hN, hvN, hlN⟩ := hv.fact.2 _ _ _ rfl
  clear hv
  have HN := hideR hN
  have HvN := hideR hvN
  replace HLf := hideR ((unhideR HLf).below k5)
  replace HB := hideR (below_go (unhideR HB) k5)
  clear k5 hN hvN z1 z2
  refine wpAny_step (i := 12) (by kernel_rfl) rfl (by kernel_rfl) (fun K hK => ?_)
  unfold Oper.wp
  go_simp
  refine hK _ _ ?_
  clear hK K
  refine wpAny_end (by kernel_rfl) ?_
  subst hnN
  have hcm := bigCmpV adL adt cL ct LL N v5 (by omega) (unhideR HLf) (unhideR HN)
  rw [unhideR HvL, unhideR HvN] at hcm
  go_wp2_with fail
  refine hcm.mono ?_
  rintro r v6 ⟨rfl, k6⟩
  have HE := hideR (below_go (unhideR HB) k6)
  clear hcm k6 HB HLf HN HvL HvN hdd hee
  have tge := cmp3_ge0 (a := p * p * (den * den)) (b := num * num * (dd * ee))
  have tle := cmp3_le0' (a := p * p * (den * den)) (b := num * num * (dd * ee))
  generalize cmp3 (p * p * (den * den)) (num * num * (dd * ee)) = cm at *
  by_cases q1 : 0 ≤ p
  · have t1 : decide (0 ≤ p) = true := decide_eq_true q1
    have t1b : decide (p < 0) = false := decide_eq_false (by omega)
    by_cases q2 : 0 ≤ num
    · have t2 : decide (0 ≤ num) = true := decide_eq_true q2
      have e : R = decide (0 ≤ cm) := by rw [← unhideR HR, if_pos ⟨q1, q2⟩, tge]
      subst e
      clear HR tge tle
      go_wp2
      go_ret
      exact ⟨rfl, unhideR HE⟩
    · have t2 : decide (0 ≤ num) = false := decide_eq_false q2
      have e : R = true := by rw [← unhideR HR, if_neg (fun q => q2 q.2), if_neg (fun q => by omega), t1]
      subst e
      clear HR tge tle
      go_wp2
      go_ret
      exact ⟨rfl, unhideR HE⟩
  · have t1 : decide (0 ≤ p) = false := decide_eq_false q1
    have t1b : decide (p < 0) = true := decide_eq_true (by omega)
    by_cases q2 : num < 0
    · have t2 : decide (num < 0) = true := decide_eq_true q2
      have e : R = decide (cm ≤ 0) := by rw [← unhideR HR, if_neg (fun q => q1 q.1), if_pos ⟨by omega, q2⟩, tle]
      subst e
      clear HR tge tle
      go_wp2
      go_ret
      exact ⟨rfl, unhideR HE⟩
    · have t2 : decide (num < 0) = false := decide_eq_false q2
      have e : R = false := by rw [← unhideR HR, if_neg (fun q => q1 q.1), if_neg (fun q => q2 q.2), t1]
      subst e
      clear HR tge tle
      go_wp2
      go_ret
      exact ⟨rfl, unhideR HE⟩
end Go.Proofs.YtfonpobdnhifgamGreatDoor
namespace Go.Proofs.YtfonpobdnhifgamGreatDoor
open Go Go.RowKit

/-- the names of those within a cone, of the first i. -/
def cnV (d : Dr) (num den : Int) (L : List En) : Nat → List ByteArray
  | 0 => []
  | i + 1 => if coB d (L.getD i en0).d num den then insV (cnV d num den L i) (L.getD i en0).nm else cnV d num den L i
theorem cn_len (d : Dr) (num den : Int) (L : List En) : ∀ i, (cnV d num den L i).length ≤ i
  | 0 => Nat.le_refl _
  | i + 1 => by
    have := cn_len d num den L i
    show (if coB d (L.getD i en0).d num den then insV (cnV d num den L i) (L.getD i en0).nm else cnV d num den L i).length ≤ i + 1
    split
    · rw [insV_len]; omega
    · omega
set_option maxRecDepth 100000 in
set_option maxHeartbeats 6400000 in
theorem cone_any (d : Dr) (num den : Int) {w : World} {g : Nat} {lv : Int} {ad : Option Addr} {cap : Nat} {L : List En} (hA0 : AtB w g lv ad cap L) (hl : L.length ≤ 4000) (hd : dirB d = true) (hL : ∀ k, k < L.length → dirB (L.getD k en0).d = true) (n1 : -1048576 ≤ num) (n2 : num ≤ 1048576) (d1 : 1 ≤ den) (d2 : den ≤ 1048576) :
    Calls Tryz.prog 14 #[.pointer (some ⟨g, 0, none⟩), d.val, .int .i64 num, .int .i64 den] w fun r w' => (∃ v, r = .returned v ∧ NmOwn w' v (cnV d num den L L.length)) ∧ Below w.heap.size w w' := by
  have HCo : HeldR (∀ a, a < L.length → ∀ u, Calls Tryz.prog 18 #[d.val, (L.getD a en0).d.val, .int .i64 num, .int .i64 den] u fun r w' => r = .returned (.bool (coB d (L.getD a en0).d num den)) ∧ Below u.heap.size u w') := hideR (fun a ha u => cosine_any d _ num den u hd (hL a ha) n1 n2 d1 d2)
  have HC : HeldR (∀ i, cnV d num den L (i + 1) = if coB d (L.getD i en0).d num den then insV (cnV d num den L i) (L.getD i en0).nm else cnV d num den L i) := hideR (fun i => rfl)
  have HLn : HeldR (∀ i, (cnV d num den L i).length ≤ i) := hideR (cn_len d num den L)
  have H0 : HeldR (∀ u : World, NmOwn u (.slice none 0 0) (cnV d num den L 0)) := hideR (fun u => ⟨0, World.ownsRow_nil u 0 9 1⟩)
  obtain ⟨n, hn⟩ : ∃ n, L.length = n := ⟨_, rfl⟩
  have Hn := hideR hn
  obtain ⟨C, hC⟩ : ∃ C, cnV d num den L = C := ⟨_, rfl⟩
  rw [hC] at HC HLn H0 ⊢
  clear hC
  obtain ⟨dx, dy, dz⟩ := d
  unfold Dr.val at *
  simp only at *
  have z1 := alloc_last w (.cells #[.int .i64 dx, .int .i64 dy, .int .i64 dz] 24)
  have HB := hideR (below_a w (.cells #[.int .i64 dx, .int .i64 dy, .int .i64 dz] 24))
  have HA := hideR (hA0.below (below_a w (.cells #[.int .i64 dx, .int .i64 dy, .int .i64 dz] 24)))
  rw [hn] at hl ⊢
  clear hA0 hd hL hn
  go_enter Tryz.func14, Tryz.ntmps14
  go_upto_region 1 with fail
  generalize w.alloc (.cells #[.int .i64 dx, .int .i64 dy, .int .i64 dz] 24) = u0 at *
  generalize w.heap.size = K at z1 ⊢
  go_wp2_with fail
  go_loopw [9, 10] (fun ov iv wl => ∃ (i : Nat), i ≤ n ∧ iv = .int .i64 (i : Nat) ∧ HeldR (NmOwn wl ov (C i)) ∧ HeldR (AtB wl g lv ad cap L) ∧ wl.heap[K]? = some (.cells #[.int .i64 dx, .int .i64 dy, .int .i64 dz] 24) ∧ HeldR (Below w.heap.size w wl)) (fun _ iv _ => n + 1 - (intOf iv).toNat)
  case atStart => exact ⟨0, by omega, rfl, hideR (unhideR H0 _), HA, z1, HB⟩
  case round =>
    clear HA z1 HB H0
    obtain ⟨i, hin, rfl, HO, HA, z1, HB⟩ := hrel
    have hab := (unhideR HA).b
    rw [unhideR Hn] at hab
    have a1 := (cells_at hab 1 (by simp)).1
    clear hab
    by_cases q : i < n
    case neg =>
      obtain rfl : i = n := by omega
      have ti : decide ((i : Int) < (i : Int)) = false := decide_eq_false (by omega)
      have tin : decide (i < i) = false := decide_eq_false (by omega)
      clear HC HCo HLn HA z1
      go_wp2
      go_ret
      exact ⟨⟨_, rfl, unhideR HO⟩, unhideR HB⟩
    case pos =>
      have ti : decide ((i : Int) < (n : Int)) = true := decide_eq_true (by omega)
      have tin : decide (i < n) = true := decide_eq_true q
      have wi : IntKind.i64.wrap ((i : Int) + 1) = (i : Int) + 1 := iwrap (by omega) (by omega)
      have hin2 : (i : Int) < (n : Int) := by omega
      have hco := unhideR HCo i (by rw [unhideR Hn]; exact q)
      have hci := unhideR HC i
      have hli := unhideR HLn i
      obtain ⟨B0, hO⟩ := unhideR HO
      obtain ⟨adO, capO, rfl, hSC, hcp, hnl⟩ := own_str hO
      obtain ⟨b, off, had, hbl, hei⟩ := (unhideR HA).e.at_ i (by rw [unhideR Hn]; exact q)
      subst had
      have HEi := hideR hei
      have Hbl := hideR hbl
      have HSC := hideR hSC
      generalize coB ⟨dx, dy, dz⟩ (L.getD i en0).d num den = cb at *
      obtain ⟨ei, hEi⟩ : ∃ e, L.getD i en0 = e := ⟨_, rfl⟩
      rw [hEi] at hco HEi hci
      obtain ⟨si, pi, li⟩ := ei
      simp only at *
      have HCi := hideR hci
      have Hcp := hideR (And.intro hli (And.intro hcp hnl))
      replace HO := hideR hO
      clear hEi hei hbl hSC hci hO hli hcp hnl HC HCo HLn
      go_upto_region 5 with fail
      clear a1
      refine wp_region_made 0 #[true, true, true, true, true, true, true, true, true, true, true, true, false] [.lets (· = .agg #[.int .i64 dx, .int .i64 dy, .int .i64 dz]),
        .lets (· = .pointer (some ⟨g, 0, none⟩)),
        .lets (· = .pointer (some ⟨g, 0, none⟩)),
        .lets (· = .pointer (some ⟨g, 1, none⟩)),
        .lets (· = .slice (some ⟨b, off, none⟩) n cap),
        .lets (· = .int .i64 (i : Nat)),
        .lets (· = .pointer (some ⟨b, off + i * 5, none⟩)),
        .lets (· = .pointer (some ⟨b, off + i * 5 + 1, none⟩)),
        .lets (· = .agg #[.int .i64 pi.x, .int .i64 pi.y, .int .i64 pi.z]),
        .lets (· = .int .i64 num),
        .lets (· = .int .i64 den),
        .lets (· = .bool cb)] [] [] (by kernel_rfl) (by kernel_rfl) rfl ?kinds (by kernel_rfl) (by kernel_rfl) (by kernel_rfl) ?_
      case kinds =>
        constructor
        · intro i h
          rcases i with _ | _ | _ | _ | _ | _ | _ | _ | _ | _ | _ | _ | i <;> simp [Kx.isMade] at h
        · intro i h
          rcases i with _ | _ | _ | _ | _ | _ | _ | _ | _ | _ | _ | _ | i <;> simp [Kx.isUse] at h
      refine lexX_step (fun K hK => ⟨by kernel_rfl, ⟨_, rfl⟩, fun v hv => ?_, fun v hv => ?_⟩)
      · have q9 := keepB z1 hv
        have q0 := (cells_at q9 0 (by simp)).1
        have q1 := (cells_at q9 1 (by simp)).1
        have q2 := (cells_at q9 2 (by simp)).1
        go_simp
        exact mUpon_b
      subst hv
      go_simp
      refine hK _ ?_
      clear hK K
      refine lexX_step (fun K hK => ⟨by kernel_rfl, ⟨_, rfl⟩, fun v hv => ?_, fun v hv => ?_⟩)
      · go_simp
        exact mUpon_b
      subst hv
      go_simp
      refine hK _ ?_
      clear hK K
      refine lexX_step (fun K hK => ⟨by kernel_rfl, ⟨_, rfl⟩, fun v hv => ?_, fun v hv => ?_⟩)
      · go_simp
        exact mUpon_b
      subst hv
      go_simp
      refine hK _ ?_
      clear hK K
      refine lexX_step (fun K hK => ⟨by kernel_rfl, ⟨_, rfl⟩, fun v hv => ?_, fun v hv => ?_⟩)
      · go_simp
        exact mUpon_b
      subst hv
      go_simp
      refine hK _ ?_
      clear hK K
      refine lexX_step (fun K hK => ⟨by kernel_rfl, ⟨_, rfl⟩, fun v hv => ?_, fun v hv => ?_⟩)
      · have q9 := (cells_at (keepB (unhideR HA).b hv) 1 (by simp)).1
        rw [unhideR Hn] at q9
        go_simp
        exact mUpon_b
      subst hv
      go_simp
      refine hK _ ?_
      clear hK K
      refine lexX_step (fun K hK => ⟨by kernel_rfl, ⟨_, rfl⟩, fun v hv => ?_, fun v hv => ?_⟩)
      · go_simp
        exact mUpon_b
      subst hv
      go_simp
      refine hK _ ?_
      clear hK K
      refine lexX_step (fun K hK => ⟨by kernel_rfl, ⟨_, rfl⟩, fun v hv => ?_, fun v hv => ?_⟩)
      · go_simp
        exact mUpon_b
      subst hv
      go_simp
      refine hK _ ?_
      clear hK K
      refine lexX_step (fun K hK => ⟨by kernel_rfl, ⟨_, rfl⟩, fun v hv => ?_, fun v hv => ?_⟩)
      · go_simp
        exact mUpon_b
      subst hv
      go_simp
      refine hK _ ?_
      clear hK K
      refine lexX_step (fun K hK => ⟨by kernel_rfl, ⟨_, rfl⟩, fun v hv => ?_, fun v hv => ?_⟩)
      · have q9 := (unhideR HEi).below hv (unhideR Hbl)
        have q0 := q9.c1
        have q1 := q9.c2
        have q2 := q9.c3
        go_simp
        exact mUpon_b
      subst hv
      go_simp
      refine hK _ ?_
      clear hK K
      refine lexX_step (fun K hK => ⟨by kernel_rfl, ⟨_, rfl⟩, fun v hv => ?_, fun v hv => ?_⟩)
      · go_simp
        exact mUpon_b
      subst hv
      go_simp
      refine hK _ ?_
      clear hK K
      refine lexX_step (fun K hK => ⟨by kernel_rfl, ⟨_, rfl⟩, fun v hv => ?_, fun v hv => ?_⟩)
      · go_simp
        exact mUpon_b
      subst hv
      go_simp
      refine hK _ ?_
      clear hK K
      refine lexX_step (fun K hK => ⟨by kernel_rfl, ⟨_, rfl⟩, fun v hv => ?_, fun v hv => ?_⟩)
      · go_simp
        refine (hco _).mono ?_
        rintro e w9 ⟨rfl, k⟩
        exact ⟨_, rfl, rfl, k⟩
      subst hv
      go_simp
      refine hK _ ?_
      clear hK K
      refine lexX_end (fun v5 hv => ?_)
      have k5 := hv.low
      clear hv hco
      replace z1 := keepB z1 k5
      replace HA := hideR ((unhideR HA).below k5)
      replace HEi := hideR ((unhideR HEi).below k5 (unhideR Hbl))
      replace HB := hideR (below_go (unhideR HB) k5)
      have HO2 := hideR (own_belowC (unhideR HO) k5)
      replace HSC := hideR ((unhideR HSC).below k5)
      clear k5 Hbl HO
      refine wpAny_step (i := 12) (by kernel_rfl) rfl (by kernel_rfl) (fun K hK => ?_)
      unfold Oper.wp
      go_simp
      refine hK _ _ ?_
      clear hK K
      refine wpAny_end (by kernel_rfl) ?_
      cases cb with
      | false =>
        have HO3 : HeldR (NmOwn v5 (.slice adO (C i).length capO) (C (i + 1))) := hideR (by rw [unhideR HCi]; exact ⟨_, unhideR HO2⟩)
        clear HO2 HCi HSC Hcp HEi
        go_wp2
        exact ⟨⟨i + 1, by omega, by go_num, HO3, HA, z1, HB⟩, by simp [intOf]; omega⟩
      | true =>
        have hin3 := insert_any (cap := capO) si (unhideR HSC) (by have := (unhideR Hcp).1; omega) (unhideR Hcp).2.1 (unhideR Hcp).2.2
        have hab := (unhideR HA).b
        rw [unhideR Hn] at hab
        have a1 := (cells_at hab 1 (by simp)).1
        have ni := (unhideR HEi).c0
        clear hab
        go_wp2_with fail
        refine hin3.mono ?_
        rintro r v6 ⟨v7, rfl, hO7, k7⟩
        have HO3 : HeldR (NmOwn v6 v7 (C (i + 1))) := hideR (by rw [unhideR HCi]; exact ⟨_, hO7⟩)
        replace z1 := keepB z1 k7
        replace HA := hideR ((unhideR HA).below k7)
        replace HB := hideR (below_go (unhideR HB) k7)
        clear HO2 HCi HSC Hcp HEi hO7 k7 hin3 a1 ni
        go_wp2
        exact ⟨⟨i + 1, by omega, by go_num, HO3, HA, z1, HB⟩, by simp [intOf]; omega⟩
end Go.Proofs.YtfonpobdnhifgamGreatDoor
