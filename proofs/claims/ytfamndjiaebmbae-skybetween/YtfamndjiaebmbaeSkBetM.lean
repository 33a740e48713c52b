/-
  How far two places are: whichever is the first.
-/
import Derived.Test.YtfamndjiaebmbaeDSky5
import Derived.Test.YtfamndjiaebmbaeOdd
namespace Go.Proofs.Ytfamndjiaebmbae
open Go Go.RowKit

theorem fop_comm {x y r : Nat} (h : FOp .mul x y r) : FOp .mul y x r := by
  unfold FOp at *
  rw [bits_comm] at h
  exact h
theorem ev_comm {x y r : Nat} (h : Ev (mE x y) r) : Ev (mE y x) r := ev_m (fop_comm (ev_m_inv h))
theorem dt_comm {a b c x y z r : Nat} (h : Ev (dtE a b c x y z) r) : Ev (dtE x y z a b c) r := by
  cases h with
  | op h1 h2 h3 =>
    cases h1 with
    | op k1 k2 k3 => exact .op (.op (ev_comm k1) (ev_comm k2) k3) (ev_comm h2) h3
def Alike (r r' : Nat) : Prop := r' = r ∨ r' = ngB r ∨ (Nan r ∧ Nan r')
theorem near_alike (s t : Bool) (m : Nat) (p : Int) : Alike (FloatKind.f64.format.nearest s m p) (FloatKind.f64.format.nearest t m p) := by
  by_cases h : t = s
  · rw [h]
    exact .inl rfl
  · have : t = !s := by cases s <;> cases t <;> simp_all
    rw [this, nearest_neg]
    exact .inr (.inl rfl)
theorem inf_alike (s : Bool) : Alike (FloatKind.f64.format.write (.infinity s)) (FloatKind.f64.format.write (.infinity !s)) := .inr (.inl (word_neg s (by rw [f64_ir]; omega)))
theorem signed_opp (s : Bool) (m k : Nat) : Ieee.signed (!s) m k = -Ieee.signed s m k := by
  unfold Ieee.signed
  cases s <;> simp
theorem sub_swap {a b r r' : Nat} (h : FOp .sub a b r) (k : FOp .sub b a r') : Alike r r' := by
  have h' : match FloatKind.f64.format.sub a b with | some v => r = v | none => Nan r := h
  have k' : match FloatKind.f64.format.sub b a with | some v => r' = v | none => Nan r' := k
  unfold Ieee.Format.sub at h' k'
  cases ea : FloatKind.f64.format.read a with
  | nan s f =>
    rw [ea] at h' k'
    have h1 : Nan r := h'
    have k1 : Nan r' := by cases eb : FloatKind.f64.format.read b <;> rw [eb] at k' <;> exact k'
    exact .inr (.inr ⟨h1, k1⟩)
  | infinity s =>
    cases eb : FloatKind.f64.format.read b with
    | nan t f =>
      rw [ea, eb] at h' k'
      exact .inr (.inr ⟨h', k'⟩)
    | infinity t =>
      rw [ea, eb] at h' k'
      cases s <;> cases t
      · exact .inr (.inr ⟨h', k'⟩)
      · obtain rfl : r = FloatKind.f64.format.write (.infinity false) := h'
        obtain rfl : r' = FloatKind.f64.format.write (.infinity true) := k'
        exact inf_alike false
      · obtain rfl : r = FloatKind.f64.format.write (.infinity true) := h'
        obtain rfl : r' = FloatKind.f64.format.write (.infinity false) := k'
        exact inf_alike true
      · exact .inr (.inr ⟨h', k'⟩)
    | number t m i =>
      rw [ea, eb] at h' k'
      obtain rfl : r = FloatKind.f64.format.write (.infinity s) := h'
      obtain rfl : r' = FloatKind.f64.format.write (.infinity !s) := k'
      exact inf_alike s
  | number s m i =>
    cases eb : FloatKind.f64.format.read b with
    | nan t f =>
      rw [ea, eb] at h' k'
      exact .inr (.inr ⟨h', k'⟩)
    | infinity t =>
      rw [ea, eb] at h' k'
      obtain rfl : r = FloatKind.f64.format.write (.infinity !t) := h'
      obtain rfl : r' = FloatKind.f64.format.write (.infinity t) := k'
      have := inf_alike (!t)
      rw [Bool.not_not] at this
      exact this
    | number t n j =>
      rw [ea, eb] at h' k'
      simp only [Ieee.Datum.opposite, Ieee.Datum.sum, Option.map_some] at h' k'
      have hb : min j i = min i j := Int.min_comm j i
      rw [hb] at k'
      generalize min i j = base at *
      have ht : Ieee.signed t n (j - base).toNat + Ieee.signed (!s) m (i - base).toNat = -(Ieee.signed s m (i - base).toNat + Ieee.signed (!t) n (j - base).toNat) := by
        rw [signed_opp, signed_opp]
        omega
      rw [ht, Int.natAbs_neg] at k'
      generalize Ieee.signed s m (i - base).toNat + Ieee.signed (!t) n (j - base).toNat = tot at *
      rw [h', k']
      exact near_alike _ _ _ _
theorem alike_sq {r r' q q' : Nat} (h : Alike r r') (k : FOp .mul r r q) (k' : FOp .mul r' r' q') : FSame q q' := by
  rcases h with rfl | rfl | ⟨h1, h2⟩
  · exact (ev_m k).same (ev_m k')
  · have : FOp .mul r r q' := by
      unfold FOp at *
      rw [bits_neg2] at k'
      exact k'
    exact (ev_m k).same (ev_m this)
  · exact Like.same (.op (.num (.inr ⟨h1, h2⟩)) (.num (.inr ⟨h1, h2⟩))) (ev_m k) (ev_m k')
theorem cr_alike {a b c d r r' : Nat} (h : Ev (crE a b c d) r) (k : Ev (crE d c b a) r') : Alike r r' := by
  cases h with
  | op h1 h2 h3 =>
    cases k with
    | op k1 k2 k3 =>
      have e1 := (ev_comm k1).same h2
      have e2 := (ev_comm k2).same h1
      rcases e1 with rfl | ⟨n1, n2⟩
      · rcases e2 with rfl | ⟨n1, n2⟩
        · exact sub_swap h3 k3
        · exact .inr (.inr ⟨nan_sub h3 (.inl n2), nan_sub k3 (.inr n1)⟩)
      · exact .inr (.inr ⟨nan_sub h3 (.inr n2), nan_sub k3 (.inl n1)⟩)
where
  nan_sub {a b r : Nat} (h : FOp .sub a b r) (k : Nan a ∨ Nan b) : Nan r := by
    have h' : match FloatKind.f64.format.sub a b with | some v => r = v | none => Nan r := h
    unfold Ieee.Format.sub at h'
    unfold Nan at k
    rcases k with k | k
    · cases e : FloatKind.f64.format.read a with
      | number s m i => rw [e] at k; cases k
      | infinity s => rw [e] at k; cases k
      | nan s f => rw [e] at h'; exact h'
    · cases e : FloatKind.f64.format.read b with
      | number s m i => rw [e] at k; cases k
      | infinity s => rw [e] at k; cases k
      | nan s f => rw [e] at h'; cases ea : FloatKind.f64.format.read a <;> rw [ea] at h' <;> exact h'
theorem len_alike {c0 c1 c2 d0 d1 d2 t u : Nat} (h0 : Alike c0 d0) (h1 : Alike c1 d1) (h2 : Alike c2 d2) (h : Ev (lenE c0 c1 c2) t) (k : Ev (lenE d0 d1 d2) u) : FSame t u := by
  cases h with
  | op a1 a2 a3 =>
    cases a1 with
    | op b1 b2 b3 =>
      cases k with
      | op a1' a2' a3' =>
        cases a1' with
        | op b1' b2' b3' =>
          have s0 := alike_sq h0 (ev_m_inv b1) (ev_m_inv b1')
          have s1 := alike_sq h1 (ev_m_inv b2) (ev_m_inv b2')
          have s2 := alike_sq h2 (ev_m_inv a2) (ev_m_inv a2')
          exact Like.same (.op (.op (.num s0) (.num s1)) (.num s2)) (.op (.op (.num _) (.num _) b3) (.num _) a3) (.op (.op (.num _) (.num _) b3') (.num _) a3')
theorem ang_same2 {l l' d d' : Nat} (h : FSame l l') (k : FSame d d') : angV l d = angV l' d' := by
  rw [(has_same (z := l) k).2]
  rcases h with rfl | ⟨n1, n2⟩
  · rfl
  · unfold angV
    have e1 : hasV l d' = false := by unfold hasV; rw [nan_fin n1]; simp
    have e2 : hasV l' d' = false := by unfold hasV; rw [nan_fin n2]; simp
    rw [e1, e2]
    rfl
theorem ap_swap {px py pz qx qy qz : Nat} {n n' : Int} (h : ApIs px py pz qx qy qz n) (k : ApIs qx qy qz px py pz n') : n' = n := by
  obtain ⟨l, d, ⟨c0, c1, c2, t, h1, h2, h3, h4, h5⟩, hd, rfl⟩ := h
  obtain ⟨l', d', ⟨c0', c1', c2', t', k1, k2, k3, k4, k5⟩, kd, rfl⟩ := k
  exact (ang_same2 (h5.same k5 (len_alike (cr_alike h1 k1) (cr_alike h2 k2) (cr_alike h3 k3) h4 k4)) (hd.same (dt_comm kd))).symm
structure Same3 (px py pz qx qy qz : Nat) : Prop where
  x : FSame px qx
  y : FSame py qy
  z : FSame pz qz
theorem pt_same {a b : Int} {x y z x' y' z' : Nat} (h : PointIs a b x y z) (k : PointIs a b x' y' z') : Same3 x y z x' y' z' :=
  ⟨(ev_m h.x).same (ev_m k.x), (ev_m h.y).same (ev_m k.y), .inl (h.z.trans k.z.symm)⟩
theorem ap_same {px py pz qx qy qz px' py' pz' qx' qy' qz' : Nat} {n n' : Int} (sp : Same3 px py pz px' py' pz') (sq : Same3 qx qy qz qx' qy' qz') (h : ApIs px py pz qx qy qz n) (k : ApIs px' py' pz' qx' qy' qz' n') : n' = n := by
  obtain ⟨l, d, ⟨c0, c1, c2, t, h1, h2, h3, h4, h5⟩, hd, rfl⟩ := h
  obtain ⟨l', d', ⟨c0', c1', c2', t', k1, k2, k3, k4, k5⟩, kd, rfl⟩ := k
  have s0 : FSame c0 c0' := Like.same (.op (.op (.num sp.y) (.num sq.z)) (.op (.num sp.z) (.num sq.y))) h1 k1
  have s1 : FSame c1 c1' := Like.same (.op (.op (.num sp.z) (.num sq.x)) (.op (.num sp.x) (.num sq.z))) h2 k2
  have s2 : FSame c2 c2' := Like.same (.op (.op (.num sp.x) (.num sq.y)) (.op (.num sp.y) (.num sq.x))) h3 k3
  have st : FSame t t' := Like.same (.op (.op (.op (.num s0) (.num s0)) (.op (.num s1) (.num s1))) (.op (.num s2) (.num s2))) h4 k4
  have sd : FSame d d' := Like.same (.op (.op (.op (.num sp.x) (.num sq.x)) (.op (.num sp.y) (.num sq.y))) (.op (.num sp.z) (.num sq.z))) hd kd
  exact (ang_same2 (h5.same k5 st) sd).symm
/-- how far. -/
def FarIs (a b c d n : Int) : Prop := ∃ px py pz qx qy qz, PointIs a b px py pz ∧ PointIs c d qx qy qz ∧ ApIs px py pz qx qy qz n
theorem far_same {a b c d n n' : Int} (h : FarIs a b c d n) (k : FarIs a b c d n') : n' = n := by
  obtain ⟨_, _, _, _, _, _, p, q, h⟩ := h
  obtain ⟨_, _, _, _, _, _, p', q', k⟩ := k
  exact ap_same (pt_same p p') (pt_same q q') h k
theorem far_swap {a b c d n n' : Int} (h : FarIs a b c d n) (k : FarIs c d a b n') : n' = n := by
  obtain ⟨px, py, pz, qx, qy, qz, p, q, h⟩ := h
  obtain ⟨m, hm⟩ := ap_some qx qy qz px py pz
  rw [← ap_swap h hm]
  exact far_same ⟨_, _, _, _, _, _, q, p, hm⟩ k
theorem far_some (a b c d : Int) : ∃ n, FarIs a b c d n := by
  obtain ⟨_, px, py, pz, _, p⟩ := pt_some a b
  obtain ⟨_, qx, qy, qz, _, q⟩ := pt_some c d
  obtain ⟨n, h⟩ := ap_some px py pz qx qy qz
  exact ⟨n, px, py, pz, qx, qy, qz, p, q, h⟩
theorem ev_closed {e : FE} {r v : Nat} (h : Ev e r) (hv : evl e = v) (hn : (FloatKind.f64.format.read v).isNaN = false) : r = v := by
  rcases h.same (ev_evl e) with k | ⟨_, k⟩
  · exact k.trans hv
  · rw [hv] at k
    unfold Nan at k
    rw [hn] at k
    cases k
theorem q1 : evl (mE (cosV 0) (cosV 0)) = 4607182418800017408 := by decide +kernel
theorem q2 : evl (mE (cosV 0) (sinV 0)) = 0 := by decide +kernel
theorem q3 : sinV 0 = 0 := by decide +kernel
theorem q4 : evl (mE (cosV 0) (cosV 324000000000)) = 9223372036854775808 := by decide +kernel
theorem q5 : evl (mE (cosV 0) (sinV 324000000000)) = 4607182418800017408 := by decide +kernel
theorem q6 : evl (crE 0 0 0 4607182418800017408) = 0 := by decide +kernel
theorem q7 : evl (crE 0 9223372036854775808 4607182418800017408 0) = 9223372036854775808 := by decide +kernel
theorem q8 : evl (crE 4607182418800017408 4607182418800017408 0 9223372036854775808) = 4607182418800017408 := by decide +kernel
theorem q9 : evl (lenE 0 9223372036854775808 4607182418800017408) = 4607182418800017408 := by decide +kernel
theorem q10 : evl (dtE 4607182418800017408 0 0 9223372036854775808 4607182418800017408 0) = 0 := by decide +kernel
theorem q11 : angV 4607182418800017408 0 = 324000000000 := by decide +kernel
theorem n0 : (FloatKind.f64.format.read 0).isNaN = false := by decide +kernel
theorem n1 : (FloatKind.f64.format.read 4607182418800017408).isNaN = false := by decide +kernel
theorem n2 : (FloatKind.f64.format.read 9223372036854775808).isNaN = false := by decide +kernel
theorem pt_closed {a b : Int} {x y z X Y Z : Nat} (p : PointIs a b x y z) (h1 : evl (mE (cosV b) (cosV a)) = X) (m1 : (FloatKind.f64.format.read X).isNaN = false) (h2 : evl (mE (cosV b) (sinV a)) = Y) (m2 : (FloatKind.f64.format.read Y).isNaN = false) (h3 : sinV b = Z) : x = X ∧ y = Y ∧ z = Z :=
  ⟨ev_closed (ev_m p.x) h1 m1, ev_closed (ev_m p.y) h2 m2, p.z.trans h3⟩
theorem ap_closed {px py pz qx qy qz c0 c1 c2 t l d : Nat} {n N : Int} (h : ApIs px py pz qx qy qz n) (h0 : evl (crE py qz pz qy) = c0) (m0 : (FloatKind.f64.format.read c0).isNaN = false) (h1 : evl (crE pz qx px qz) = c1) (m1 : (FloatKind.f64.format.read c1).isNaN = false)
    (h2 : evl (crE px qy py qx) = c2) (m2 : (FloatKind.f64.format.read c2).isNaN = false) (h3 : evl (lenE c0 c1 c2) = t) (m3 : (FloatKind.f64.format.read t).isNaN = false) (h4 : FloatKind.f64.format.sqrt t = some l) (h5 : evl (dtE px py pz qx qy qz) = d) (m5 : (FloatKind.f64.format.read d).isNaN = false) (h6 : angV l d = N) : n = N := by
  obtain ⟨l', d', ⟨c0', c1', c2', t', k1, k2, k3, k4, k5⟩, hd, rfl⟩ := h
  obtain rfl := ev_closed k1 h0 m0
  obtain rfl := ev_closed k2 h1 m1
  obtain rfl := ev_closed k3 h2 m2
  obtain rfl := ev_closed k4 h3 m3
  obtain rfl := ev_closed hd h5 m5
  unfold FSq at k5
  rw [h4] at k5
  simp only at k5
  rw [k5]
  exact h6
theorem q12 : FloatKind.f64.format.sqrt 4607182418800017408 = some 4607182418800017408 := by decide +kernel
theorem far_quarter {n : Int} (h : FarIs 0 0 324000000000 0 n) : n = 324000000000 := by
  obtain ⟨px, py, pz, qx, qy, qz, p, q, h⟩ := h
  obtain ⟨e1, e2, e3⟩ := pt_closed p q1 n1 q2 n0 q3
  obtain ⟨e4, e5, e6⟩ := pt_closed q q4 n2 q5 n1 q3
  rw [e1, e2, e3, e4, e5, e6] at h
  exact ap_closed h q6 n0 q7 n2 q8 n1 q9 n1 q12 q10 n0 q11
end Go.Proofs.Ytfamndjiaebmbae
