/-
  How good a rotation is: what is turned, and turned back. No program here.
-/
import Derived.Test.YtbobnmaeiohnnadGood
namespace Go.Proofs.Ytbobnmaeiohnnad
open Go Go.RowKit

theorem near_one2 {T : Rat} (T0 : 0 < T) (h : Near (T * T) 1 (132 / 9007199254740992)) : Near T 1 (67 / 9007199254740992) := by
  obtain ⟨h1, h2⟩ := h
  constructor
  · rcases lt_or (1 + 67 / 9007199254740992) T with h | h
    · have g := Rat.mul_le_mul_of_nonneg_left (Rat.le_of_lt h) (Rat.le_of_lt T0)
      grind
    · exact h
  · rcases lt_or T (1 - 67 / 9007199254740992) with h | h
    · have g := Rat.mul_le_mul_of_nonneg_left (Rat.le_of_lt h) (Rat.le_of_lt T0)
      grind
    · grind
theorem scaled {N s c d : Rat} (hN : 0 < N) (h : Near s c d) : N * s ≤ N * c + N * d ∧ N * c ≤ N * s + N * d := by
  obtain ⟨h1, h2⟩ := h
  have g1 := Rat.mul_le_mul_of_nonneg_left h1 (Rat.le_of_lt hN)
  have g2 := Rat.mul_le_mul_of_nonneg_left h2 (Rat.le_of_lt hN)
  constructor <;> grind
theorem mat_sq {x0 x1 x2 x3 x4 x5 x6 x7 x8 : Nat} {a1 a2 a3 b1 b2 b3 c1 c2 c3 X Y Z W : Rat} (h : MatIs x0 x1 x2 x3 x4 x5 x6 x7 x8 a1 a2 a3 b1 b2 b3 c1 c2 c3 X Y Z W) :
    Near (a1 * a1 + a2 * a2 + a3 * a3) 1 (105 / 9007199254740992) ∧ Near (b1 * b1 + b2 * b2 + b3 * b3) 1 (105 / 9007199254740992) ∧ Near (c1 * c1 + c2 * c2 + c3 * c3) 1 (105 / 9007199254740992) := by
  have hn := h.m.n
  have r1 := row_len h.m.a hn
  have r2 := row_len h.m.b (by unfold Near at *; grind)
  have r3 := row_len h.m.c (by unfold Near at *; grind)
  unfold Near at *
  refine ⟨by grind, by grind, by grind⟩
/-- a vector N times (c1, c2, c3), turned. -/
theorem turn_is {x0 x1 x2 x3 x4 x5 x6 x7 x8 p q r t0 t1 t2 : Nat} {a1 a2 a3 b1 b2 b3 d1 d2 d3 X Y Z W N c1 c2 c3 : Rat} (h : MatIs x0 x1 x2 x3 x4 x5 x6 x7 x8 a1 a2 a3 b1 b2 b3 d1 d2 d3 X Y Z W)
    (ip : Is p (N * c1)) (iq : Is q (N * c2)) (ir : Is r (N * c3)) (n1 : p2 (-310) ≤ N) (n2 : N ≤ p2 310) (hc : c1 * c1 + c2 * c2 + c3 * c3 ≤ 1001 / 1000)
    (e0 : Ev (dtE x0 x1 x2 p q r) t0) (e1 : Ev (dtE x3 x4 x5 p q r) t1) (e2 : Ev (dtE x6 x7 x8 p q r) t2) :
    ∃ s1 s2 s3, Is t0 (N * s1) ∧ Is t1 (N * s2) ∧ Is t2 (N * s3) ∧
      Near s1 ((1 - 2 * (Y * Y + Z * Z)) * c1 + 2 * (X * Y - W * Z) * c2 + 2 * (X * Z + W * Y) * c3) (116 / 10 / 9007199254740992) ∧
      Near s2 ((1 - 2 * (Z * Z + X * X)) * c2 + 2 * (Y * Z - W * X) * c3 + 2 * (Y * X + W * Z) * c1) (116 / 10 / 9007199254740992) ∧
      Near s3 ((1 - 2 * (X * X + Y * Y)) * c3 + 2 * (Z * X - W * Y) * c1 + 2 * (Z * Y + W * X) * c2) (116 / 10 / 9007199254740992) := by
  obtain ⟨m1, m2, m3⟩ := mat_sq h
  obtain ⟨m1, _⟩ := m1
  obtain ⟨m2, _⟩ := m2
  obtain ⟨m3, _⟩ := m3
  obtain ⟨s1, j1, u1, v1⟩ := turn_gen h.i0 h.i1 h.i2 ip iq ir n1 n2 (by grind) hc e0
  obtain ⟨s2, j2, u2, v2⟩ := turn_gen h.i3 h.i4 h.i5 ip iq ir n1 n2 (by grind) hc e1
  obtain ⟨s3, j3, u3, v3⟩ := turn_gen h.i6 h.i7 h.i8 ip iq ir n1 n2 (by grind) hc e2
  obtain ⟨o1, k1⟩ := row_turn (c1 := c1) (c2 := c2) (c3 := c3) h.m.a hc
  obtain ⟨o2, k2⟩ := row_turn (c1 := c2) (c2 := c3) (c3 := c1) h.m.b (by grind)
  obtain ⟨o3, k3⟩ := row_turn (c1 := c3) (c2 := c1) (c3 := c2) h.m.c (by grind)
  refine ⟨s1, s2, s3, j1, j2, j3, ⟨by grind, by grind⟩, ⟨by grind, by grind⟩, ⟨by grind, by grind⟩⟩
theorem N_range {N V : Rat} (N0 : 0 < N) (n : Near (N * N) V (6 / 9007199254740992 * V)) (h1 : p2 (-600) ≤ V) (h2 : V ≤ 3 * p2 600) : p2 (-310) ≤ N ∧ N ≤ p2 310 := by
  obtain ⟨n1, n2⟩ := n
  have q1 : p2 (-310) * p2 (-310) * 4 ≤ p2 (-600) := by decide +kernel
  have q2 : 12 * p2 600 ≤ p2 310 * p2 310 := by decide +kernel
  have hp := p2_pos (-600)
  have hp6 := p2_pos 600
  constructor
  · rcases lt_or N (p2 (-310)) with h | h
    · have g1 := Rat.mul_le_mul_of_nonneg_left (Rat.le_of_lt h) (Rat.le_of_lt N0)
      have g2 := Rat.mul_le_mul_of_nonneg_right (Rat.le_of_lt h) (Rat.le_of_lt (p2_pos (-310)))
      grind
    · exact h
  · rcases lt_or (p2 310) N with h | h
    · have g1 := Rat.mul_le_mul_of_nonneg_left (Rat.le_of_lt h) (Rat.le_of_lt N0)
      have g2 := Rat.mul_le_mul_of_nonneg_right (Rat.le_of_lt h) (Rat.le_of_lt (p2_pos 310))
      grind
    · exact h
/-- the tests of the length and of the way back, where the vector isn't nought. -/
structure Told (p q r n m l s : Nat) (b0 b1 b2 f0 f1 f2 : Nat) : Prop where
  most : FOp .mul nUnit n m
  ln : FOp .sub l n s
  g0 : FOp .sub b0 p f0
  g1 : FOp .sub b1 q f1
  g2 : FOp .sub b2 r f2
theorem good_some {r0 r1 r2 r3 x0 x1 x2 x3 x4 x5 x6 x7 x8 y0 y1 y2 y3 y4 y5 y6 y7 y8 p q r t0 t1 t2 b0 b1 b2 tn n m tl l s f0 f1 f2 : Nat} {W X Y Z A B C : Rat}
    (h : One4 r0 r1 r2 r3 W X Y Z) (k1 : Made (RowRel r0 r1 r2 r3) 3 x0 x1 x2 x3 x4 x5 x6 x7 x8) (k2 : Made (RowRel r0 (ngB r1) (ngB r2) (ngB r3)) 3 y0 y1 y2 y3 y4 y5 y6 y7 y8)
    (ia : Is p A) (ib : Is q B) (ic : Is r C) (ma : Mild A) (mb : Mild B) (mc : Mild C) (hz : ¬ (A = 0 ∧ B = 0 ∧ C = 0))
    (e0 : Ev (dtE x0 x1 x2 p q r) t0) (e1 : Ev (dtE x3 x4 x5 p q r) t1) (e2 : Ev (dtE x6 x7 x8 p q r) t2) (g0 : Ev (dtE y0 y1 y2 t0 t1 t2) b0) (g1 : Ev (dtE y3 y4 y5 t0 t1 t2) b1) (g2 : Ev (dtE y6 y7 y8 t0 t1 t2) b2)
    (hn : Ev (lenE p q r) tn) (hns : FSq tn n) (hl : Ev (lenE t0 t1 t2) tl) (hls : FSq tl l) (T : Told p q r n m l s b0 b1 b2 f0 f1 f2) : wiB s m = true ∧ wiB f0 m = true ∧ wiB f1 m = true ∧ wiB f2 m = true := by
  have sa := mild_sq ma
  have sb := mild_sq mb
  have sc := mild_sq mc
  have na := sq_nn A
  have nb := sq_nn B
  have nc := sq_nn C
  have hsm : p2 (-900) ≤ p2 (-600) := by decide +kernel
  have hb6 := p2_pos 600
  have hb9 : 4 * p2 600 ≤ p2 900 := by decide +kernel
  have hV : p2 (-600) ≤ A * A + B * B + C * C := by grind
  have hV2 : A * A + B * B + C * C ≤ 3 * p2 600 := by grind
  obtain ⟨N, iN, N0, nN⟩ := len_gen ia ib ic rfl (by grind) (by grind) hn (fsq_of hns)
  obtain ⟨n1, n2⟩ := N_range N0 nN hV hV2
  have hN0 : N ≠ 0 := by grind
  have ea : A / N * N = A := Rat.div_mul_cancel hN0
  have eb : B / N * N = B := Rat.div_mul_cancel hN0
  have ec : C / N * N = C := Rat.div_mul_cancel hN0
  generalize A / N = c1 at *
  generalize B / N = c2 at *
  generalize C / N = c3 at *
  obtain ⟨w1, w2⟩ := over (W := c1 * c1 + c2 * c2 + c3 * c3) N0 (by rw [← ea, ← eb, ← ec]; grind) nN
  have hc : c1 * c1 + c2 * c2 + c3 * c3 ≤ 1001 / 1000 := by
    generalize c1 * c1 + c2 * c2 + c3 * c3 = z at *
    grind
  have ja : Is p (N * c1) := by rw [Rat.mul_comm, ea]; exact ia
  have jb : Is q (N * c2) := by rw [Rat.mul_comm, eb]; exact ib
  have jc : Is r (N * c3) := by rw [Rat.mul_comm, ec]; exact ic
  clear sa sb sc na nb nc hV hV2 nN ia ib ic ma mb mc hz
  obtain ⟨_, _, _, _, _, _, _, _, _, M1⟩ := mat_of h k1
  have h' : One4 r0 (ngB r1) (ngB r2) (ngB r3) W (-X) (-Y) (-Z) := ⟨h.w, neg_is h.x, neg_is h.y, neg_is h.z, by have := h.n; unfold Near at *; grind⟩
  obtain ⟨_, _, _, _, _, _, _, _, _, M2⟩ := mat_of h' k2
  obtain ⟨s1, s2, s3, i1, i2, i3, o1, o2, o3⟩ := turn_is M1 ja jb jc n1 n2 hc e0 e1 e2
  obtain ⟨T1, eT1⟩ : ∃ T1, T1 = (1 - 2 * (Y * Y + Z * Z)) * c1 + 2 * (X * Y - W * Z) * c2 + 2 * (X * Z + W * Y) * c3 := ⟨_, rfl⟩
  obtain ⟨T2, eT2⟩ : ∃ T2, T2 = (1 - 2 * (Z * Z + X * X)) * c2 + 2 * (Y * Z - W * X) * c3 + 2 * (Y * X + W * Z) * c1 := ⟨_, rfl⟩
  obtain ⟨T3, eT3⟩ : ∃ T3, T3 = (1 - 2 * (X * X + Y * Y)) * c3 + 2 * (Z * X - W * Y) * c1 + 2 * (Z * Y + W * X) * c2 := ⟨_, rfl⟩
  rw [← eT1] at o1
  rw [← eT2] at o2
  rw [← eT3] at o3
  obtain ⟨⟨q1, q2⟩, _⟩ := turned_sq h.n hc eT1 eT2 eT3 o1 o2 o3
  have hs : s1 * s1 + s2 * s2 + s3 * s3 ≤ 1001 / 1000 := by
    generalize c1 * c1 + c2 * c2 + c3 * c3 = z at *
    generalize s1 * s1 + s2 * s2 + s3 * s3 = y at *
    grind
  obtain ⟨z1, z2, z3, l1, l2, l3, u1, u2, u3⟩ := turn_is M2 i1 i2 i3 n1 n2 hs g0 g1 g2
  have d1 := undone h.n hc eT1 eT2 eT3 o1 o2 o3 u1
  have d2 := undone (P := Y) (Q := Z) (R := X) (a := c2) (b := c3) (c := c1) (by have := h.n; unfold Near at *; grind) (by grind) eT2 eT3 eT1 o2 o3 o1 u2
  have d3 := undone (P := Z) (Q := X) (R := Y) (a := c3) (b := c1) (c := c2) (by have := h.n; unfold Near at *; grind) (by grind) eT3 eT1 eT2 o3 o1 o2 u3
  have ht0 := tau_pos
  have hts : 1000000000000000000000 * tau ≤ p2 (-310) := by decide +kernel
  have hbig : p2 310 * 4 < p2 1000 := by decide +kernel
  have hp := p2_pos (-310)
  -- the greatest that may be
  obtain ⟨M, iM, M1', M2'⟩ := mul_le (A := 128 / 9007199254740992 * N) nUnit_is iN (by grind) (by grind) (by grind) T.most
  -- the length
  have hLV : N * s1 * (N * s1) + N * s2 * (N * s2) + N * s3 * (N * s3) = (N * N) * (s1 * s1 + s2 * s2 + s3 * s3) := by grind
  have hNN1 : p2 (-310) * p2 (-310) ≤ N * N := by
    have g1 := Rat.mul_le_mul_of_nonneg_left n1 (Rat.le_of_lt N0)
    have g2 := Rat.mul_le_mul_of_nonneg_right n1 (Rat.le_of_lt hp)
    grind
  have hNN2 : N * N ≤ p2 310 * p2 310 := by
    have g1 := Rat.mul_le_mul_of_nonneg_left n2 (Rat.le_of_lt N0)
    have g2 := Rat.mul_le_mul_of_nonneg_right n2 (Rat.le_of_lt (p2_pos 310))
    grind
  have hss : 1 / 2 ≤ s1 * s1 + s2 * s2 + s3 * s3 := by
    generalize c1 * c1 + c2 * c2 + c3 * c3 = z at *
    generalize s1 * s1 + s2 * s2 + s3 * s3 = y at *
    grind
  have b1' : p2 (-900) ≤ (N * N) * (s1 * s1 + s2 * s2 + s3 * s3) := by
    have g := Rat.mul_le_mul_of_nonneg_left hss (show 0 ≤ N * N from Rat.le_of_lt (Rat.mul_pos N0 N0))
    have g3 : p2 (-900) * 2 ≤ p2 (-310) * p2 (-310) := by decide +kernel
    grind
  have b2' : (N * N) * (s1 * s1 + s2 * s2 + s3 * s3) ≤ p2 900 := by
    have g := Rat.mul_le_mul_of_nonneg_left hs (show 0 ≤ N * N from Rat.le_of_lt (Rat.mul_pos N0 N0))
    have g3 : p2 310 * p2 310 * 2 ≤ p2 900 := by decide +kernel
    grind
  obtain ⟨L, iL, L0, L1, L2⟩ := len_gen i1 i2 i3 hLV b1' b2' hl (fsq_of hls)
  have eL : L / N * N = L := Rat.div_mul_cancel hN0
  have l0 : 0 < L / N := by
    rcases lt_or 0 (L / N) with h | h
    · exact h
    · have g := Rat.mul_le_mul_of_nonneg_right h (Rat.le_of_lt N0)
      grind
  generalize L / N = lam at *
  have NN0 := Rat.mul_pos N0 N0
  have nl : Near (lam * lam) 1 (132 / 9007199254740992) := by
    have g1 : (lam * lam) * (N * N) ≤ ((s1 * s1 + s2 * s2 + s3 * s3) + 6 / 9007199254740992 * (s1 * s1 + s2 * s2 + s3 * s3)) * (N * N) := by
      have : (lam * lam) * (N * N) = L * L := by rw [← eL]; grind
      rw [this]
      grind
    have g2 : (s1 * s1 + s2 * s2 + s3 * s3) * (N * N) ≤ (lam * lam + 6 / 9007199254740992 * (s1 * s1 + s2 * s2 + s3 * s3)) * (N * N) := by
      have : (lam * lam) * (N * N) = L * L := by rw [← eL]; grind
      grind
    have g1 := Rat.le_of_mul_le_mul_right g1 NN0
    have g2 := Rat.le_of_mul_le_mul_right g2 NN0
    generalize c1 * c1 + c2 * c2 + c3 * c3 = z at *
    generalize s1 * s1 + s2 * s2 + s3 * s3 = y at *
    generalize lam * lam = x at *
    constructor <;> grind
  have nl := near_one2 l0 nl
  obtain ⟨v1, v2⟩ := scaled N0 nl
  have eL' : N * lam = L := by rw [Rat.mul_comm]; exact eL
  rw [eL'] at v1 v2
  obtain ⟨S, iS, S1, S2⟩ := sub_le (A := 68 / 9007199254740992 * N) iL iN (by grind) (by grind) (by grind) T.ln
  have one : ∀ {bb pp ff : Nat} {z c : Rat}, Is bb (N * z) → Is pp (N * c) → Near z c (109 / 9007199254740992) → FOp .sub bb pp ff → wiB ff m = true := by
    intro bb pp ff z c ib ip hd hf
    obtain ⟨a1, a2⟩ := scaled N0 hd
    obtain ⟨F, iF, F1, F2⟩ := sub_le (A := 110 / 9007199254740992 * N) ib ip (by grind) (by grind) (by grind) hf
    refine wi_of iF iM ?_ ?_ <;> grind
  exact ⟨wi_of iS iM (by grind) (by grind), one l1 ja d1 T.g0, one l2 jb d2 T.g1, one l3 jc d3 T.g2⟩
theorem dt_zero {a b c x y z t : Nat} {A B C : Rat} (ia : Is a A) (ib : Is b B) (ic : Is c C) (ix : Is x 0) (iy : Is y 0) (iz : Is z 0) (h : Ev (dtE a b c x y z) t) : Is t 0 := by
  cases h with | op h1 h2 o1 =>
  cases h1 with | op h3 h4 o2 =>
  cases h3 with | op a1 a2 o4 =>
  cases h4 with | op a3 a4 o5 =>
  cases h2 with | op a5 a6 o6 =>
  cases a1; cases a2; cases a3; cases a4; cases a5; cases a6
  exact add_zero2 (add_zero2 (mul_zero_r ia ix o4) (mul_zero_r ib iy o5) o2) (mul_zero_r ic iz o6) o1
theorem good_all {r0 r1 r2 r3 x0 x1 x2 x3 x4 x5 x6 x7 x8 y0 y1 y2 y3 y4 y5 y6 y7 y8 p q r t0 t1 t2 b0 b1 b2 tn n m tl l s f0 f1 f2 : Nat} {W X Y Z A B C : Rat}
    (h : One4 r0 r1 r2 r3 W X Y Z) (k1 : Made (RowRel r0 r1 r2 r3) 3 x0 x1 x2 x3 x4 x5 x6 x7 x8) (k2 : Made (RowRel r0 (ngB r1) (ngB r2) (ngB r3)) 3 y0 y1 y2 y3 y4 y5 y6 y7 y8)
    (ia : Is p A) (ib : Is q B) (ic : Is r C) (ma : Mild A) (mb : Mild B) (mc : Mild C)
    (e0 : Ev (dtE x0 x1 x2 p q r) t0) (e1 : Ev (dtE x3 x4 x5 p q r) t1) (e2 : Ev (dtE x6 x7 x8 p q r) t2) (g0 : Ev (dtE y0 y1 y2 t0 t1 t2) b0) (g1 : Ev (dtE y3 y4 y5 t0 t1 t2) b1) (g2 : Ev (dtE y6 y7 y8 t0 t1 t2) b2)
    (hn : Ev (lenE p q r) tn) (hns : FSq tn n) (hl : Ev (lenE t0 t1 t2) tl) (hls : FSq tl l) (T : Told p q r n m l s b0 b1 b2 f0 f1 f2) : wiB s m = true ∧ wiB f0 m = true ∧ wiB f1 m = true ∧ wiB f2 m = true := by
  by_cases hz : A = 0 ∧ B = 0 ∧ C = 0
  · obtain ⟨rfl, rfl, rfl⟩ := hz
    obtain ⟨_, _, _, _, _, _, _, _, _, M1⟩ := mat_of h k1
    have h' : One4 r0 (ngB r1) (ngB r2) (ngB r3) W (-X) (-Y) (-Z) := ⟨h.w, neg_is h.x, neg_is h.y, neg_is h.z, by have := h.n; unfold Near at *; grind⟩
    obtain ⟨_, _, _, _, _, _, _, _, _, M2⟩ := mat_of h' k2
    have i0 := dt_zero M1.i0 M1.i1 M1.i2 ia ib ic e0
    have i1 := dt_zero M1.i3 M1.i4 M1.i5 ia ib ic e1
    have i2 := dt_zero M1.i6 M1.i7 M1.i8 ia ib ic e2
    have j0 := dt_zero M2.i0 M2.i1 M2.i2 i0 i1 i2 g0
    have j1 := dt_zero M2.i3 M2.i4 M2.i5 i0 i1 i2 g1
    have j2 := dt_zero M2.i6 M2.i7 M2.i8 i0 i1 i2 g2
    have jn := (sq_zero (dt_zero ia ib ic ia ib ic hn) hns).1
    have jl := (sq_zero (dt_zero i0 i1 i2 i0 i1 i2 hl) hls).1
    have jm := mul_zero_r nUnit_is jn T.most
    have z : (0 : Rat) ≤ 0 := Rat.le_refl
    have z' : -(0 : Rat) ≤ 0 := by decide +kernel
    exact ⟨wi_of (sub_zero2 jl jn T.ln) jm z z', wi_of (sub_zero2 j0 ia T.g0) jm z z', wi_of (sub_zero2 j1 ib T.g1) jm z z', wi_of (sub_zero2 j2 ic T.g2) jm z z'⟩
  · exact good_some h k1 k2 ia ib ic ma mb mc hz e0 e1 e2 g0 g1 g2 hn hns hl hls T
end Go.Proofs.Ytbobnmaeiohnnad
