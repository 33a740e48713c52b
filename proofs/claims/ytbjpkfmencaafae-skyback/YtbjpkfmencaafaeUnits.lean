/-
  Units: their numbers' squares add up to nearly 1. No program here.
-/
import Derived.Test.YtbjpkfmencaafaeDots
namespace Go.Proofs.Ytbjpkfmencaafae
open Go

theorem ab_sq (c : Rat) : ab c * ab c = c * c := by unfold ab; split <;> grind
theorem sq_err {q c k : Rat} (h : Near q c (k * ab c + tau)) (k0 : 0 ≤ k) (k1 : k ≤ 1 / 1000) (c1 : ab c ≤ 2) : Near (q * q) (c * c) (201 / 100 * (k * (c * c)) + 10 * tau) := by
  have l := le_ab c
  have n := prod_near h h l.1 l.2 l.1 l.2
  have hx := ab_nonneg c
  have e := ab_sq c
  have ht := tau_pos
  have hts : tau ≤ 1 / 1000 := by decide +kernel
  obtain ⟨n1, n2⟩ := n
  rw [← e] at n1 n2 ⊢
  generalize ab c = x at *
  have xx : 0 ≤ x * x := Rat.mul_nonneg hx hx
  have f1 : tau * x ≤ tau * 2 := Rat.mul_le_mul_of_nonneg_left c1 (Rat.le_of_lt ht)
  have f2 : tau * tau ≤ tau * (1 / 1000) := Rat.mul_le_mul_of_nonneg_left hts (Rat.le_of_lt ht)
  have f3 : k * (k * (x * x)) ≤ 1 / 1000 * (k * (x * x)) := Rat.mul_le_mul_of_nonneg_right k1 (Rat.mul_nonneg k0 xx)
  have f4 : k * (tau * x) ≤ 1 / 1000 * (tau * x) := Rat.mul_le_mul_of_nonneg_right k1 (Rat.mul_nonneg (Rat.le_of_lt ht) hx)
  have f5 : 0 ≤ tau * x := Rat.mul_nonneg (Rat.le_of_lt ht) hx
  have f6 : 0 ≤ k * (x * x) := Rat.mul_nonneg k0 xx
  have ex : (k * x + tau) * x + x * (k * x + tau) + (k * x + tau) * (k * x + tau) = 2 * (k * (x * x)) + 2 * (tau * x) + k * (k * (x * x)) + 2 * (k * (tau * x)) + tau * tau := by grind
  rw [ex] at n1 n2
  generalize k * (k * (x * x)) = z1 at *
  generalize k * (tau * x) = z2 at *
  generalize k * (x * x) = z3 at *
  generalize tau * x = z4 at *
  generalize tau * tau = z5 at *
  generalize x * x = z6 at *
  constructor <;> grind
/-- a number that is divided by another. -/
theorem part_gen {x y r : Nat} {a T : Rat} (hx : Is x a) (hy : Is y T) (T0 : 0 < T) (h : a * a ≤ 2 * (T * T)) (hr : FOp .quo x y r) : ∃ q, Is r q ∧ Near q (a / T) (8 / 45035996273704960 * ab (a / T) + tau) ∧ ab (a / T) ≤ 2 ∧ a / T * T = a := by
  have hT : T ≠ 0 := by grind
  have e : a / T * T = a := Rat.div_mul_cancel hT
  obtain ⟨c, hc⟩ : ∃ c, a / T = c := ⟨_, rfl⟩
  rw [hc] at e ⊢
  have hTT := Rat.mul_pos T0 T0
  have h2 : ab c ≤ 2 := by
    rcases le_or (ab c) 2 with h' | h'
    · exact h'
    · have e2 := ab_sq c
      have hx := ab_nonneg c
      have g1 := Rat.mul_le_mul_of_nonneg_right h' hx
      have g2 : 4 ≤ c * c := by grind
      have g3 := Rat.mul_le_mul_of_nonneg_right g2 (Rat.le_of_lt hTT)
      have g4 : c * c * (T * T) = a * a := by rw [← e]; grind
      grind
  have l := le_ab c
  have hbig : (2 : Rat) < p2 990 := by decide +kernel
  obtain ⟨q, hq, n1, n2⟩ := quo_le (A := ab c) hx hy hT (by rw [hc]; exact l.1) (by rw [hc]; exact l.2) (by grind) hr
  rw [hc] at n1 n2
  exact ⟨q, hq, ⟨by grind, by grind⟩, h2, e⟩
theorem over {V W T k : Rat} (T0 : 0 < T) (h : W * (T * T) = V) (n : Near (T * T) V (k * V)) : 1 ≤ W + k * W ∧ W ≤ 1 + k * W := by
  have hTT := Rat.mul_pos T0 T0
  obtain ⟨n1, n2⟩ := n
  subst h
  have g1 : 1 * (T * T) ≤ (W + k * W) * (T * T) := by grind
  have g2 : W * (T * T) ≤ (1 + k * W) * (T * T) := by grind
  exact ⟨Rat.le_of_mul_le_mul_right g1 hTT, Rat.le_of_mul_le_mul_right g2 hTT⟩
theorem unit_gen {x0 x1 x2 x3 t r q0 q1 q2 q3 : Nat} {a0 a1 a2 a3 V : Rat} (i0 : Is x0 a0) (i1 : Is x1 a1) (i2 : Is x2 a2) (i3 : Is x3 a3) (hV : a0 * a0 + a1 * a1 + a2 * a2 + a3 * a3 = V) (h1 : p2 (-900) ≤ V) (h2 : V ≤ p2 900) (ht : Ev (dot4E x0 x1 x2 x3) t)
    (hr : ∀ v, FloatKind.f64.format.sqrt t = some v → r = v) (k0 : FOp .quo x0 r q0) (k1 : FOp .quo x1 r q1) (k2 : FOp .quo x2 r q2) (k3 : FOp .quo x3 r q3) :
    ∃ b0 b1 b2 b3, Is q0 b0 ∧ Is q1 b1 ∧ Is q2 b2 ∧ Is q3 b3 ∧ Near (b0 * b0 + b1 * b1 + b2 * b2 + b3 * b3) 1 (19 / 9007199254740992) := by
  obtain ⟨T, hT, T0, n⟩ := size_gen i0 i1 i2 i3 hV h1 h2 ht hr
  have s0 := sq_nn a0
  have s1 := sq_nn a1
  have s2 := sq_nn a2
  have s3 := sq_nn a3
  have hVp := p2_pos (-900)
  have hV2 : V ≤ 2 * (T * T) := by obtain ⟨_, n2⟩ := n; grind
  obtain ⟨b0, j0, m0, l0, e0⟩ := part_gen i0 hT T0 (by grind) k0
  obtain ⟨b1, j1, m1, l1, e1⟩ := part_gen i1 hT T0 (by grind) k1
  obtain ⟨b2, j2, m2, l2, e2⟩ := part_gen i2 hT T0 (by grind) k2
  obtain ⟨b3, j3, m3, l3, e3⟩ := part_gen i3 hT T0 (by grind) k3
  generalize a0 / T = c0 at *
  generalize a1 / T = c1 at *
  generalize a2 / T = c2 at *
  generalize a3 / T = c3 at *
  obtain ⟨w1, w2⟩ := over (W := c0 * c0 + c1 * c1 + c2 * c2 + c3 * c3) T0 (by rw [← hV, ← e0, ← e1, ← e2, ← e3]; grind) n
  obtain ⟨f0, g0⟩ := sq_err m0 (by decide +kernel) (by decide +kernel) l0
  obtain ⟨f1, g1⟩ := sq_err m1 (by decide +kernel) (by decide +kernel) l1
  obtain ⟨f2, g2⟩ := sq_err m2 (by decide +kernel) (by decide +kernel) l2
  obtain ⟨f3, g3⟩ := sq_err m3 (by decide +kernel) (by decide +kernel) l3
  have hts : 1000000000000000000000 * tau ≤ 1 := by decide +kernel
  refine ⟨b0, b1, b2, b3, j0, j1, j2, j3, ?_⟩
  clear hV e0 e1 e2 e3 m0 m1 m2 m3 n
  generalize c0 * c0 = d0 at *
  generalize c1 * c1 = d1 at *
  generalize c2 * c2 = d2 at *
  generalize c3 * c3 = d3 at *
  constructor <;> grind
theorem axis_gen {x1 x2 x3 t r q1 q2 q3 : Nat} {a1 a2 a3 V : Rat} (i1 : Is x1 a1) (i2 : Is x2 a2) (i3 : Is x3 a3) (hV : a1 * a1 + a2 * a2 + a3 * a3 = V) (h1 : p2 (-900) ≤ V) (h2 : V ≤ p2 900) (ht : Ev (dotE x1 x2 x3 x1 x2 x3) t)
    (hr : ∀ v, FloatKind.f64.format.sqrt t = some v → r = v) (k1 : FOp .quo x1 r q1) (k2 : FOp .quo x2 r q2) (k3 : FOp .quo x3 r q3) :
    ∃ b1 b2 b3, Is q1 b1 ∧ Is q2 b2 ∧ Is q3 b3 ∧ Near (b1 * b1 + b2 * b2 + b3 * b3) 1 (19 / 2 / 9007199254740992) := by
  obtain ⟨T, hT, T0, n⟩ := len_gen i1 i2 i3 hV h1 h2 ht hr
  have s1 := sq_nn a1
  have s2 := sq_nn a2
  have s3 := sq_nn a3
  have hVp := p2_pos (-900)
  have hV2 : V ≤ 2 * (T * T) := by obtain ⟨_, n2⟩ := n; grind
  obtain ⟨b1, j1, m1, l1, e1⟩ := part_gen i1 hT T0 (by grind) k1
  obtain ⟨b2, j2, m2, l2, e2⟩ := part_gen i2 hT T0 (by grind) k2
  obtain ⟨b3, j3, m3, l3, e3⟩ := part_gen i3 hT T0 (by grind) k3
  generalize a1 / T = c1 at *
  generalize a2 / T = c2 at *
  generalize a3 / T = c3 at *
  obtain ⟨w1, w2⟩ := over (W := c1 * c1 + c2 * c2 + c3 * c3) T0 (by rw [← hV, ← e1, ← e2, ← e3]; grind) n
  obtain ⟨f1, g1⟩ := sq_err m1 (by decide +kernel) (by decide +kernel) l1
  obtain ⟨f2, g2⟩ := sq_err m2 (by decide +kernel) (by decide +kernel) l2
  obtain ⟨f3, g3⟩ := sq_err m3 (by decide +kernel) (by decide +kernel) l3
  have hts : 1000000000000000000000 * tau ≤ 1 := by decide +kernel
  refine ⟨b1, b2, b3, j1, j2, j3, ?_⟩
  clear hV e1 e2 e3 m1 m2 m3 n
  generalize c1 * c1 = d1 at *
  generalize c2 * c2 = d2 at *
  generalize c3 * c3 = d3 at *
  constructor <;> grind
theorem turned_gen {s g r : Nat} {S b G : Rat} (is : Is s S) (ib : Is g b) (h1 : S * S ≤ 3 / 2) (h2 : b * b ≤ 3 / 2) (hr : FOp .mul s g r) (hG : S * b = G) : ∃ x, Is r x ∧ Near (x * x) (G * G) (201 / 100 * (1 / 9007199254740992 * (G * G)) + 10 * tau) := by
  have e : ab G * ab G = (S * S) * (b * b) := by rw [ab_sq, ← hG]; grind
  have hs := sq_nn S
  have hb := sq_nn b
  have h3 : (S * S) * (b * b) ≤ 3 / 2 * (3 / 2) := by
    have g1 := Rat.mul_le_mul_of_nonneg_right h1 hb
    have g2 := Rat.mul_le_mul_of_nonneg_left h2 (show (0 : Rat) ≤ 3 / 2 by decide +kernel)
    grind
  have h4 : ab G ≤ 2 := by
    rcases le_or (ab G) 2 with h' | h'
    · exact h'
    · have g1 := Rat.mul_le_mul_of_nonneg_right h' (ab_nonneg G)
      grind
  have l := le_ab G
  have hbig : (2 : Rat) < p2 1000 := by decide +kernel
  obtain ⟨x, hx, n1, n2⟩ := mul_le (A := ab G) is ib (by rw [hG]; exact l.1) (by rw [hG]; exact l.2) (by grind) hr
  rw [hG] at n1 n2
  exact ⟨x, hx, sq_err ⟨by grind, by grind⟩ (by decide +kernel) (by decide +kernel) h4⟩
theorem about_gen {x1 x2 x3 t r q1 q2 q3 s c y1 y2 y3 : Nat} {a1 a2 a3 V S C : Rat} (i1 : Is x1 a1) (i2 : Is x2 a2) (i3 : Is x3 a3) (hV : a1 * a1 + a2 * a2 + a3 * a3 = V) (h1 : p2 (-900) ≤ V) (h2 : V ≤ p2 900) (ht : Ev (dotE x1 x2 x3 x1 x2 x3) t)
    (hr : ∀ v, FloatKind.f64.format.sqrt t = some v → r = v) (k1 : FOp .quo x1 r q1) (k2 : FOp .quo x2 r q2) (k3 : FOp .quo x3 r q3) (is : Is s S) (_ic : Is c C) (hsc : Near (S * S + C * C) 1 (7 / 9007199254740992))
    (m1 : FOp .mul s q1 y1) (m2 : FOp .mul s q2 y2) (m3 : FOp .mul s q3 y3) :
    ∃ b1 b2 b3, Is y1 b1 ∧ Is y2 b2 ∧ Is y3 b3 ∧ Near (C * C + b1 * b1 + b2 * b2 + b3 * b3) 1 (19 / 9007199254740992) := by
  obtain ⟨g1, g2, g3, j1, j2, j3, n1, n2⟩ := axis_gen i1 i2 i3 hV h1 h2 ht hr k1 k2 k3
  have z0 := sq_nn S
  have z4 := sq_nn C
  have z1 := sq_nn g1
  have z2 := sq_nn g2
  have z3 := sq_nn g3
  obtain ⟨o1, o2⟩ := hsc
  obtain ⟨b1, l1, p1, r1⟩ := turned_gen (G := S * g1) is j1 (by grind) (by grind) m1 rfl
  obtain ⟨b2, l2, p2', r2⟩ := turned_gen (G := S * g2) is j2 (by grind) (by grind) m2 rfl
  obtain ⟨b3, l3, p3, r3⟩ := turned_gen (G := S * g3) is j3 (by grind) (by grind) m3 rfl
  have hts : 1000000000000000000000 * tau ≤ 1 := by decide +kernel
  refine ⟨b1, b2, b3, l1, l2, l3, ?_⟩
  have u1 := Rat.mul_le_mul_of_nonneg_left n1 z0
  have u2 := Rat.mul_le_mul_of_nonneg_left n2 z0
  have e1 : S * g1 * (S * g1) = S * S * (g1 * g1) := by grind
  have e2 : S * g2 * (S * g2) = S * S * (g2 * g2) := by grind
  have e3 : S * g3 * (S * g3) = S * S * (g3 * g3) := by grind
  rw [e1] at p1 r1
  rw [e2] at p2' r2
  rw [e3] at p3 r3
  rw [Rat.mul_add, Rat.mul_add, Rat.mul_add] at u1 u2
  generalize S * S * (g1 * g1) = d1 at *
  generalize S * S * (g2 * g2) = d2 at *
  generalize S * S * (g3 * g3) = d3 at *
  constructor <;> grind
end Go.Proofs.Ytbjpkfmencaafae
