/-
  Sums of products, lengths, units: how far they lie. No program here.
-/
import Derived.Test.YtbjpkfmencaafafDoorGen
namespace Go.Proofs.YtbjpkfmencaafafDoor
open Go

theorem sq_nn (a : Rat) : 0 ≤ a * a := by
  rcases le_or 0 a with h | h
  · exact Rat.mul_nonneg h h
  · have := Rat.mul_nonneg (show 0 ≤ -a by grind) (show 0 ≤ -a by grind)
    grind
def tau : Rat := p2 (-1054)
theorem tau_pos : 0 < tau := p2_pos _
theorem tau_small : 1000 * tau ≤ p2 (-1000) := by decide +kernel
theorem u_is : p2 (-53) = 1 / 9007199254740992 := by decide +kernel
theorem ab_of {v A : Rat} (h1 : v ≤ A) (h2 : -A ≤ v) : ab v ≤ A ∧ 0 ≤ ab v := ⟨ab_le h1 h2, ab_nonneg v⟩
theorem Rd.le {t v A : Rat} (h : Rd t v) (h1 : v ≤ A) (h2 : -A ≤ v) : Near t v (A / 9007199254740992 + tau) := by
  unfold Rd at h
  rw [u_is] at h
  have := ab_le h1 h2
  have e : p2 (-1054) = tau := rfl
  rw [e] at h
  obtain ⟨⟨h3, h4⟩, _⟩ := h
  constructor <;> grind
theorem mul_le {x y r : Nat} {a b A : Rat} (hx : Is x a) (hy : Is y b) (h1 : a * b ≤ A) (h2 : -A ≤ a * b) (hA : A < p2 1000) (hr : FOp .mul x y r) : ∃ t, Is r t ∧ Near t (a * b) (A / 9007199254740992 + tau) := by
  obtain ⟨t, ht, k⟩ := mul_gen hx hy (by have := ab_le h1 h2; grind) hr
  exact ⟨t, ht, k.le h1 h2⟩
theorem add_le {x y r : Nat} {a b A : Rat} (hx : Is x a) (hy : Is y b) (h1 : a + b ≤ A) (h2 : -A ≤ a + b) (hA : A < p2 1000) (hr : FOp .add x y r) : ∃ t, Is r t ∧ Near t (a + b) (A / 9007199254740992 + tau) := by
  obtain ⟨t, ht, k⟩ := add_gen hx hy (by have := ab_le h1 h2; grind) hr
  exact ⟨t, ht, k.le h1 h2⟩
theorem sub_le {x y r : Nat} {a b A : Rat} (hx : Is x a) (hy : Is y b) (h1 : a - b ≤ A) (h2 : -A ≤ a - b) (hA : A < p2 1000) (hr : FOp .sub x y r) : ∃ t, Is r t ∧ Near t (a - b) (A / 9007199254740992 + tau) := by
  obtain ⟨t, ht, k⟩ := sub_gen hx hy (by have := ab_le h1 h2; grind) hr
  exact ⟨t, ht, k.le h1 h2⟩
theorem quo_le {x y r : Nat} {a b A : Rat} (hx : Is x a) (hy : Is y b) (hb : b ≠ 0) (h1 : a / b ≤ A) (h2 : -A ≤ a / b) (hA : A < p2 990) (hr : FOp .quo x y r) : ∃ t, Is r t ∧ Near t (a / b) (8 / 5 * (A / 9007199254740992) + tau) := by
  obtain ⟨t, ht, k1, k2⟩ := quo_gen hx hy hb (by have := ab_le h1 h2; grind) hr
  have := ab_le h1 h2
  rw [u_is] at k1 k2
  have e : p2 (-1054) = tau := rfl
  rw [e] at k1 k2
  exact ⟨t, ht, by grind, by grind⟩
def dotE (x1 x2 x3 y1 y2 y3 : Nat) : FE := .op .add (.op .add (.op .mul (.num x1) (.num y1)) (.op .mul (.num x2) (.num y2))) (.op .mul (.num x3) (.num y3))
def dot4E (x0 x1 x2 x3 : Nat) : FE := .op .add (.op .add (.op .add (.op .mul (.num x0) (.num x0)) (.op .mul (.num x1) (.num x1))) (.op .mul (.num x2) (.num x2))) (.op .mul (.num x3) (.num x3))
theorem dot_gen {x1 x2 x3 y1 y2 y3 r : Nat} {a1 a2 a3 b1 b2 b3 P1 P2 P3 : Rat} (i1 : Is x1 a1) (i2 : Is x2 a2) (i3 : Is x3 a3) (j1 : Is y1 b1) (j2 : Is y2 b2) (j3 : Is y3 b3)
    (p1 : a1 * b1 ≤ P1) (m1 : -P1 ≤ a1 * b1) (p2' : a2 * b2 ≤ P2) (m2 : -P2 ≤ a2 * b2) (p3 : a3 * b3 ≤ P3) (m3 : -P3 ≤ a3 * b3) (hP : P1 + P2 + P3 ≤ p2 900) (hr : Ev (dotE x1 x2 x3 y1 y2 y3) r) :
    ∃ t, Is r t ∧ Near t (a1 * b1 + a2 * b2 + a3 * b3) (31 / 10 * ((P1 + P2 + P3) / 9007199254740992) + 10 * tau) := by
  unfold dotE at hr
  cases hr with | op ha hb hr =>
  cases ha with | op hc hd he =>
  cases hb with | op hf hg hh =>
  cases hc with | op hi hj hk =>
  cases hd with | op hl hm hn =>
  cases hf; cases hg; cases hi; cases hj; cases hl; cases hm
  have hbig : p2 900 * 2 + 1 < p2 1000 := by decide +kernel
  have hone : (1 : Rat) < p2 900 := by decide +kernel
  have ht := tau_pos
  have hts : 1000 * tau < 1 := by decide +kernel
  obtain ⟨f1, g1, q1, r1⟩ := mul_le i1 j1 p1 m1 (by grind) hk
  obtain ⟨f2, g2, q2, r2⟩ := mul_le i2 j2 p2' m2 (by grind) hn
  obtain ⟨f3, g3, q3, r3⟩ := mul_le i3 j3 p3 m3 (by grind) hh
  generalize a1 * b1 = c1 at *
  generalize a2 * b2 = c2 at *
  generalize a3 * b3 = c3 at *
  obtain ⟨f4, g4, q4, r4⟩ := add_le (A := (P1 + P2) + (P1 + P2) / 9007199254740992 + 2 * tau) g1 g2 (by grind) (by grind) (by grind) he
  obtain ⟨f5, g5, q5, r5⟩ := add_le (A := (P1 + P2 + P3) + 3 * (P1 + P2 + P3) / 9007199254740992 + 5 * tau) g4 g3 (by grind) (by grind) (by grind) hr
  exact ⟨f5, g5, by grind, by grind⟩
theorem dot4_gen {x0 x1 x2 x3 r : Nat} {a0 a1 a2 a3 : Rat} (i0 : Is x0 a0) (i1 : Is x1 a1) (i2 : Is x2 a2) (i3 : Is x3 a3) (hP : a0 * a0 + a1 * a1 + a2 * a2 + a3 * a3 ≤ p2 900) (hr : Ev (dot4E x0 x1 x2 x3) r) :
    ∃ t, Is r t ∧ Near t (a0 * a0 + a1 * a1 + a2 * a2 + a3 * a3) (42 / 10 * ((a0 * a0 + a1 * a1 + a2 * a2 + a3 * a3) / 9007199254740992) + 20 * tau) := by
  unfold dot4E at hr
  cases hr with | op hz ha hr =>
  cases ha with | op hi hj hk =>
  cases hi; cases hj
  have hbig : p2 900 * 2 + 1 < p2 1000 := by decide +kernel
  have hone : (1 : Rat) < p2 900 := by decide +kernel
  have ht := tau_pos
  have hts : 1000 * tau < 1 := by decide +kernel
  have s0 := sq_nn a0
  have s1 := sq_nn a1
  have s2 := sq_nn a2
  have s3 := sq_nn a3
  obtain ⟨f3, g3, q3, r3⟩ := mul_le (A := a3 * a3) i3 i3 (by grind) (by grind) (by grind) hk
  obtain ⟨f4, g4, q4, r4⟩ := dot_gen (P1 := a0 * a0) (P2 := a1 * a1) (P3 := a2 * a2) i0 i1 i2 i0 i1 i2 (by grind) (by grind) (by grind) (by grind) (by grind) (by grind) (by grind) hz
  generalize a0 * a0 = c0 at *
  generalize a1 * a1 = c1 at *
  generalize a2 * a2 = c2 at *
  generalize a3 * a3 = c3 at *
  obtain ⟨f5, g5, q5, r5⟩ := add_le (A := (c0 + c1 + c2 + c3) + 4 * ((c0 + c1 + c2 + c3) / 9007199254740992) + 15 * tau) g4 g3 (by grind) (by grind) (by grind) hr
  exact ⟨f5, g5, by grind, by grind⟩
/-- A length: its square. -/
theorem len_gen {x1 x2 x3 t r : Nat} {a1 a2 a3 V : Rat} (i1 : Is x1 a1) (i2 : Is x2 a2) (i3 : Is x3 a3) (hV : a1 * a1 + a2 * a2 + a3 * a3 = V) (h1 : p2 (-900) ≤ V) (h2 : V ≤ p2 900) (ht : Ev (dotE x1 x2 x3 x1 x2 x3) t)
    (hr : ∀ v, FloatKind.f64.format.sqrt t = some v → r = v) : ∃ T, Is r T ∧ 0 < T ∧ Near (T * T) V (6 / 9007199254740992 * V) := by
  have s1 := sq_nn a1
  have s2 := sq_nn a2
  have s3 := sq_nn a3
  have ht0 := tau_pos
  have hts : tau * 1000000000000000000000 ≤ p2 (-900) := by decide +kernel
  have hb1 : p2 (-1000) * 2 < p2 (-900) := by decide +kernel
  have hb2 : p2 900 * 2 < p2 990 := by decide +kernel
  have hpos := p2_pos (-1000)
  obtain ⟨f, g, q, k⟩ := dot_gen (P1 := a1 * a1) (P2 := a2 * a2) (P3 := a3 * a3) i1 i2 i3 i1 i2 i3 (by grind) (by grind) (by grind) (by grind) (by grind) (by grind) (by grind) ht
  rw [hV] at q k
  have hf1 : p2 (-1000) ≤ f := by grind
  obtain ⟨v, hv⟩ : ∃ v, FloatKind.f64.format.sqrt t = some v := by
    obtain ⟨s, m, i, e1, e2⟩ := is_number g
    unfold Ieee.Format.sqrt
    rw [e1]
    show ∃ v, Option.map _ (if m = 0 then _ else _) = some v
    split
    · exact ⟨_, rfl⟩
    · cases s
      · exact ⟨_, rfl⟩
      · exfalso
        have hnn : 0 ≤ (m : Rat) * p2 i := Rat.mul_nonneg Rat.natCast_nonneg (Rat.le_of_lt (p2_pos _))
        have e2 : f = -((m : Rat) * p2 i) := e2
        grind
  obtain rfl := hr v hv
  obtain ⟨T, hT, T0, w1, w2⟩ := sqrt_gen g hf1 (by grind) hv
  rw [u_is] at w1 w2
  exact ⟨T, hT, T0, by grind, by grind⟩
theorem size_gen {x0 x1 x2 x3 t r : Nat} {a0 a1 a2 a3 V : Rat} (i0 : Is x0 a0) (i1 : Is x1 a1) (i2 : Is x2 a2) (i3 : Is x3 a3) (hV : a0 * a0 + a1 * a1 + a2 * a2 + a3 * a3 = V) (h1 : p2 (-900) ≤ V) (h2 : V ≤ p2 900) (ht : Ev (dot4E x0 x1 x2 x3) t)
    (hr : ∀ v, FloatKind.f64.format.sqrt t = some v → r = v) : ∃ T, Is r T ∧ 0 < T ∧ Near (T * T) V (7 / 9007199254740992 * V) := by
  have ht0 := tau_pos
  have hts : tau * 1000000000000000000000 ≤ p2 (-900) := by decide +kernel
  have hb1 : p2 (-1000) * 2 < p2 (-900) := by decide +kernel
  have hb2 : p2 900 * 2 < p2 990 := by decide +kernel
  have hpos := p2_pos (-1000)
  obtain ⟨f, g, q, k⟩ := dot4_gen i0 i1 i2 i3 (by grind) ht
  rw [hV] at q k
  have hf1 : p2 (-1000) ≤ f := by grind
  obtain ⟨v, hv⟩ : ∃ v, FloatKind.f64.format.sqrt t = some v := by
    obtain ⟨s, m, i, e1, e2⟩ := is_number g
    unfold Ieee.Format.sqrt
    rw [e1]
    show ∃ v, Option.map _ (if m = 0 then _ else _) = some v
    split
    · exact ⟨_, rfl⟩
    · cases s
      · exact ⟨_, rfl⟩
      · exfalso
        have hnn : 0 ≤ (m : Rat) * p2 i := Rat.mul_nonneg Rat.natCast_nonneg (Rat.le_of_lt (p2_pos _))
        have e2 : f = -((m : Rat) * p2 i) := e2
        grind
  obtain rfl := hr v hv
  obtain ⟨T, hT, T0, w1, w2⟩ := sqrt_gen g hf1 (by grind) hv
  rw [u_is] at w1 w2
  exact ⟨T, hT, T0, by grind, by grind⟩
end Go.Proofs.YtbjpkfmencaafafDoor
