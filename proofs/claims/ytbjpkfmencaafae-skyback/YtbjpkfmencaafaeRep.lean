/-
  Two whole angles of a quadrant: their reckoned points turn one way.
-/
import Derived.Test.YtbjpkfmencaafaePointX
namespace Go.Proofs.Ytbjpkfmencaafae
open Go

/-- S and C are the sine and the cosine of t, a whole angle up to a quarter, as they are reckoned. -/
def Rep (t : Int) (S C : Rat) : Prop := ∃ X, 0 ≤ X ∧ X ≤ 7855 / 10000 ∧
  ((t ≤ 162000000000 ∧ Near X ((t : Rat) * rho) xerr ∧ Near S (fS X) Ept ∧ Near C (fC X) Ept) ∨
   (162000000000 ≤ t ∧ Near X (((324000000000 - t : Int) : Rat) * rho) xerr ∧ Near S (fC X) Ept ∧ Near C (fS X) Ept))
theorem int_step {a b : Int} (h : a < b) : (a : Rat) * rho + rho ≤ (b : Rat) * rho := by
  have h1 : ((a + 1 : Int) : Rat) ≤ (b : Rat) := Rat.intCast_le_intCast.2 h
  have h2 := Rat.mul_le_mul_of_nonneg_right h1 x_fits.2.2.1
  rw [Rat.intCast_add] at h2
  have e : ((1 : Int) : Rat) = 1 := rfl
  rw [e] at h2
  grind
theorem int_mono {a b : Int} (h : a ≤ b) : (a : Rat) * rho ≤ (b : Rat) * rho :=
  Rat.mul_le_mul_of_nonneg_right (Rat.intCast_le_intCast.2 h) x_fits.2.2.1
theorem gap_fits : 15 / 10000000000000 ≤ 4 / 10 * rho - 2 * (Ept * 1 + 1 * Ept + Ept * Ept) ∧ 15 / 10000000000000 ≤ 42 / 100 * (rho - 2 * xerr) - 2 * (Ept * 1 + 1 * Ept + Ept * Ept) ∧ 0 ≤ rho - 2 * xerr := by decide +kernel
theorem rep_gap {t1 t2 : Int} {S1 C1 S2 C2 : Rat} (h1 : Rep t1 S1 C1) (h2 : Rep t2 S2 C2) (h : t1 < t2) : 15 / 10000000000000 ≤ S2 * C1 - C2 * S1 := by
  obtain ⟨X1, a0, a1, ha⟩ := h1
  obtain ⟨X2, b0, b1, hb⟩ := h2
  obtain ⟨f1, f2, f3⟩ := gap_fits
  obtain ⟨k1, k2, k3, _, _⟩ := cross_end
  have s1 := fS_range a0 a1
  have c1 := fC_range a0 a1
  have s2 := fS_range b0 b1
  have c2 := fC_range b0 b1
  rcases ha with ⟨t1E, n1, nS1, nC1⟩ | ⟨t1E, n1, nS1, nC1⟩ <;> rcases hb with ⟨t2E, n2, nS2, nC2⟩ | ⟨t2E, n2, nS2, nC2⟩
  · have hst := int_step h
    obtain ⟨u1, u2⟩ := n1
    obtain ⟨v1, v2⟩ := n2
    have g := gap_same a0 (show X1 ≤ X2 by grind) b1
    have p := prod_near nS2 nC1 (U := 1) (V := 1) s2.2 (by grind) c1.2 (by grind)
    have q := prod_near nC2 nS1 (U := 1) (V := 1) c2.2 (by grind) s1.2 (by grind)
    obtain ⟨p1, p2'⟩ := p
    obtain ⟨q1, q2⟩ := q
    grind
  · have p := prod_near nS2 nC1 (U := 1) (V := 1) c2.2 (by grind) c1.2 (by grind)
    have q := prod_near nC2 nS1 (U := 1) (V := 1) s2.2 (by grind) s1.2 (by grind)
    obtain ⟨p1, p2'⟩ := p
    obtain ⟨q1, q2⟩ := q
    obtain ⟨u1, u2⟩ := n1
    obtain ⟨v1, v2⟩ := n2
    have e1 : ((161999999999 : Int) : Rat) = 161999999999 := rfl
    have e2 : ((162000000000 : Int) : Rat) = 162000000000 := rfl
    rcases (show t1 ≤ 161999999999 ∨ 324000000000 - t2 ≤ 161999999999 by omega) with hh | hh
    · have m1 := int_mono hh
      have m2 := int_mono (show 324000000000 - t2 ≤ 162000000000 by omega)
      rw [e1] at m1
      rw [e2] at m2
      have g := gap_cross a0 (show X1 ≤ xA by unfold xA; grind) k1 b0 (show X2 ≤ xB by unfold xB; grind) k2
      grind
    · have m1 := int_mono hh
      have m2 := int_mono t1E
      rw [e1] at m1
      rw [e2] at m2
      have g := gap_cross b0 (show X2 ≤ xA by unfold xA; grind) k1 a0 (show X1 ≤ xB by unfold xB; grind) k2
      grind
  · omega
  · have hst := int_step (show 324000000000 - t2 < 324000000000 - t1 by omega)
    obtain ⟨u1, u2⟩ := n1
    obtain ⟨v1, v2⟩ := n2
    have g := gap_same b0 (show X2 ≤ X1 by grind) a1
    have p := prod_near nS2 nC1 (U := 1) (V := 1) c2.2 (by grind) s1.2 (by grind)
    have q := prod_near nC2 nS1 (U := 1) (V := 1) s2.2 (by grind) c1.2 (by grind)
    obtain ⟨p1, p2'⟩ := p
    obtain ⟨q1, q2⟩ := q
    grind
end Go.Proofs.Ytbjpkfmencaafae
