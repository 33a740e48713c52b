/-
  Products, by their relative errors.
-/
import Derived.Test.YtngdemhhcablmakDoorBndA
namespace Go.Proofs.YtngdemhhcablmakDoor
open Go

/-- the size. -/
def ab (v : Rat) : Rat := if 0 ≤ v then v else -v
theorem ab_nonneg (v : Rat) : 0 ≤ ab v := by unfold ab; split <;> grind
theorem ab_le {v b : Rat} (h1 : v ≤ b) (h2 : -b ≤ v) : ab v ≤ b := by unfold ab; split <;> grind
theorem le_ab (v : Rat) : v ≤ ab v ∧ -ab v ≤ v := by unfold ab; split <;> grind
theorem ab_sgn (s : Bool) (v : Rat) (h : 0 ≤ v) : ab (sgn s v) = v := by
  cases s
  · show ab v = v; unfold ab; rw [if_pos h]
  · show ab (-v) = v; unfold ab; split <;> grind
/-- A number's rounding, by its size. -/
theorem round_rel (s : Bool) (m : Nat) (i : Int) (h1 : m = 0 ∨ (p2 (-1000) ≤ (m : Rat) * p2 i ∧ (m : Rat) * p2 i < p2 1000)) :
    ∃ v, Is (FloatKind.f64.format.nearest s m i) v ∧ Near v (sgn s ((m : Rat) * p2 i)) (p2 (-53) * ((m : Rat) * p2 i)) := by
  rcases h1 with rfl | ⟨h1, h2⟩
  · refine ⟨sgn s (((0 : Nat) : Rat) * p2 (-1074 + (0 : Nat))), ?_, ?_⟩
    · unfold Ieee.Format.nearest
      rw [if_pos rfl]
      exact rung_is s 0 0 (by omega) (.inl rfl) (by omega)
    · have e : ((0 : Nat) : Rat) = 0 := rfl
      rw [e, Rat.zero_mul, Rat.zero_mul, Rat.mul_zero]
      exact near_zero _ Rat.le_refl
  · have h0 : m ≠ 0 := by
      rintro rfl
      have e : ((0 : Nat) : Rat) = 0 := rfl
      rw [e, Rat.zero_mul] at h1
      have := p2_pos (-1000)
      grind
    have hk := log_lt h0 h2
    have hlow : p2 (i + (m.log2 : Int)) ≤ (m : Rat) * p2 i := by
      have g1 : ((2 ^ m.log2 : Nat) : Rat) ≤ (m : Rat) := Rat.natCast_le_natCast.2 (Nat.log2_self_le h0)
      rw [← p2_nat] at g1
      have g2 := Rat.mul_le_mul_of_nonneg_right g1 (Rat.le_of_lt (p2_pos i))
      rw [← p2_add] at g2
      rw [show i + (m.log2 : Int) = (m.log2 : Int) + i by omega]
      exact g2
    have hhi : (m : Rat) * p2 i < p2 (i + (m.log2 : Int) + 1) := by
      have g1 : (m : Rat) < ((2 ^ (m.log2 + 1) : Nat) : Rat) := Rat.natCast_lt_natCast.2 Nat.lt_log2_self
      rw [← p2_nat] at g1
      have g2 := Rat.mul_lt_mul_of_pos_right g1 (p2_pos i)
      rw [← p2_add] at g2
      rw [show i + (m.log2 : Int) + 1 = ((m.log2 + 1 : Nat) : Int) + i by omega]
      exact g2
    have hlo : -1000 < i + (m.log2 : Int) + 1 := p2_lt (Std.lt_of_le_of_lt h1 hhi)
    obtain ⟨v, v1, v2, v3⟩ := nearest_near s m i (i + (m.log2 : Int) + 1) (.inr (by omega)) (by omega) (by omega)
    have e : p2 (i + (m.log2 : Int) + 1 - 54) = p2 (-53) * p2 (i + (m.log2 : Int)) := by rw [← p2_add]; congr 1; omega
    rw [e] at v2 v3
    have g := Rat.mul_le_mul_of_nonneg_left hlow (Rat.le_of_lt (p2_pos (-53)))
    exact ⟨v, v1, by grind, by grind⟩
theorem mul_rel {x y : Nat} {u v : Rat} (hx : Is x u) (hy : Is y v) (h : u * v = 0 ∨ (p2 (-1000) ≤ ab (u * v) ∧ ab (u * v) < p2 1000)) {r : Nat} (hr : FOp .mul x y r) :
    ∃ t, Is r t ∧ Near t (u * v) (p2 (-53) * ab (u * v)) := by
  obtain ⟨s, m, i, e1, rfl⟩ := is_number hx
  obtain ⟨t, n, j, e2, rfl⟩ := is_number hy
  have hv : sgn s ((m : Rat) * p2 i) * sgn t ((n : Rat) * p2 j) = sgn (s ^^ t) (((m * n : Nat) : Rat) * p2 (i + j)) := by
    rw [← sgn_mul, Rat.natCast_mul, p2_add]
    congr 1
    grind
  rw [hv] at h ⊢
  have hnn : 0 ≤ ((m * n : Nat) : Rat) * p2 (i + j) := Rat.mul_nonneg Rat.natCast_nonneg (Rat.le_of_lt (p2_pos _))
  rw [ab_sgn _ _ hnn] at h ⊢
  have hb : floatBits .mul .f64 x y = some (FloatKind.f64.format.nearest (s ^^ t) (m * n) (i + j)) := by
    show FloatKind.f64.format.mul x y = _
    unfold Ieee.Format.mul
    rw [e1, e2]
    rfl
  unfold FOp at hr
  rw [hb] at hr
  have hr : r = _ := hr
  rw [hr]
  refine round_rel _ _ _ ?_
  rcases h with h | h
  · left
    have hp := p2_pos (i + j)
    have hz : ((m * n : Nat) : Rat) * p2 (i + j) = 0 := by
      cases hs : (s ^^ t)
      · rw [hs] at h; exact h
      · rw [hs] at h
        have h : -(((m * n : Nat) : Rat) * p2 (i + j)) = 0 := h
        grind
    rcases Rat.mul_eq_zero.1 hz with h' | h'
    · exact Rat.natCast_eq_zero_iff.1 h'
    · rw [h'] at hp; exact absurd hp (by decide)
  · exact .inr h
end Go.Proofs.YtngdemhhcablmakDoor
