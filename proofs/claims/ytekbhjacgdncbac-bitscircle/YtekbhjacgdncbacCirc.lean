/-
  On the circle, and turned with the angle.
-/
import Derived.Test.YtekbhjacgdncbacSinIs
namespace Go.Proofs.Ytekbhjacgdncbac
open Go

theorem near_opp {u v e : Rat} (h : Near u v e) : Near (-u) (-v) e := by
  unfold Near at *
  grind
theorem on_circle (a : Int) {r : Nat} (hr : Ev (.op .sub (.op .add (.op .mul (.num (sinV a)) (.num (sinV a))) (.op .mul (.num (cosV a)) (.num (cosV a)))) (.num one)) r) :
    ∃ y, Is r y ∧ y < tiny ∧ -tiny < y := by
  have hq := qOf_range a
  have hrr := rOf_range a
  obtain ⟨σ, γ, u, v, h1, h2, h3, h4, h5, h6, h7, h8, h9⟩ := point (rOf a) (by omega) hrr.1 (ev_evl (sE (rOf a))) (ev_evl (cE (rOf a)))
  have n1 := neg_is h1
  have n2 := neg_is h2
  have m1 := near_opp h3
  have m2 := near_opp h4
  have s1 : Near (-σ * -σ + γ * γ) 1 De := by rw [show -σ * -σ = σ * σ by grind]; exact h9
  have s2 : Near (σ * σ + -γ * -γ) 1 De := by rw [show -γ * -γ = γ * γ by grind]; exact h9
  have s3 : Near (-σ * -σ + -γ * -γ) 1 De := by rw [show -γ * -γ = γ * γ by grind]; exact s1
  have h10 : qOf a % 4 = 0 ∨ qOf a % 4 = 1 ∨ qOf a % 4 = 2 ∨ qOf a % 4 = 3 := by omega
  have hS : sinV a = turnS (qOf a) (evl (sE (rOf a))) (evl (cE (rOf a))) := rfl
  have hC : cosV a = turnC (qOf a) (evl (sE (rOf a))) (evl (cE (rOf a))) := rfl
  rw [hS, hC] at hr
  unfold turnS turnC at hr
  rcases h10 with h | h | h | h
  all_goals
    rw [h] at hr
    simp at hr
  · exact squares h1 h2 h3 h4 h5 h6 h7 h8 h9 (.inl hr)
  · exact squares n1 h2 m1 h4 (by grind) (by grind) h7 h8 s1 (.inr hr)
  · exact squares n1 n2 m1 m2 (by grind) (by grind) (by grind) (by grind) s3 (.inl hr)
  · exact squares h1 n2 h3 m2 h5 h6 (by grind) (by grind) s2 (.inr hr)
theorem circle_order (a : Int) {r : Nat} (hr : Ev (.op .sub (.op .add (.op .mul (.num (sinV a)) (.num (sinV a))) (.op .mul (.num (cosV a)) (.num (cosV a)))) (.num one)) r) :
    (FloatKind.f64.format.order r 4382569440205035030 == some .lt) = true ∧ (FloatKind.f64.format.order r 13605941477059810838 == some .gt) = true := by
  obtain ⟨y, y1, y2, y3⟩ := on_circle a hr
  have hn : ngB 4382569440205035030 = 13605941477059810838 := by decide +kernel
  rw [← hn, order_is y1 tiny_is, order_is y1 tinyn_is, if_pos y2, if_neg (by grind), if_neg (by grind)]
  exact ⟨rfl, rfl⟩
theorem turn_quarter (a : Int) : cosV (nrm a + 324000000000) = ngB (sinV a) ∧ sinV (nrm a + 648000000000) = ngB (sinV a) := by
  have hn := nrm_range a
  have q1 : qOf (nrm a + 324000000000) % 4 = (qOf a + 1) % 4 := by
    unfold qOf
    have : nrm (nrm a + 324000000000) = if nrm a < 972000000000 then nrm a + 324000000000 else nrm a - 972000000000 := by
      generalize nrm a = n at *
      unfold nrm; split <;> omega
    rw [this]
    split <;> omega
  have r1 : rOf (nrm a + 324000000000) = rOf a := by
    unfold rOf qOf
    have : nrm (nrm a + 324000000000) = if nrm a < 972000000000 then nrm a + 324000000000 else nrm a - 972000000000 := by
      generalize nrm a = n at *
      unfold nrm; split <;> omega
    rw [this]
    split <;> omega
  have q2 : qOf (nrm a + 648000000000) % 4 = (qOf a + 2) % 4 := by
    unfold qOf
    have : nrm (nrm a + 648000000000) = if nrm a < 648000000000 then nrm a + 648000000000 else nrm a - 648000000000 := by
      generalize nrm a = n at *
      unfold nrm; split <;> omega
    rw [this]
    split <;> omega
  have r2 : rOf (nrm a + 648000000000) = rOf a := by
    unfold rOf qOf
    have : nrm (nrm a + 648000000000) = if nrm a < 648000000000 then nrm a + 648000000000 else nrm a - 648000000000 := by
      generalize nrm a = n at *
      unfold nrm; split <;> omega
    rw [this]
    split <;> omega
  unfold cosV sinV turnC turnS
  rw [r1, r2, q1, q2]
  have h4 : qOf a % 4 = 0 ∨ qOf a % 4 = 1 ∨ qOf a % 4 = 2 ∨ qOf a % 4 = 3 := by omega
  rcases h4 with h | h | h | h
  all_goals
    rw [h]
    have e1 : (qOf a + 1) % 4 = (qOf a % 4 + 1) % 4 := by omega
    have e2 : (qOf a + 2) % 4 = (qOf a % 4 + 2) % 4 := by omega
    rw [e1, e2, h]
    simp [neg_neg]
end Go.Proofs.Ytekbhjacgdncbac
