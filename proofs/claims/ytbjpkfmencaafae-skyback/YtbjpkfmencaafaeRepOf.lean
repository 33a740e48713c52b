/-
  Sines and cosines of whole angles: reckoned points of a quadrant.
-/
import Derived.Test.YtbjpkfmencaafaeTurns
import Derived.Test.YtbjpkfmencaafaeSinIs
namespace Go.Proofs.Ytbjpkfmencaafae
open Go

theorem fS_odd (x : Rat) : fS (-x) = -fS x := by
  unfold fS
  rw [show -x * -x = x * x by grind]
  grind
theorem fC_even (x : Rat) : fC (-x) = fC x := by
  unfold fC
  rw [show -x * -x = x * x by grind]
theorem s_zero : sV 0 = 0 := by decide +kernel
theorem zero_is : Is 0 0 := by unfold Is; decide +kernel
theorem c_zero : cV 0 = one := by decide +kernel
theorem fC_zero : fC 0 = 1 := by decide +kernel
theorem near_self_zero : 0 ≤ Ept ∧ 0 ≤ xerr ∧ 0 < rho - xerr := by decide +kernel

/-- an angle's own part. -/
theorem part (r : Int) (h1 : r ≤ 162000000000) (h2 : -162000000000 ≤ r) : ∃ X S C, Is (sV r) S ∧ Is (cV r) C ∧ 0 ≤ X ∧ X ≤ 7855 / 10000 ∧ Near C (fC X) Ept ∧
    (0 ≤ r → Near S (fS X) Ept ∧ Near X ((r : Rat) * rho) xerr) ∧ (r ≤ 0 → Near (-S) (fS X) Ept ∧ Near X (((-r : Int) : Rat) * rho) xerr) ∧ (r = 0 → S = 0) := by
  obtain ⟨X, S, C, s1, c1, s2, c2, x1, x2, x3⟩ := point_x r h1 h2 (ev_evl (sE r)) (ev_evl (cE r))
  obtain ⟨e0, e1, e2⟩ := near_self_zero
  have z0 : ((0 : Int) : Rat) = 0 := rfl
  rcases (show 0 < r ∨ r < 0 ∨ r = 0 by omega) with h | h | h
  · have hst := int_step h
    rw [z0] at hst
    obtain ⟨y1, y2⟩ := x3
    exact ⟨X, S, C, s1, c1, by grind, x1, c2, fun _ => ⟨s2, y1, y2⟩, fun h' => by omega, fun h' => by omega⟩
  · have hst := int_step h
    rw [z0] at hst
    obtain ⟨y1, y2⟩ := x3
    obtain ⟨s3, s4⟩ := s2
    have ho := fS_odd X
    refine ⟨-X, S, C, s1, c1, by grind, by grind, by rw [fC_even]; exact c2, fun h' => by omega, fun _ => ⟨⟨by grind, by grind⟩, ?_⟩, fun h' => by omega⟩
    rw [Rat.intCast_neg]
    exact ⟨by grind, by grind⟩
  · subst h
    have hS : S = 0 := by
      have : Is (sV 0) S := s1
      rw [s_zero] at this
      exact is_unique this zero_is
    have hC : C = 1 := by
      have : Is (cV 0) C := c1
      rw [c_zero] at this
      exact is_unique this one_is
    have hn : Near (0 : Rat) (((0 : Int) : Rat) * rho) xerr := by rw [z0, Rat.zero_mul]; exact near_zero 0 e1
    refine ⟨0, S, C, s1, c1, Rat.le_refl, by decide +kernel, ?_, fun _ => ⟨?_, hn⟩, fun _ => ⟨?_, hn⟩, fun _ => hS⟩
    · rw [hC, fC_zero]; exact near_zero 1 e0
    · rw [hS, fS_zero]; exact near_zero 0 e0
    · rw [hS, fS_zero, Rat.neg_zero]; exact near_zero 0 e0

theorem nrm_small {m : Int} (h1 : 0 ≤ m) (h2 : m < 1296000000000) : nrm m = m := by unfold nrm; omega
/-- the first quadrant. -/
theorem rep_first (m : Int) (h1 : 0 ≤ m) (h2 : m ≤ 324000000000) : ∃ S C, Is (sinV m) S ∧ Is (cosV m) C ∧ Rep m S C ∧ (m = 0 → S = 0) ∧ (m = 324000000000 → C = 0) := by
  have hn := nrm_small h1 (show m < 1296000000000 by omega)
  by_cases hE : m < 162000000000
  · have hq : qOf m = 0 := by unfold qOf; rw [hn]; omega
    have hr : rOf m = m := by unfold rOf; rw [hq, hn]; omega
    obtain ⟨X, S, C, s1, c1, x0, x1, c2, hp, _, hz⟩ := part m (by omega) (by omega)
    obtain ⟨s2, x2⟩ := hp h1
    have e1 : sinV m = sV m := by unfold sinV; rw [hq, hr]; rfl
    have e2 : cosV m = cV m := by unfold cosV; rw [hq, hr]; rfl
    rw [e1, e2]
    exact ⟨S, C, s1, c1, ⟨X, x0, x1, .inl ⟨by omega, x2, s2, c2⟩⟩, hz, fun h => by omega⟩
  · have hq : qOf m = 1 := by unfold qOf; rw [hn]; omega
    have hr : rOf m = m - 324000000000 := by unfold rOf; rw [hq, hn]; omega
    obtain ⟨X, S, C, s1, c1, x0, x1, c2, _, hp, hz⟩ := part (m - 324000000000) (by omega) (by omega)
    obtain ⟨s2, x2⟩ := hp (by omega)
    have e1 : sinV m = cV (m - 324000000000) := by unfold sinV; rw [hq, hr]; rfl
    have e2 : cosV m = ngB (sV (m - 324000000000)) := by unfold cosV; rw [hq, hr]; rfl
    rw [e1, e2]
    rw [show -(m - 324000000000) = 324000000000 - m by omega] at x2
    exact ⟨C, -S, c1, neg_is s1, ⟨X, x0, x1, .inr ⟨by omega, x2, c2, s2⟩⟩, fun h => by omega, fun h => by rw [hz (by omega)]; exact Rat.neg_zero⟩
end Go.Proofs.Ytbjpkfmencaafae
