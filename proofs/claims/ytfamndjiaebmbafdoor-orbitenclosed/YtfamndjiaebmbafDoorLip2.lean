/-
  Sines of angles one behind the other, all around. No program here.
-/
import Derived.Test.YtfamndjiaebmbafDoorLip
import Derived.Test.YtfamndjiaebmbafDoorOdd
namespace Go.Proofs.YtfamndjiaebmbafDoor
open Go

def SA0 : Rat := (dv (FloatKind.f64.format.read (sV 161999999999))).getD 0
def CA0 : Rat := (dv (FloatKind.f64.format.read (cV 161999999999))).getD 0
theorem sa_is : Is (sV 161999999999) SA0 := by unfold Is; decide +kernel
theorem ca_is : Is (cV 161999999999) CA0 := by unfold Is; decide +kernel
theorem cross_lip : C0 ≤ SA0 + (rho + lipE) ∧ SA0 ≤ C0 + (rho + lipE) ∧ -S0 ≤ CA0 + (rho + lipE) ∧ CA0 ≤ -S0 + (rho + lipE) := by decide +kernel
theorem next_q (a : Int) : (rOf a ≠ 161999999999 ∧ rOf (a + 1) = rOf a + 1 ∧ qOf (a + 1) % 4 = qOf a % 4) ∨ (rOf a = 161999999999 ∧ rOf (a + 1) = -162000000000 ∧ qOf (a + 1) % 4 = (qOf a + 1) % 4) := by
  have h1 := nrm_range a
  unfold rOf qOf nrm at *
  omega
theorem sin_next (a : Int) : ∃ s s', Is (sinV a) s ∧ Is (sinV (a + 1)) s' ∧ Near s' s (rho + lipE) := by
  have hr := rOf_range a
  have h4 : qOf a % 4 = 0 ∨ qOf a % 4 = 1 ∨ qOf a % 4 = 2 ∨ qOf a % 4 = 3 := by have := qOf_range a; omega
  rcases next_q a with ⟨hn, hr1, hq⟩ | ⟨hn, hr1, hq⟩
  · obtain ⟨S, C, S', C', i1, i2, i3, i4, n1, n2⟩ := next_same (rOf a) (by omega) hr.1
    have e1 := turnS_is (qOf a) i1 i2
    have e2 := turnS_is (qOf (a + 1)) i3 i4
    rw [← hr1] at e2
    rw [hq] at e2
    refine ⟨_, _, e1, e2, ?_⟩
    unfold Near at *
    rcases h4 with h | h | h | h <;> rw [h] <;> simp <;> grind
  · obtain ⟨c1, c2, c3, c4⟩ := cross_lip
    have e1 := turnS_is (qOf a) sa_is ca_is
    have e2 := turnS_is (qOf (a + 1)) s0_is c0_is
    rw [← hn] at e1
    rw [← hr1] at e2
    rw [hq] at e2
    refine ⟨_, _, e1, e2, ?_⟩
    unfold Near
    rcases h4 with h | h | h | h
    all_goals
      have hq2 : (qOf a + 1) % 4 = (qOf a % 4 + 1) % 4 := by omega
      rw [hq2, h]
      simp
      grind
end Go.Proofs.YtfamndjiaebmbafDoor
