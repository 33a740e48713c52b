/-
  Chains of turns, there and back: how far one comes from where one began.
-/
import Derived.Test.YtbjpkfmencaafafDoorChM2
import Derived.Test.YtbjpkfmencaafafDoorMild2
namespace Go.Proofs.YtbjpkfmencaafafDoor
open Go

theorem al_path {L : List St} {v : V3} : ∀ {n : Nat} {q : V3}, Al L v n q → ∃ f : Nat → V3, f 0 = v ∧ f n = q ∧ ∀ j, j < n → Turned (L.getD j st0).k (L.getD j st0).d (f j) (f (j + 1))
  | 0, q, h => by
    cases h
    exact ⟨fun _ => v, rfl, rfl, fun j hj => absurd hj (by omega)⟩
  | n + 1, q, h => by
    cases h with
    | @succ _ p _ h1 h2 h3 =>
      obtain ⟨f, f0, fn, ft⟩ := al_path h1
      refine ⟨fun j => if j = n + 1 then q else f j, ?_, ?_, ?_⟩
      · show (if (0 : Nat) = n + 1 then q else f 0) = v
        rw [if_neg (by omega)]
        exact f0
      · show (if n + 1 = n + 1 then q else f (n + 1)) = q
        rw [if_pos rfl]
      · intro j hj
        show Turned _ _ (if j = n + 1 then q else f j) (if j + 1 = n + 1 then q else f (j + 1))
        rw [if_neg (by omega)]
        by_cases e : j = n
        · subst e
          rw [if_pos rfl, fn]
          exact h3
        · rw [if_neg (by omega)]
          exact ft j (by omega)
theorem cast_le {n N : Nat} (h : n ≤ N) : (n : Rat) ≤ (N : Rat) := Rat.natCast_le_natCast.2 h
theorem cast_succ (n : Nat) : ((n + 1 : Nat) : Rat) = (n : Rat) + 1 := by rw [Rat.natCast_add]; rfl
theorem p_fits : p2 (-310) ≤ p2 (-305) ∧ p2 (-320) ≤ p2 (-305) ∧ 2 * p2 305 ≤ p2 310 ∧ 2 * p2 305 ≤ p2 320 ∧ 0 < p2 (-305) := by decide +kernel
theorem fwd_all {L : List St} {f : Nat → V3} {v0 : Q3} {M : Rat} {N : Nat} (m1 : p2 (-305) ≤ M) (m2 : M ≤ p2 305) (i0 : VIs (f 0) v0) (h0 : LQ v0 M) (hN : N ≤ 60) (ft : ∀ j, j < N → Turned (L.getD j st0).k (L.getD j st0).d (f j) (f (j + 1))) :
    ∀ n, n ≤ N → ∃ u, VIs (f n) u ∧ LQ u (M + (n : Rat) * (13 * (M / 9007199254740992)))
  | 0, _ => by
    refine ⟨v0, i0, ?_⟩
    have e : M + ((0 : Nat) : Rat) * (13 * (M / 9007199254740992)) = M := by
      have : ((0 : Nat) : Rat) = 0 := rfl
      rw [this]
      grind
    rw [e]
    exact h0
  | n + 1, hn => by
    obtain ⟨u, iu, hu⟩ := fwd_all m1 m2 i0 h0 hN ft n (by omega)
    obtain ⟨p1, p2', p3, p4, p5⟩ := p_fits
    have c1 := cast_le (show n ≤ 60 by omega)
    have c2 := cast_le (show 0 ≤ n by omega)
    have e60 : ((60 : Nat) : Rat) = 60 := rfl
    have e0 : ((0 : Nat) : Rat) = 0 := rfl
    rw [e60] at c1
    rw [e0] at c2
    have hX : 0 ≤ M / 9007199254740992 := by grind
    have n1 := Rat.mul_nonneg c2 hX
    have n2 := Rat.mul_nonneg (show 0 ≤ 60 - (n : Rat) by grind) hX
    rw [cast_succ]
    generalize hnx : (n : Rat) = x at *
    have e1 : x * (13 * (M / 9007199254740992)) = 13 * (x * (M / 9007199254740992)) := by grind
    rw [e1] at hu
    generalize hy : x * (M / 9007199254740992) = y at *
    obtain ⟨z, iz, hz⟩ := step_on (ft n (by omega)) iu hu (by grind) (by grind)
    refine ⟨z, iz, Wi.weak hz ?_⟩
    have e2 : (x + 1) * (13 * (M / 9007199254740992)) = 13 * y + 13 * (M / 9007199254740992) := by
      rw [← hy]
      grind
    rw [e2]
    grind
theorem zero_wi : Wi 0 0 0 0 := ⟨by grind, by grind⟩
theorem back_all {L : List St} {f : Nat → V3} {v0 : Q3} {M : Rat} (m1 : p2 (-305) ≤ M) (m2 : M ≤ p2 305) (i0 : VIs (f 0) v0) (h0 : LQ v0 M) (hN : L.length ≤ 60) (ft : ∀ j, j < L.length → Turned (L.getD j st0).k (L.getD j st0).d (f j) (f (j + 1))) :
    ∀ (m : Nat) (g : V3), m ≤ L.length → Ag L (f L.length) m g → ∃ y u, VIs g y ∧ VIs (f (L.length - m)) u ∧ LQ (y.sub u) ((m : Rat) * (33 * (1001 / 1000 * M / 9007199254740992)))
  | 0, g, _, h => by
    cases h
    obtain ⟨u, iu, _⟩ := fwd_all m1 m2 i0 h0 hN ft L.length (Nat.le_refl _)
    refine ⟨u, u, iu, by rw [Nat.sub_zero]; exact iu, ?_⟩
    have e : ((0 : Nat) : Rat) * (33 * (1001 / 1000 * M / 9007199254740992)) = 0 := by
      have : ((0 : Nat) : Rat) = 0 := rfl
      rw [this]
      grind
    rw [e]
    unfold LQ Q3.sub
    have e1 : ∀ x : Rat, x - x = 0 := fun x => by grind
    simp only [e1]
    exact zero_wi
  | m + 1, g, hm, h => by
    cases h with
    | @succ _ p _ h1 h2 h3 =>
      obtain ⟨y, u, iy, iu, hD⟩ := back_all m1 m2 i0 h0 hN ft m p (by omega) h1
      obtain ⟨j, hj⟩ : ∃ j, j = L.length - 1 - m := ⟨_, rfl⟩
      have e1 : L.length - m = j + 1 := by omega
      have e2 : L.length - (m + 1) = j := by omega
      rw [← hj] at h3
      rw [e1] at iu
      rw [e2]
      obtain ⟨w, iw, hw⟩ := fwd_all m1 m2 i0 h0 hN ft j (by omega)
      obtain ⟨p1, p2', p3, p4, p5⟩ := p_fits
      have e60 : ((60 : Nat) : Rat) = 60 := rfl
      have e0 : ((0 : Nat) : Rat) = 0 := rfl
      have hX : 0 ≤ M / 9007199254740992 := by grind
      have hwB : LQ w (1001 / 1000 * M) := by
        have c1 := cast_le (show j ≤ 60 by omega)
        rw [e60] at c1
        have n2 := Rat.mul_nonneg (show 0 ≤ 60 - (j : Rat) by grind) hX
        refine Wi.weak hw ?_
        have e1 : (j : Rat) * (13 * (M / 9007199254740992)) = 13 * ((j : Rat) * (M / 9007199254740992)) := by grind
        rw [e1]
        generalize (j : Rat) * (M / 9007199254740992) = t at *
        grind
      have c1 := cast_le (show m ≤ 60 by omega)
      have c2 := cast_le (show 0 ≤ m by omega)
      rw [e60] at c1
      rw [e0] at c2
      have n1 := Rat.mul_nonneg c2 hX
      have n2 := Rat.mul_nonneg (show 0 ≤ 60 - (m : Rat) by grind) hX
      have e3 : (m : Rat) * (33 * (1001 / 1000 * M / 9007199254740992)) = 33 * 1001 / 1000 * ((m : Rat) * (M / 9007199254740992)) := by grind
      have e4 : ((m + 1 : Nat) : Rat) * (33 * (1001 / 1000 * M / 9007199254740992)) = 33 * 1001 / 1000 * ((m : Rat) * (M / 9007199254740992)) + 33 * (1001 / 1000 * M / 9007199254740992) := by
        rw [cast_succ]
        grind
      rw [e3] at hD
      rw [e4]
      have hsm : 33 * 1001 / 1000 * ((m : Rat) * (M / 9007199254740992)) ≤ 1001 / 1000 * M / 1000 := by
        generalize (m : Rat) * (M / 9007199254740992) = t at *
        grind
      obtain ⟨z, iz, hz⟩ := step_back (ft j (by omega)) h3 iw iu iy hwB hD hsm (by grind) (by grind)
      exact ⟨z, w, iz, iw, hz⟩
end Go.Proofs.YtbjpkfmencaafafDoor
