/-
  Sines of angles one behind the other: no farther apart than the angles. No program here.
-/
import Derived.Test.YtfamndjiaebmbafDoorPointX
import Derived.Test.YtfamndjiaebmbafDoorSinIs
namespace Go.Proofs.YtfamndjiaebmbafDoor
open Go

theorem dstep {x y : Rat} (h0 : 0 ≤ x) (h1 : x ≤ y) (h2 : y ≤ 7855 / 10000) (n : Nat) : y ^ (n + 4) - x ^ (n + 4) ≤ 5 / 4 * (y ^ (n + 2) - x ^ (n + 2)) := by
  obtain ⟨i1, _⟩ := pow_rise h0 h1 h2 n
  obtain ⟨i2, _⟩ := pow_rise h0 h1 h2 (n + 2)
  have e4 : ∀ t : Rat, t ^ (n + 4) = t ^ n * (t * t) * (t * t) := fun t => by
    rw [Rat.pow_succ, Rat.pow_succ, Rat.pow_succ, Rat.pow_succ]; grind
  have e2 : ∀ t : Rat, t ^ (n + 2) = t ^ n * (t * t) := fun t => by
    rw [Rat.pow_succ, Rat.pow_succ]; grind
  rw [e4, e4, e2, e2]
  rw [e2, e2] at i2
  have yy := Rat.mul_nonneg (show 0 ≤ 7855 / 10000 - y by grind) (show 0 ≤ 7855 / 10000 + y by grind)
  have xx := Rat.mul_nonneg (show 0 ≤ 7855 / 10000 - x by grind) (show 0 ≤ 7855 / 10000 + x by grind)
  have x2 := Rat.mul_nonneg h0 h0
  have y2 := Rat.mul_nonneg (show 0 ≤ y by grind) (show 0 ≤ y by grind)
  have q1 := Rat.mul_nonneg (Rat.mul_nonneg x2 y2) i1
  generalize y ^ n = a at *
  generalize x ^ n = b at *
  generalize hX : x * x = X at *
  generalize hY : y * y = Y at *
  have q2 := Rat.mul_nonneg (show 0 ≤ 5 / 4 - (X + Y) by grind) i2
  grind
theorem estep {z w : Rat} (h0 : 0 ≤ z) (h1 : z ≤ w) (h2 : w ≤ 5 / 8) (n : Nat) : w ^ (n + 2) - z ^ (n + 2) ≤ 5 / 4 * (w ^ (n + 1) - z ^ (n + 1)) := by
  obtain ⟨i1, _⟩ := pow_rise h0 h1 h2 n
  obtain ⟨i2, _⟩ := pow_rise h0 h1 h2 (n + 1)
  have e2 : ∀ t : Rat, t ^ (n + 2) = t ^ n * t * t := fun t => by rw [Rat.pow_succ, Rat.pow_succ]
  have e1 : ∀ t : Rat, t ^ (n + 1) = t ^ n * t := fun t => by rw [Rat.pow_succ]
  rw [e2, e2, e1, e1]
  rw [e1, e1] at i2
  have q1 := Rat.mul_nonneg (Rat.mul_nonneg h0 (show 0 ≤ w by grind)) i1
  generalize w ^ n = a at *
  generalize z ^ n = b at *
  have q2 := Rat.mul_nonneg (show 0 ≤ 5 / 4 - (z + w) by grind) i2
  grind
theorem sin_lip {x y : Rat} (h0 : 0 ≤ x) (h1 : x ≤ y) (h2 : y ≤ 7855 / 10000) : fS y - fS x ≤ y - x ∧ 0 ≤ fS y - fS x := by
  constructor
  · unfold fS
    rw [sin_is, sin_is]
    have d5 := dstep h0 h1 h2 1
    have d9 := dstep h0 h1 h2 5
    have d13 := dstep h0 h1 h2 9
    have d17 := dstep h0 h1 h2 13
    have r3 := (pow_rise h0 h1 h2 3).1
    have r7 := (pow_rise h0 h1 h2 7).1
    have r11 := (pow_rise h0 h1 h2 11).1
    have r15 := (pow_rise h0 h1 h2 15).1
    simp only [Nat.reduceAdd] at d5 d9 d13 d17
    generalize y ^ 3 = a3 at *
    generalize y ^ 5 = a5 at *
    generalize y ^ 7 = a7 at *
    generalize y ^ 9 = a9 at *
    generalize y ^ 11 = a11 at *
    generalize y ^ 13 = a13 at *
    generalize y ^ 15 = a15 at *
    generalize y ^ 17 = a17 at *
    generalize x ^ 3 = b3 at *
    generalize x ^ 5 = b5 at *
    generalize x ^ 7 = b7 at *
    generalize x ^ 9 = b9 at *
    generalize x ^ 11 = b11 at *
    generalize x ^ 13 = b13 at *
    generalize x ^ 15 = b15 at *
    generalize x ^ 17 = b17 at *
    grind
  · have := sin_rise h0 h1 h2
    unfold fS
    grind
theorem cos_lip {x y : Rat} (h0 : 0 ≤ x) (h1 : x ≤ y) (h2 : y ≤ 7855 / 10000) : fC x - fC y ≤ y - x ∧ 0 ≤ fC x - fC y := by
  constructor
  · unfold fC
    rw [cos_is, cos_is]
    have yy := Rat.mul_nonneg (show 0 ≤ 7855 / 10000 - y by grind) (show 0 ≤ 7855 / 10000 + y by grind)
    have x2 := Rat.mul_nonneg h0 h0
    have m := Rat.mul_nonneg (show 0 ≤ y - x by grind) (show 0 ≤ y + x by grind)
    have m2 := Rat.mul_nonneg (show 0 ≤ y - x by grind) (show 0 ≤ 7855 / 5000 - (y + x) by grind)
    have k0 : 0 ≤ x * x := x2
    have k1 : x * x ≤ y * y := by grind
    have k2 : y * y ≤ 5 / 8 := by grind
    have e1 : y * y - x * x ≤ 7855 / 5000 * (y - x) := by grind
    generalize x * x = z at *
    generalize y * y = w at *
    have d3 := estep k0 k1 k2 1
    have d5 := estep k0 k1 k2 3
    have d7 := estep k0 k1 k2 5
    have r2 := (pow_rise k0 k1 k2 2).1
    have r4 := (pow_rise k0 k1 k2 4).1
    have r6 := (pow_rise k0 k1 k2 6).1
    have r8 := (pow_rise k0 k1 k2 8).1
    simp only [Nat.reduceAdd] at d3 d5 d7
    have p1 : ∀ t : Rat, t ^ 1 = t := fun t => by rw [Rat.pow_succ, Rat.pow_zero]; grind
    rw [p1, p1]
    generalize w ^ 2 = a2 at *
    generalize w ^ 3 = a3 at *
    generalize w ^ 4 = a4 at *
    generalize w ^ 5 = a5 at *
    generalize w ^ 6 = a6 at *
    generalize w ^ 7 = a7 at *
    generalize w ^ 8 = a8 at *
    generalize z ^ 2 = b2 at *
    generalize z ^ 3 = b3 at *
    generalize z ^ 4 = b4 at *
    generalize z ^ 5 = b5 at *
    generalize z ^ 6 = b6 at *
    generalize z ^ 7 = b7 at *
    generalize z ^ 8 = b8 at *
    grind
  · have := cos_fall h0 h1 h2
    unfold fC
    grind
theorem fS_odd (x : Rat) : fS (-x) = -fS x := by
  unfold fS
  have e : -x * -x = x * x := by grind
  rw [e]
  grind
theorem fC_even (x : Rat) : fC (-x) = fC x := by
  unfold fC
  have e : -x * -x = x * x := by grind
  rw [e]
theorem lip {x y : Rat} (h1 : x ≤ y) (h2 : y ≤ 7855 / 10000) (h3 : -(7855 / 10000) ≤ x) : Near (fS y) (fS x) (y - x) ∧ Near (fC y) (fC x) (y - x) := by
  unfold Near
  rcases le_or' 0 x with hx | hx
  · have a := sin_lip hx h1 h2
    have b := cos_lip hx h1 h2
    grind
  · rcases le_or' 0 y with hy | hy
    · have a := sin_lip (x := 0) (y := y) (by grind) hy h2
      have b := sin_lip (x := 0) (y := -x) (by grind) (by grind) (by grind)
      have c := cos_lip (x := 0) (y := y) (by grind) hy h2
      have d := cos_lip (x := 0) (y := -x) (by grind) (by grind) (by grind)
      rw [fS_odd] at b
      rw [fC_even] at d
      rw [fS_zero] at a b
      grind
    · have a := sin_lip (x := -y) (y := -x) (by grind) (by grind) (by grind)
      have b := cos_lip (x := -y) (y := -x) (by grind) (by grind) (by grind)
      rw [fS_odd, fS_odd] at a
      rw [fC_even, fC_even] at b
      grind
where
  le_or' (a b : Rat) : a ≤ b ∨ b ≤ a := Rat.le_total
def lipE : Rat := 3 / 1000000000000000
theorem lip_fits : 2 * Ept + 2 * xerr ≤ lipE ∧ 0 ≤ rho ∧ xerr ≤ rho / 4 ∧ 0 ≤ xerr ∧ 0 ≤ Ept := by decide +kernel
/-- the next angle in the same part of the circle. -/
theorem next_same (r : Int) (h1 : r + 1 ≤ 162000000000) (h2 : -162000000000 ≤ r) : ∃ S C S' C', Is (sV r) S ∧ Is (cV r) C ∧ Is (sV (r + 1)) S' ∧ Is (cV (r + 1)) C' ∧ Near S' S (rho + lipE) ∧ Near C' C (rho + lipE) := by
  obtain ⟨X, S, C, iS, iC, nS, nC, x1, x2, nX⟩ := point_x r (by omega) h2 (ev_evl (sE r)) (ev_evl (cE r))
  obtain ⟨X', S', C', iS', iC', nS', nC', x1', x2', nX'⟩ := point_x (r + 1) h1 (by omega) (ev_evl (sE (r + 1))) (ev_evl (cE (r + 1)))
  obtain ⟨f1, f2, f3, f4, f5⟩ := lip_fits
  have ec : ((r + 1 : Int) : Rat) = (r : Rat) + 1 := by rw [Rat.intCast_add]; rfl
  rw [ec] at nX'
  have ex : ((r : Rat) + 1) * rho = (r : Rat) * rho + rho := by grind
  rw [ex] at nX'
  unfold Near at nX nX' nS nC nS' nC'
  obtain ⟨a, b⟩ := lip (x := X) (y := X') (by grind) x1' x2
  unfold Near at a b
  exact ⟨S, C, S', C', iS, iC, iS', iC', by unfold Near; grind, by unfold Near; grind⟩
end Go.Proofs.YtfamndjiaebmbafDoor
