/-
  The circle: the sum of the squares; comparing.
-/
import Derived.Test.YtfamndjiaebmbafDoorCircle3
namespace Go.Proofs.YtfamndjiaebmbafDoor
open Go

/-- Comparing two numbers. -/
theorem order_is {x y : Nat} {u v : Rat} (hx : Is x u) (hy : Is y v) : FloatKind.f64.format.order x y = some (if u < v then .lt else if u = v then .eq else .gt) := by
  obtain ⟨s, m, i, e1, rfl⟩ := is_number hx
  obtain ⟨t, n, j, e2, rfl⟩ := is_number hy
  unfold Ieee.Format.order
  rw [e1, e2]
  show some (compare (Ieee.signed s m (i - min i j).toNat) (Ieee.signed t n (j - min i j).toNat)) = _
  rw [← signed_val s m i (min i j) (by omega), ← signed_val t n j (min i j) (by omega)]
  generalize Ieee.signed s m (i - min i j).toNat = a
  generalize Ieee.signed t n (j - min i j).toNat = b
  have hp := p2_pos (min i j)
  generalize p2 (min i j) = P at *
  congr 1
  rcases Int.lt_trichotomy a b with h | h | h
  · have hr : (a : Rat) < (b : Rat) := Rat.intCast_lt_intCast.2 h
    rw [if_pos (Rat.mul_lt_mul_of_pos_right hr hp)]
    exact Int.compare_eq_lt.2 h
  · subst h
    rw [if_neg (by grind), if_pos rfl]
    exact Int.compare_eq_eq.2 rfl
  · have hr : (b : Rat) < (a : Rat) := Rat.intCast_lt_intCast.2 h
    have := Rat.mul_lt_mul_of_pos_right hr hp
    rw [if_neg (by grind), if_neg (by grind)]
    exact Int.compare_eq_gt.2 h

theorem ng_low (x : Nat) : ngB x % 9223372036854775808 = x % 9223372036854775808 := by
  have h : (x ^^^ 2 ^ 63) % 2 ^ 63 = (x % 2 ^ 63) ^^^ (2 ^ 63 % 2 ^ 63) := Nat.xor_mod_two_pow
  rw [Nat.mod_self, Nat.xor_zero] at h
  exact h
theorem ng_top (x : Nat) : (ngB x / 9223372036854775808 % 2 == 1) = !(x / 9223372036854775808 % 2 == 1) := by
  have h : (x ^^^ 2 ^ 63) / 2 ^ 63 = x / 2 ^ 63 ^^^ 2 ^ 63 / 2 ^ 63 := Nat.xor_div_two_pow
  have h1 : ngB x / 9223372036854775808 = x / 9223372036854775808 ^^^ 1 := h
  rw [h1]
  generalize x / 9223372036854775808 = q
  have h2 : (q ^^^ 1) % 2 ^ 1 = (q % 2 ^ 1) ^^^ (1 % 2 ^ 1) := Nat.xor_mod_two_pow
  have h3 : (q ^^^ 1) % 2 = (q % 2) ^^^ 1 := h2
  rw [h3]
  rcases (show q % 2 = 0 ∨ q % 2 = 1 by omega) with h | h <;> rw [h] <;> rfl
theorem neg_read (x : Nat) : FloatKind.f64.format.read (ngB x) = (FloatKind.f64.format.read x).opposite := by
  unfold Ieee.Format.read
  simp only [f64_sw, f64_bn, f64_ir, f64_lp]
  rw [ng_low, ng_top]
  generalize x % 9223372036854775808 = q
  split
  · rfl
  · split
    · rfl
    · split <;> rfl
theorem neg_is {x : Nat} {v : Rat} (h : Is x v) : Is (ngB x) (-v) := by
  obtain ⟨s, m, i, e, rfl⟩ := is_number h
  unfold Is
  rw [neg_read, e]
  show dv (.number (!s) m i) = _
  rw [dv_number]
  cases s <;> simp [sgn]
theorem neg_neg (x : Nat) : ngB (ngB x) = x := by
  show (x ^^^ 2 ^ 63) ^^^ 2 ^ 63 = x
  rw [Nat.xor_assoc, Nat.xor_self, Nat.xor_zero]

theorem tiny_is : Is 4382569440205035030 tiny := by unfold Is; decide +kernel
theorem tinyn_is : Is (ngB 4382569440205035030) (-tiny) := by unfold Is; decide +kernel
def Ep : Rat := Es * (7856 / 10000) + 7856 / 10000 * Es + Es * Es + p2 (0 - 54)
def Eq : Rat := Eo 0 * (1 + eta) + (1 + eta) * Eo 0 + Eo 0 * Eo 0 + p2 (1 - 54)
def Et : Rat := Ep + Eq + p2 (1 - 54)
theorem t_fits : (7856 / 10000 : Rat) * (7856 / 10000) + (Es * (7856 / 10000) + 7856 / 10000 * Es + Es * Es) < p2 0 ∧ (1 + eta) * (1 + eta) + (Eo 0 * (1 + eta) + (1 + eta) * Eo 0 + Eo 0 * Eo 0) < p2 1 ∧ 1 + De + Ep + Eq < p2 1 ∧ De + Et < p2 (-40) ∧ De + Et + p2 (-40 - 54) < tiny ∧ 0 ≤ De ∧ 0 ≤ Ep ∧ 0 ≤ Eq := by decide +kernel
/-- The sum of the squares, less 1. -/
theorem squares {a b : Nat} {σ γ u v : Rat} (ha : Is a u) (hb : Is b v) (hu : Near u σ Es) (hv : Near v γ (Eo 0)) (s1 : σ ≤ 7856 / 10000) (s2 : -(7856 / 10000) ≤ σ) (c1 : γ ≤ 1 + eta) (c2 : -(1 + eta) ≤ γ) (hn : Near (σ * σ + γ * γ) 1 De) {r : Nat}
    (hr : Ev (.op .sub (.op .add (.op .mul (.num a) (.num a)) (.op .mul (.num b) (.num b))) (.num one)) r ∨ Ev (.op .sub (.op .add (.op .mul (.num b) (.num b)) (.op .mul (.num a) (.num a))) (.num one)) r) :
    ∃ y, Is r y ∧ y < tiny ∧ -tiny < y := by
  obtain ⟨f1, f2, f3, f4, f5, f6, f7, f8⟩ := t_fits
  obtain ⟨n1, n2⟩ := hn
  have ba := Bd.num ha hu
  have bb := Bd.num hb hv
  have bp : Bd (.op .mul (.num a) (.num a)) (σ * σ) Ep := Bd.mul ba ba _ _ s1 s2 s1 s2 0 (by omega) (by omega) f1
  have bq : Bd (.op .mul (.num b) (.num b)) (γ * γ) Eq := Bd.mul bb bb _ _ c1 c2 c1 c2 1 (by omega) (by omega) f2
  have t1 : (2 : Rat) = p2 1 := by decide
  have bt : Bd (.op .add (.op .mul (.num a) (.num a)) (.op .mul (.num b) (.num b))) (σ * σ + γ * γ) Et := Bd.add bp bq 1 (by omega) (by omega) (by grind) (by grind)
  have bt' : Bd (.op .add (.op .mul (.num b) (.num b)) (.op .mul (.num a) (.num a))) (γ * γ + σ * σ) (Eq + Ep + p2 (1 - 54)) := Bd.add bq bp 1 (by omega) (by omega) (by grind) (by grind)
  have e1 : Eq + Ep + p2 (1 - 54) = Et := by unfold Et; grind
  have e2 : γ * γ + σ * σ = σ * σ + γ * γ := by grind
  rw [e1, e2] at bt'
  have b1 : Bd (.num one) 1 0 := Bd.num one_is (near_zero 1 Rat.le_refl)
  rcases hr with hr | hr
  · obtain ⟨y, y1, y2, y3⟩ := Bd.sub bt b1 (-40) (by omega) (by omega) (by grind) (by grind) r hr
    exact ⟨y, y1, by grind, by grind⟩
  · obtain ⟨y, y1, y2, y3⟩ := Bd.sub bt' b1 (-40) (by omega) (by omega) (by grind) (by grind) r hr
    exact ⟨y, y1, by grind, by grind⟩
end Go.Proofs.YtfamndjiaebmbafDoor
