/-
  A number without its sign; zeros of either sign; the document's test at them.
-/
import Derived.Test.YtfamndjiaebmbaeAngOf
import Derived.Test.YtfamndjiaebmbaeInfF
namespace Go.Proofs.Ytfamndjiaebmbae
open Go Go.RowKit

def isZ (x : Nat) : Prop := x = 0 ∨ x = 9223372036854775808
theorem read_zero {z : Nat} (h : isZ z) : ∃ s, FloatKind.f64.format.read z = .number s 0 FloatKind.f64.format.leastPlace := by
  rcases h with rfl | rfl
  · exact ⟨false, by decide +kernel⟩
  · exact ⟨true, by decide +kernel⟩
theorem mul_zero {s z : Nat} (hs : finB s = true) (hz : isZ z) : ∃ r, floatBits .mul .f64 s z = some r ∧ isZ r := by
  obtain ⟨b, hb⟩ := read_zero hz
  unfold finB at hs
  cases e : FloatKind.f64.format.read s with
  | number a m i =>
    refine ⟨FloatKind.f64.format.word (a ^^ b) 0, ?_, ?_⟩
    · show (FloatKind.f64.format.mul s z) = _
      unfold Ieee.Format.mul
      rw [e, hb]
      simp only [Ieee.Datum.product, Nat.mul_zero, Option.map_some, Ieee.Format.write, Ieee.Format.nearest, if_true]
    · cases (a ^^ b)
      · left; decide +kernel
      · right; decide +kernel
  | infinity a => rw [e] at hs; cases hs
  | nan a t => rw [e] at hs; cases hs
theorem signed_zero (s : Bool) (k : Nat) : Ieee.signed s 0 k = 0 := by cases s <;> simp [Ieee.signed]
theorem order_zero_left {r r' : Nat} (h : isZ r) (h' : isZ r') (a : Nat) : FloatKind.f64.format.order r a = FloatKind.f64.format.order r' a := by
  obtain ⟨s, e⟩ := read_zero h
  obtain ⟨s', e'⟩ := read_zero h'
  unfold Ieee.Format.order
  rw [e, e']
  cases FloatKind.f64.format.read a with
  | number t n j => simp only [Ieee.Datum.order, signed_zero]
  | infinity t => rfl
  | nan t n => rfl
theorem order_zero_right {r r' : Nat} (h : isZ r) (h' : isZ r') (a : Nat) : FloatKind.f64.format.order a r = FloatKind.f64.format.order a r' := by
  obtain ⟨s, e⟩ := read_zero h
  obtain ⟨s', e'⟩ := read_zero h'
  unfold Ieee.Format.order
  rw [e, e']
  cases FloatKind.f64.format.read a with
  | number t n j => simp only [Ieee.Datum.order, signed_zero]
  | infinity t => rfl
  | nan t n => rfl
/-- the same, or both nought. -/
def alike (u u' : Nat) : Prop := u = u' ∨ (isZ u ∧ isZ u')
theorem evl_mul {s u u' : Nat} (hs : finB s = true) (h : alike u u') : alike (evl (.op .mul (.num s) (.num u))) (evl (.op .mul (.num s) (.num u'))) := by
  rcases h with rfl | ⟨h, h'⟩
  · exact .inl rfl
  · obtain ⟨r, e, z⟩ := mul_zero hs h
    obtain ⟨r', e', z'⟩ := mul_zero hs h'
    right
    simp only [evl]
    rw [e, e']
    exact ⟨z, z'⟩
theorem leB_alike {a a' b b' : Nat} (h : alike a a') (k : alike b b') : leB a b = leB a' b' := by
  have e : FloatKind.f64.format.order a b = FloatKind.f64.format.order a' b' := by
    rcases h with rfl | ⟨h, h'⟩
    · rcases k with rfl | ⟨k, k'⟩
      · rfl
      · exact order_zero_right k k' a
    · rw [order_zero_left h h' b]
      rcases k with rfl | ⟨k, k'⟩
      · rfl
      · exact order_zero_right k k' a'
  unfold leB
  rw [e]
theorem fin_of_is {x : Nat} {v : Rat} (h : Is x v) : finB x = true := by
  obtain ⟨s, m, i, e, _⟩ := is_number h
  unfold finB
  rw [e]
theorem fin_neg {x : Nat} (h : finB x = true) : finB (ngB x) = true := by
  unfold finB at *
  rw [neg_read]
  cases e : FloatKind.f64.format.read x with
  | number s m i => rfl
  | infinity s => rw [e] at h; cases h
  | nan s t => rw [e] at h; cases h
theorem sc_fin (a : Int) : finB (sV (rOf a)) = true ∧ finB (cV (rOf a)) = true := by
  have hr := rOf_range a
  obtain ⟨_, _, _, _, h1, h2, _⟩ := point (rOf a) (by omega) hr.1 (ev_evl (sE (rOf a))) (ev_evl (cE (rOf a)))
  exact ⟨fin_of_is h1, fin_of_is h2⟩
theorem sin_fin (a : Int) : finB (sinV a) = true := by
  obtain ⟨h1, h2⟩ := sc_fin a
  unfold sinV turnS
  repeat' split
  all_goals first | assumption | exact fin_neg (by assumption)
theorem cos_fin (a : Int) : finB (cosV a) = true := by
  obtain ⟨h1, h2⟩ := sc_fin a
  unfold cosV turnC
  repeat' split
  all_goals first | assumption | exact fin_neg (by assumption)
theorem tst_alike {u u' v v' : Nat} (hu : alike u u') (hv : alike v v') : tst u v = tst u' v' := by
  funext m
  exact leB_alike (evl_mul (sin_fin m) hu) (evl_mul (cos_fin m) hv)
theorem bisV_alike {u u' v v' : Nat} (hu : alike u u') (hv : alike v v') : bisV u v = bisV u' v' := by
  unfold bisV
  rw [tst_alike hu hv]

/-! a number's sign -/
theorem read_rung (x : Nat) (h : finB x = true) : x % 9223372036854775808 < 9218868437227405312 ∧ ∃ m i, FloatKind.f64.format.read x = .number (x / 9223372036854775808 % 2 == 1) m i ∧ (m = 0 ↔ x % 9223372036854775808 = 0) := by
  have sw : FloatKind.f64.format.signWeight = 9223372036854775808 := by decide
  have bn : FloatKind.f64.format.binade = 4503599627370496 := by decide
  have ir : FloatKind.f64.format.infRung = 9218868437227405312 := by decide
  unfold finB at h
  unfold Ieee.Format.read at *
  simp only [sw, bn, ir] at *
  by_cases h1 : x % 9223372036854775808 < 4503599627370496
  · rw [if_pos h1]
    exact ⟨by omega, _, _, rfl, Iff.rfl⟩
  · rw [if_neg h1] at h ⊢
    by_cases h2 : x % 9223372036854775808 < 9218868437227405312
    · rw [if_pos h2]
      exact ⟨h2, _, _, rfl, by omega⟩
    · rw [if_neg h2] at h
      split at h
      · rename_i e
        split at e
        · cases e
        · cases e
      · cases h
theorem ltz_is (x : Nat) (h : finB x = true) : ltz x = ((x / 9223372036854775808 % 2 == 1) && decide (x % 9223372036854775808 ≠ 0)) := by
  obtain ⟨_, m, i, e, hm⟩ := read_rung x h
  obtain ⟨t, e0⟩ := read_zero (z := 0) (.inl rfl)
  unfold ltz Ieee.Format.order
  rw [e, e0]
  simp only [Ieee.Datum.order, signed_zero]
  cases (x / 9223372036854775808 % 2 == 1) with
  | false =>
    simp only [Ieee.signed, Bool.false_eq_true, if_false, Bool.false_and]
    rw [beq_eq_false_iff_ne]
    intro hh
    simp only [Option.some.injEq] at hh
    rw [Int.compare_eq_lt] at hh
    exact absurd hh (Int.not_lt.2 (Int.natCast_nonneg _))
  | true =>
    simp only [Ieee.signed, if_true, Bool.true_and]
    by_cases h0 : m = 0
    · have := hm.1 h0
      subst h0
      simp [this]
    · have h1 : ¬ x % 9223372036854775808 = 0 := fun hh => h0 (hm.2 hh)
      have h2 : 0 < m <<< (i - min i FloatKind.f64.format.leastPlace).toNat := by
        rw [Nat.shiftLeft_eq]
        exact Nat.mul_pos (by omega) (Nat.two_pow_pos _)
      simp only [h1, ne_eq, not_false_eq_true, decide_true, beq_iff_eq, Option.some.injEq]
      rw [Int.compare_eq_lt]
      omega
theorem abs_alike (x : Nat) (hx : x < 18446744073709551616) (h : finB x = true) : alike (szB x) (absB x) := by
  have hl := ltz_is x h
  unfold szB
  cases e : ltz x with
  | true =>
    rw [e] at hl
    simp only [if_true]
    have hl := hl.symm
    rw [Bool.and_eq_true] at hl
    left
    have h1 := ng_low x
    have h2 := ng_top x
    rw [hl.1] at h2
    unfold absB
    have h3 : ngB x < 18446744073709551616 := by
      unfold ngB Op.negFloat
      exact Nat.xor_lt_two_pow (n := 64) (by omega) (by decide)
    simp at h2
    omega
  | false =>
    rw [e] at hl
    simp only [Bool.false_eq_true, if_false]
    by_cases h1 : x < 9223372036854775808
    · left; unfold absB; omega
    · have h2 : (x / 9223372036854775808 % 2 == 1) = true := by rw [beq_iff_eq]; omega
      rw [h2] at hl
      simp at hl
      right
      unfold isZ absB
      omega
theorem bisV_abs {x y : Nat} (hx : x < 18446744073709551616) (hy : y < 18446744073709551616) (fx : finB x = true) (fy : finB y = true) : bisV (absB x) (absB y) = bisV (szB x) (szB y) :=
  (bisV_alike (abs_alike x hx fx) (abs_alike y hy fy)).symm
end Go.Proofs.Ytfamndjiaebmbae
