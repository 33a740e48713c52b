/-
  Sizes by which numbers can be divided; commutative operations. No program here.
-/
import Derived.Test.YtbobnmaeiohnnadLens
import Derived.Test.YtbobnmaeiohnnadInfF
namespace Go.Proofs.Ytbobnmaeiohnnad
open Go Go.RowKit

def divB (x : Nat) : Bool := FloatKind.f64.format.order x 0 == some .gt && !(FloatKind.f64.format.order x 9218868437227405311 == some .gt)
def oneB (x : Nat) : Bool := finB x && !(FloatKind.f64.format.order x 0 == some .eq)
theorem nan_order {x : Nat} (y : Nat) (h : Nan x) : FloatKind.f64.format.order x y = none := by
  obtain ⟨s, t, e⟩ := nan_is h
  unfold Ieee.Format.order
  rw [e]
  rfl
theorem divB_nan {x : Nat} (h : Nan x) : divB x = false ∧ oneB x = false := by
  unfold divB oneB finB
  obtain ⟨s, t, e⟩ := nan_is h
  rw [nan_order _ h, nan_order _ h, e]
  exact ⟨rfl, rfl⟩
theorem divB_same {x y : Nat} (h : FSame x y) : divB x = divB y := by
  rcases h with rfl | ⟨h1, h2⟩
  · rfl
  · rw [(divB_nan h1).1, (divB_nan h2).1]
theorem zero_read : FloatKind.f64.format.read 0 = .number false 0 (-1074) := by decide +kernel
theorem ord_zero (m : Nat) (i : Int) : Ieee.Datum.order (.number false m i) (.number false 0 (-1074)) = some (if m = 0 then .eq else .gt) := by
  simp only [Ieee.Datum.order, Ieee.signed, Bool.false_eq_true, if_false, Nat.zero_shiftLeft]
  congr 1
  by_cases h : m = 0
  · subst h
    rw [if_pos rfl]
    simp
  · rw [if_neg h, Int.compare_eq_gt]
    have : 0 < m <<< (i - min i (-1074)).toNat := by
      rw [Nat.shiftLeft_eq]
      exact Nat.mul_pos (Nat.pos_of_ne_zero h) (Nat.two_pow_pos _)
    omega
theorem ord_max (m : Nat) (i : Int) (hm : m ≤ 9007199254740991) (hi : i ≤ 971) : (Ieee.Datum.order (.number false m i) (.number false 9007199254740991 971) == some .gt) = false := by
  simp only [Ieee.Datum.order, Ieee.signed, Bool.false_eq_true, if_false]
  rw [beq_eq_false_iff_ne]
  intro hh
  simp only [Option.some.injEq] at hh
  rw [Int.compare_eq_gt] at hh
  have h1 : (i - min i 971).toNat = 0 := by omega
  rw [h1] at hh
  have h2 : (9007199254740991 : Nat) ≤ 9007199254740991 <<< (971 - min i 971).toNat := by
    rw [Nat.shiftLeft_eq]
    exact Nat.le_mul_of_pos_right _ (Nat.two_pow_pos _)
  simp only [Nat.shiftLeft_zero] at hh
  omega
theorem divB_up (x : Nat) (h : x ≤ 9218868437227405312) : divB x = oneB x := by
  have sw : FloatKind.f64.format.signWeight = 9223372036854775808 := by decide
  have bn : FloatKind.f64.format.binade = 4503599627370496 := by decide
  have ir : FloatKind.f64.format.infRung = 9218868437227405312 := by decide
  have lp : FloatKind.f64.format.leastPlace = -1074 := by decide
  by_cases hi : x = 9218868437227405312
  · subst hi
    decide +kernel
  have hr : ∃ m i, FloatKind.f64.format.read x = .number false m i ∧ m ≤ 9007199254740991 ∧ i ≤ 971 := by
    unfold Ieee.Format.read
    simp only [sw, bn, ir, lp]
    have e1 : x % 9223372036854775808 = x := by omega
    have e2 : (x / 9223372036854775808 % 2 == 1) = false := by
      have : x / 9223372036854775808 % 2 = 0 := by omega
      rw [this]; rfl
    rw [e1, e2]
    by_cases h1 : x < 4503599627370496
    · rw [if_pos h1]
      exact ⟨_, _, rfl, by omega, by omega⟩
    · rw [if_neg h1, if_pos (by omega)]
      exact ⟨_, _, rfl, by omega, by omega⟩
  obtain ⟨m, i, e, hm, hi⟩ := hr
  unfold divB oneB finB Ieee.Format.order
  rw [e, zero_read, max_read, ord_zero, ord_max m i hm hi]
  by_cases h0 : m = 0
  · rw [if_pos h0]; rfl
  · rw [if_neg h0]; rfl
theorem nearest_up (m : Nat) (i : Int) : FloatKind.f64.format.nearest false m i ≤ 9218868437227405312 := by
  have ir : FloatKind.f64.format.infRung = 9218868437227405312 := by decide
  unfold Ieee.Format.nearest Ieee.Format.word
  split
  · simp
  · simp only [Bool.false_eq_true, if_false]
    rw [ir]
    exact Nat.min_le_right _ _
theorem sq_divB {t r : Nat} (h : FSq t r) : divB r = oneB r := by
  unfold FSq at h
  cases e : FloatKind.f64.format.sqrt t with
  | none =>
    rw [e] at h
    rw [(divB_nan h).1, (divB_nan h).2]
  | some v =>
    rw [e] at h
    have h : r = v := h
    subst h
    unfold Ieee.Format.sqrt at e
    cases ht : FloatKind.f64.format.read t with
    | nan s k => rw [ht] at e; cases e
    | infinity s =>
      rw [ht] at e
      cases s
      · cases e
        decide +kernel
      · cases e
    | number s m i =>
      rw [ht] at e
      simp only [Ieee.Datum.root] at e
      split at e
      · rename_i h0
        subst h0
        cases s
        · cases e
          exact divB_up _ (nearest_up _ _)
        · cases e
          show divB (FloatKind.f64.format.nearest true 0 i) = oneB (FloatKind.f64.format.nearest true 0 i)
          have : FloatKind.f64.format.nearest true 0 i = 9223372036854775808 := by unfold Ieee.Format.nearest; rw [if_pos rfl]; decide
          rw [this]
          decide +kernel
      · split at e
        · cases e
        · cases e
          exact divB_up _ (nearest_up _ _)
/-! what is added or multiplied the other way round -/
theorem prod_comm (a b : Ieee.Datum) : a.product b = b.product a := by
  cases a <;> cases b <;> simp [Ieee.Datum.product, Bool.xor_comm, Nat.mul_comm, Int.add_comm]
theorem sum_comm (a b : Ieee.Datum) : a.sum b = b.sum a := by
  cases a with
  | nan s k => cases b <;> rfl
  | infinity s =>
    cases b with
    | nan t k => rfl
    | infinity t => cases s <;> cases t <;> rfl
    | number t n j => rfl
  | number s m i =>
    cases b with
    | nan t k => rfl
    | infinity t => rfl
    | number t n j =>
      simp only [Ieee.Datum.sum]
      rw [Int.min_comm j i, Int.add_comm (Ieee.signed t n _), Bool.and_comm t s]
theorem bits_mul_comm (x y : Nat) : floatBits .mul .f64 x y = floatBits .mul .f64 y x := by
  show FloatKind.f64.format.mul x y = FloatKind.f64.format.mul y x
  unfold Ieee.Format.mul
  rw [prod_comm]
theorem bits_add_comm (x y : Nat) : floatBits .add .f64 x y = floatBits .add .f64 y x := by
  show FloatKind.f64.format.add x y = FloatKind.f64.format.add y x
  unfold Ieee.Format.add
  rw [sum_comm]
theorem fop_mul_comm {x y r : Nat} (h : FOp .mul x y r) : FOp .mul y x r := by
  unfold FOp at *
  rw [bits_mul_comm]
  exact h
theorem fop_add_comm {x y r : Nat} (h : FOp .add x y r) : FOp .add y x r := by
  unfold FOp at *
  rw [bits_add_comm]
  exact h
end Go.Proofs.Ytbobnmaeiohnnad
