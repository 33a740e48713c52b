/-
  A number's bits and what they stand for; the sum of those that are none or without end.
-/
import Derived.Test.YtmgnobeaacjdjacSumV
import Derived.Test.YtmgnobeaacjdjacFin1
import Derived.Test.YtmgnobeaacjdjacBits1
namespace Go.Proofs.Ytmgnobeaacjdjac
open Go Go.RowKit

theorem swt : FloatKind.f64.format.signWeight = 9223372036854775808 := by decide
theorem bnd : FloatKind.f64.format.binade = 4503599627370496 := by decide
theorem irg : FloatKind.f64.format.infRung = 9218868437227405312 := by decide
theorem read_cases (x : Nat) : (isF x = true ∧ ∃ m i, FloatKind.f64.format.read x = .number (sgB x) m i ∧ (m = 0 ↔ x % 9223372036854775808 = 0)) ∨
    (isF x = false ∧ isN x = false ∧ FloatKind.f64.format.read x = .infinity (sgB x)) ∨ (isF x = false ∧ isN x = true ∧ ∃ t, FloatKind.f64.format.read x = .nan (sgB x) t) := by
  unfold Ieee.Format.read
  simp only [swt, bnd, irg]
  have hs : sgB x = (x / 9223372036854775808 % 2 == 1) := rfl
  rw [← hs]
  unfold isF isN expo frac
  by_cases h1 : x % 9223372036854775808 < 4503599627370496
  · left
    rw [if_pos h1]
    exact ⟨by simp; omega, _, _, rfl, Iff.rfl⟩
  · rw [if_neg h1]
    by_cases h2 : x % 9223372036854775808 < 9218868437227405312
    · left
      rw [if_pos h2]
      exact ⟨by simp; omega, _, _, rfl, by omega⟩
    · rw [if_neg h2]
      right
      by_cases h3 : x % 9223372036854775808 = 9218868437227405312
      · left
        rw [if_pos h3]
        exact ⟨by simp; omega, by simp; omega, rfl⟩
      · right
        rw [if_neg h3]
        exact ⟨by simp; omega, by simp; omega, _, rfl⟩
theorem finB_is (x : Nat) : finB x = isF x := by
  unfold finB
  rcases read_cases x with ⟨h, _, _, e, _⟩ | ⟨h, _, e⟩ | ⟨h, _, _, e⟩ <;> rw [e, h]
theorem nanB_is (x : Nat) : nanB x = isN x := by
  unfold nanB
  rcases read_cases x with ⟨h, _, _, e, _⟩ | ⟨_, h, e⟩ | ⟨_, h, _, e⟩
  · rw [e]
    unfold isF at h
    unfold isN
    simp only [decide_eq_true_eq] at h
    simp [Ieee.Datum.isNaN]
    omega
  · rw [e, h]; rfl
  · rw [e, h]; rfl
theorem nan_iff {x : Nat} : Nan x ↔ isN x = true := by rw [← nanB_is]; exact Iff.rfl
def gtN (x : Nat) : Bool := !sgB x && decide (x % 9223372036854775808 ≠ 0)
theorem zero_read : FloatKind.f64.format.read 0 = .number false 0 FloatKind.f64.format.leastPlace := by decide +kernel
theorem sgn_zero (s : Bool) (k : Nat) : Ieee.signed s 0 k = 0 := by cases s <;> simp [Ieee.signed]
/-- how a number stands to nought. -/
theorem order0 (x : Nat) (h : isN x = false) : FloatKind.f64.format.order x 0 = some (if x % 9223372036854775808 = 0 then .eq else if sgB x then .lt else .gt) := by
  unfold Ieee.Format.order
  rw [zero_read]
  rcases read_cases x with ⟨hf, m, i, e, hm⟩ | ⟨hf, _, e⟩ | ⟨_, h', _⟩
  · rw [e]
    simp only [Ieee.Datum.order, sgn_zero]
    congr 1
    by_cases h0 : m = 0
    · rw [if_pos (hm.1 h0), h0, sgn_zero]
      rfl
    · rw [if_neg fun hh => h0 (hm.2 hh)]
      have h2 : 0 < m <<< (i - min i FloatKind.f64.format.leastPlace).toNat := by
        rw [Nat.shiftLeft_eq]
        exact Nat.mul_pos (by omega) (Nat.two_pow_pos _)
      cases sgB x
      · simp only [Ieee.signed, Bool.false_eq_true, if_false]
        rw [Int.compare_eq_gt]
        omega
      · simp only [Ieee.signed, if_true]
        rw [Int.compare_eq_lt]
        omega
  · rw [e]
    have : ¬ x % 9223372036854775808 = 0 := by
      intro hh
      unfold isF expo at hf
      simp only [decide_eq_false_iff_not] at hf
      omega
    rw [if_neg this]
    cases sgB x <;> rfl
  · rw [h] at h'; cases h'
theorem fin_not_nan {x : Nat} (h : isF x = true) : isN x = false := by
  unfold isF at h
  unfold isN
  simp only [decide_eq_true_eq] at h
  simp
  omega
theorem gt_is (x : Nat) (h : isF x = true) : (FloatKind.f64.format.order x 0 == some .gt) = gtN x := by
  rw [order0 x (fin_not_nan h)]
  unfold gtN
  by_cases h0 : x % 9223372036854775808 = 0
  · simp [h0]
  · cases sgB x <;> simp [h0]
theorem order_nan {x : Nat} (h : isN x = true) (y : Nat) : FloatKind.f64.format.order x y = none := by
  obtain ⟨s, t, e⟩ := nan_is (nan_iff.2 h)
  unfold Ieee.Format.order
  rw [e]
  cases FloatKind.f64.format.read y <;> rfl

/-! those without end -/
theorem nanX_nan : Nan nanX := by unfold Nan; decide +kernel
theorem endV_nan {l : List Nat} {x : Nat} (h : isN x = true) : endV (l ++ [x]) = nanX := by
  unfold endV anyN
  simp [h]
theorem end_step {l : List Nat} {x e r : Nat} (hx : x < 18446744073709551616) (hf : isF x = false) (he : FSame e (endV l)) (h : FOp .add e x r) : FSame r (endV (l ++ [x])) := by
  by_cases hn : isN x = true
  · rw [endV_nan hn]
    unfold FOp at h
    rw [bits_nan_right e (nan_iff.2 hn)] at h
    exact .inr ⟨h, nanX_nan⟩
  · have hn : isN x = false := by simpa using hn
    have hi := inf_or x hx hf hn
    have key : FSame ((floatBits .add .f64 (endV l) x).getD nanX) (endV (l ++ [x])) := by
      have a1 : anyN (l ++ [x]) = anyN l := by unfold anyN; simp [hn]
      have a2 : anyU (l ++ [x]) = (anyU l || x == infU) := by unfold anyU; simp
      have a3 : anyD (l ++ [x]) = (anyD l || x == infD) := by unfold anyD; simp
      unfold endV
      rw [a1, a2, a3]
      have k1 : floatBits .add .f64 nanX x = none := bits_nan_left x nanX_nan
      have n0 : FSame nanX nanX := .refl _
      rcases hi with rfl | rfl
      · have i1 : (infU == infU) = true := by decide
        have i2 : (infU == infD) = false := by decide
        rw [i1, i2, Bool.or_true, Bool.or_false]
        have k2 : floatBits .add .f64 infU infU = some infU := by decide +kernel
        have k3 : floatBits .add .f64 infD infU = none := by decide +kernel
        have k4 : floatBits .add .f64 0 infU = some infU := by decide +kernel
        cases anyN l <;> cases anyU l <;> cases anyD l <;> simp [k1, k2, k3, k4, FSame]
        all_goals exact nanX_nan
      · have i1 : (infD == infD) = true := by decide
        have i2 : (infD == infU) = false := by decide
        rw [i1, i2, Bool.or_true, Bool.or_false]
        have k2 : floatBits .add .f64 infD infD = some infD := by decide +kernel
        have k3 : floatBits .add .f64 infU infD = none := by decide +kernel
        have k4 : floatBits .add .f64 0 infD = some infD := by decide +kernel
        cases anyN l <;> cases anyU l <;> cases anyD l <;> simp [k1, k2, k3, k4, FSame]
        all_goals exact nanX_nan
    refine FSame.trans (h.same ?_ he (.refl x)) key
    unfold FOp
    cases floatBits .add .f64 (endV l) x with
    | none => exact nanX_nan
    | some v => rfl
theorem endV_zero_or (l : List Nat) : endV l = 0 ∨ (endV l ≠ 0 ∧ ∀ e, FSame e (endV l) → (FloatKind.f64.format.order e 0 == some .eq) = false) := by
  have hne : ∀ v, v = nanX ∨ v = infU ∨ v = infD → (v ≠ 0 ∧ ∀ e, FSame e v → (FloatKind.f64.format.order e 0 == some .eq) = false) := by
    intro v hv
    refine ⟨by rcases hv with rfl | rfl | rfl <;> decide, ?_⟩
    intro e he
    rcases he with rfl | ⟨he, _⟩
    · rcases hv with rfl | rfl | rfl <;> decide +kernel
    · rw [order_nan (nan_iff.1 he)]; rfl
  unfold endV
  split
  · exact .inr (hne _ (.inl rfl))
  · split
    · exact .inr (hne _ (.inr (.inl rfl)))
    · split
      · exact .inr (hne _ (.inr (.inr rfl)))
      · exact .inl rfl

/-! above and below nought -/
def posN : List Nat → Nat
  | [] => 0
  | x :: l => (if isF x && gtN x then U x else 0) + posN l
def negN : List Nat → Nat
  | [] => 0
  | x :: l => (if isF x && !gtN x then U x else 0) + negN l
theorem posN_append (a b : List Nat) : posN (a ++ b) = posN a + posN b := by
  induction a with
  | nil => simp [posN]
  | cons x a ih => simp only [List.cons_append, posN, ih]; omega
theorem negN_append (a b : List Nat) : negN (a ++ b) = negN a + negN b := by
  induction a with
  | nil => simp [negN]
  | cons x a ih => simp only [List.cons_append, negN, ih]; omega
theorem posneg (l : List Nat) : (posN l : Int) - negN l = sumZ l := by
  induction l with
  | nil => rfl
  | cons x l ih =>
    have h : (((if isF x && gtN x then U x else 0 : Nat) : Int) - ((if isF x && !gtN x then U x else 0 : Nat) : Int)) = ofF x := by
      unfold ofF gtN
      by_cases h0 : x % 9223372036854775808 = 0
      · have hU := U_zero.2 h0
        rw [hU]
        simp
      · cases isF x <;> cases sgB x <;> simp [h0]
    simp only [posN, negN, sumZ, ← h, ← ih]
    omega
theorem posN_le (l : List Nat) : posN l ≤ l.length * cap98 := by
  induction l with
  | nil => simp [posN]
  | cons x l ih =>
    have h : (if isF x && gtN x then U x else 0) ≤ cap98 := by
      split
      · rename_i h
        rw [Bool.and_eq_true] at h
        exact Nat.le_of_lt (U_lt x h.1)
      · omega
    simp only [posN, List.length_cons, Nat.add_mul, Nat.one_mul]
    omega
theorem negN_le (l : List Nat) : negN l ≤ l.length * cap98 := by
  induction l with
  | nil => simp [negN]
  | cons x l ih =>
    have h : (if isF x && !gtN x then U x else 0) ≤ cap98 := by
      split
      · rename_i h
        rw [Bool.and_eq_true] at h
        exact Nat.le_of_lt (U_lt x h.1)
      · omega
    simp only [negN, List.length_cons, Nat.add_mul, Nat.one_mul]
    omega
end Go.Proofs.Ytmgnobeaacjdjac
