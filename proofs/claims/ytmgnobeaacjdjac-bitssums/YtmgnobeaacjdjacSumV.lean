/-
  The exact sum of numbers with a point, rounded once: what it is. No program here.
-/
import Derived.Test.YtmgnobeaacjdjacDig
import GoSem.Op.Unary
namespace Go.Proofs.Ytmgnobeaacjdjac
open Go

/-! a number's bits -/
def expo (x : Nat) : Nat := x / 4503599627370496 % 2048
def frac (x : Nat) : Nat := x % 4503599627370496
def szU (x : Nat) : Nat := if expo x = 0 then frac x else frac x + 4503599627370496
def upU (x : Nat) : Nat := expo x - 1
/-- its size in units of the least number. -/
def U (x : Nat) : Nat := szU x * 2 ^ upU x
def isF (x : Nat) : Bool := decide (expo x < 2047)
def isN (x : Nat) : Bool := decide (expo x = 2047 ∧ frac x ≠ 0)
def sgB (x : Nat) : Bool := x / 9223372036854775808 % 2 == 1
def infU : Nat := 9218868437227405312
def infD : Nat := 18442240474082181120
def nanX : Nat := 9221120237041090561
def ngN (x : Nat) : Nat := Op.negFloat .f64 x
theorem szU_lt (x : Nat) : szU x < 9007199254740992 := by unfold szU frac; split <;> omega
theorem upU_le (x : Nat) (h : isF x = true) : upU x ≤ 2045 := by
  unfold isF at h
  simp at h
  unfold upU
  omega
def capOf (k : Nat) : Nat := 2 ^ (53 + k)
def cap98 : Nat := capOf 2045
theorem capOf_lt {s a k : Nat} (h1 : s < 9007199254740992) (h2 : a ≤ k) : s * 2 ^ a < capOf k := by
  unfold capOf
  rw [Nat.pow_add, show (2 : Nat) ^ 53 = 9007199254740992 by decide]
  exact Nat.lt_of_lt_of_le (Nat.mul_lt_mul_of_pos_right h1 (Nat.two_pow_pos _)) (Nat.mul_le_mul_left _ (Nat.pow_le_pow_right (by decide) h2))
theorem U_lt (x : Nat) (h : isF x = true) : U x < cap98 := capOf_lt (szU_lt x) (upU_le x h)
theorem U_zero {x : Nat} : U x = 0 ↔ x % 9223372036854775808 = 0 := by
  unfold U szU frac expo
  rw [Nat.mul_eq_zero]
  have := Nat.two_pow_pos (upU x)
  constructor
  · rintro (h | h)
    · split at h <;> omega
    · omega
  · intro h
    left
    split <;> omega
theorem inf_or (x : Nat) (hx : x < 18446744073709551616) (hf : isF x = false) (hn : isN x = false) : x = infU ∨ x = infD := by
  unfold isF at hf
  unfold isN at hn
  simp at hf hn
  unfold expo frac at *
  unfold infU infD
  omega

/-! rounding -/
def roundUp (n up : Nat) : Bool := decide (0 < up) && (decide (n / 2 ^ (up - 1) % 2 = 1) && (decide (n / 2 ^ up % 2 = 1) || decide (n % 2 ^ (up - 1) ≠ 0)))
def cutN (n : Nat) : Nat := bitLen n - 53
def rndB (n : Nat) : Nat := n / 2 ^ cutN n + (roundUp n (cutN n)).toNat
def rnd (n : Nat) : Nat := if 2046 ≤ cutN n then infU else rndB n + cutN n * 4503599627370496
theorem cut_lt (n : Nat) : n / 2 ^ cutN n < 9007199254740992 := by
  have h := (bitLen_spec n).1
  refine Nat.div_lt_of_lt_mul ?_
  rw [show (9007199254740992 : Nat) = 2 ^ 53 by decide, ← Nat.pow_add]
  refine Nat.lt_of_lt_of_le h (Nat.pow_le_pow_right (by decide) ?_)
  unfold cutN
  omega
theorem cut_ge (n : Nat) (h : 0 < cutN n) : 4503599627370496 ≤ n / 2 ^ cutN n := by
  have h0 : n ≠ 0 := by rintro rfl; simp [cutN, bitLen] at h
  have h1 := (bitLen_spec n).2 h0
  refine (Nat.le_div_iff_mul_le (Nat.two_pow_pos _)).2 ?_
  rw [show (4503599627370496 : Nat) = 2 ^ 52 by decide, ← Nat.pow_add]
  refine Nat.le_trans (Nat.pow_le_pow_right (by decide) ?_) h1
  unfold cutN at *
  omega
theorem rndB_le (n : Nat) : rndB n ≤ 9007199254740992 := by
  have := cut_lt n
  unfold rndB
  have h : (roundUp n (cutN n)).toNat ≤ 1 := by cases roundUp n (cutN n) <;> decide
  omega
/-- the other way to infinity. -/
theorem rnd_other (n : Nat) : rnd n = if 9218868437227405312 ≤ rndB n + cutN n * 4503599627370496 then infU else rndB n + cutN n * 4503599627370496 := by
  have h1 := rndB_le n
  unfold rnd
  by_cases h : 2046 ≤ cutN n
  · have h2 := cut_ge n (by omega)
    have h3 : n / 2 ^ cutN n ≤ rndB n := by unfold rndB; omega
    rw [if_pos h, if_pos (by omega)]
  · rw [if_neg h]
    by_cases h' : 9218868437227405312 ≤ rndB n + cutN n * 4503599627370496
    · rw [if_pos h']; unfold infU; omega
    · rw [if_neg h']
theorem rnd_le (n : Nat) : rnd n ≤ 9218868437227405312 := by
  rw [rnd_other]
  unfold infU
  split <;> omega
theorem rnd_zero {n : Nat} : rnd n = 0 ↔ n = 0 := by
  constructor
  · intro h
    unfold rnd at h
    split at h
    · unfold infU at h; omega
    · rename_i h'
      have hc : cutN n = 0 := by omega
      rw [hc] at h
      unfold rndB at h
      rw [hc] at h
      simp at h
      exact h.1
  · rintro rfl
    decide

/-! sums -/
def ofF (x : Nat) : Int := if isF x then (if sgB x then -(U x : Int) else (U x : Int)) else 0
def sumZ : List Nat → Int
  | [] => 0
  | x :: l => ofF x + sumZ l
theorem sumZ_append (a b : List Nat) : sumZ (a ++ b) = sumZ a + sumZ b := by
  induction a with
  | nil => simp [sumZ]
  | cons x a ih => simp only [List.cons_append, sumZ, ih]; omega
theorem sumZ_reverse (a : List Nat) : sumZ a.reverse = sumZ a := by
  induction a with
  | nil => rfl
  | cons x a ih => rw [List.reverse_cons, sumZ_append, ih]; simp only [sumZ]; omega
theorem ofF_bound (x : Nat) : ofF x ≤ cap98 ∧ -(cap98 : Int) ≤ ofF x := by
  unfold ofF
  by_cases hf : isF x = true
  · have := U_lt x hf
    rw [if_pos hf]
    split <;> omega
  · rw [if_neg hf]; omega
theorem sumZ_bound (a : List Nat) : sumZ a ≤ ((a.length * cap98 : Nat) : Int) ∧ -((a.length * cap98 : Nat) : Int) ≤ sumZ a := by
  induction a with
  | nil => simp [sumZ]
  | cons x a ih =>
    have h := ofF_bound x
    simp only [sumZ, List.length_cons]
    rw [Nat.add_mul, Nat.one_mul]
    omega
def anyN (l : List Nat) : Bool := l.any isN
def anyU (l : List Nat) : Bool := l.any fun x => x == infU
def anyD (l : List Nat) : Bool := l.any fun x => x == infD
def allM (l : List Nat) : Bool := l.all fun x => x == 9223372036854775808
def endV (l : List Nat) : Nat := if anyN l || (anyU l && anyD l) then nanX else if anyU l then infU else if anyD l then infD else 0
def finV (z : Int) : Nat := if z < 0 then ngN (rnd z.natAbs) else rnd z.natAbs
def sumV (l : List Nat) : Nat := if endV l ≠ 0 then endV l else if l ≠ [] ∧ allM l then 9223372036854775808 else finV (sumZ l)
theorem endV_step (l : List Nat) (x : Nat) (h : isF x = true) : endV (l ++ [x]) = endV l := by
  have h1 : isN x = false := by unfold isF at h; unfold isN; simp at *; omega
  have h2 : (x == infU) = false := by rw [beq_eq_false_iff_ne]; rintro rfl; revert h; decide
  have h3 : (x == infD) = false := by rw [beq_eq_false_iff_ne]; rintro rfl; revert h; decide
  unfold endV anyN anyU anyD
  simp [h1, h2, h3]
theorem endV_append (a b : List Nat) : endV (a ++ b) = endV (b ++ a) := by
  unfold endV anyN anyU anyD
  simp only [List.any_append, Bool.or_comm]
theorem endV_reverse (a b : List Nat) : endV (a ++ b.reverse) = endV (a ++ b) := by
  unfold endV anyN anyU anyD
  simp only [List.any_append, List.any_reverse]
/-- the sum hangs on no order. -/
theorem sumV_turned (l : List Nat) (k : Nat) : sumV (l.drop k ++ (l.take k).reverse) = sumV l := by
  have e1 : endV (l.drop k ++ (l.take k).reverse) = endV l := by rw [endV_reverse, endV_append, List.take_append_drop]
  have e2 : sumZ (l.drop k ++ (l.take k).reverse) = sumZ l := by
    rw [sumZ_append, sumZ_reverse, Int.add_comm, ← sumZ_append, List.take_append_drop]
  have e3 : allM (l.drop k ++ (l.take k).reverse) = allM l := by
    unfold allM
    rw [List.all_append, List.all_reverse, Bool.and_comm, ← List.all_append, List.take_append_drop]
  have e4 : (l.drop k ++ (l.take k).reverse ≠ []) ↔ l ≠ [] := by
    rw [ne_eq, ne_eq, ← List.length_eq_zero_iff, ← List.length_eq_zero_iff, List.length_append, List.length_drop, List.length_reverse, List.length_take]
    omega
  unfold sumV
  rw [e1, e2, e3]
  simp only [e4]
theorem ofF_neg (x : Nat) (hx : x < 18446744073709551616) : ofF (ngN x) = -ofF x ∧ isF (ngN x) = isF x ∧ ngN x < 18446744073709551616 := by
  have hn : ngN x = if x < 9223372036854775808 then x + 9223372036854775808 else x - 9223372036854775808 := by
    unfold ngN Op.negFloat
    have e : (2 : Nat) ^ (FloatKind.f64.format.exponentBits + FloatKind.f64.format.fractionBits) = 2 ^ 63 := by decide
    rw [e]
    split
    · rename_i h
      have e1 := Nat.two_pow_add_eq_or_of_lt (i := 63) (show x < 2 ^ 63 by omega) 1
      have e2 : x ^^^ 2 ^ 63 = 2 ^ 63 * 1 + x := by
        rw [e1]
        apply Nat.eq_of_testBit_eq
        intro i
        simp only [Nat.testBit_xor, Nat.testBit_or, Nat.mul_one, Nat.testBit_two_pow]
        by_cases hi : i = 63
        · subst hi
          rw [Nat.testBit_lt_two_pow (by omega)]
          simp
        · have : ¬ 63 = i := fun h => hi h.symm
          simp [this]
      omega
    · rename_i h
      have e3 : x = 2 ^ 63 * 1 + (x - 2 ^ 63) := by omega
      have e1 := Nat.two_pow_add_eq_or_of_lt (i := 63) (show x - 2 ^ 63 < 2 ^ 63 by omega) 1
      rw [e3, e1]
      apply Nat.eq_of_testBit_eq
      intro i
      simp only [Nat.testBit_xor, Nat.testBit_or, Nat.mul_one, Nat.testBit_two_pow]
      by_cases hi : i = 63
      · subst hi
        have e5 : (2 ^ 63 ||| x - 2 ^ 63) - 9223372036854775808 = x - 2 ^ 63 := by rw [← Nat.mul_one (2 ^ 63), ← e1]; omega
        rw [e5, Nat.testBit_lt_two_pow (by omega)]
        simp
      · have : ¬ 63 = i := fun h => hi h.symm
        have e5 : (2 ^ 63 ||| x - 2 ^ 63) - 9223372036854775808 = x - 2 ^ 63 := by rw [← Nat.mul_one (2 ^ 63), ← e1]; omega
        rw [e5]
        simp [this]
  have he : expo (ngN x) = expo x := by rw [hn]; unfold expo; split <;> omega
  have hf : frac (ngN x) = frac x := by rw [hn]; unfold frac; split <;> omega
  have hs : sgB (ngN x) = !sgB x := by
    rw [hn]; unfold sgB
    split
    · rename_i h
      rw [show (x + 9223372036854775808) / 9223372036854775808 % 2 = 1 by omega, show x / 9223372036854775808 % 2 = 0 by omega]; rfl
    · rename_i h
      rw [show (x - 9223372036854775808) / 9223372036854775808 % 2 = 0 by omega, show x / 9223372036854775808 % 2 = 1 by omega]; rfl
  have hi : isF (ngN x) = isF x := by unfold isF; rw [he]
  refine ⟨?_, hi, by rw [hn]; split <;> omega⟩
  have hU : U (ngN x) = U x := by unfold U szU upU; rw [he, hf]
  unfold ofF
  rw [hi, hs, hU]
  cases isF x <;> cases sgB x <;> simp
/-- what is taken away again is as if it had not been there. -/
theorem sumV_again (l : List Nat) (x : Nat) (hx : x < 18446744073709551616) (hf : isF x = true) (h0 : endV l = 0 → sumZ l ≠ 0) : sumV (l ++ [x] ++ [ngN x]) = sumV l := by
  obtain ⟨n1, n2, _⟩ := ofF_neg x hx
  have e1 : endV (l ++ [x] ++ [ngN x]) = endV l := by rw [endV_step _ _ (n2.trans hf), endV_step _ _ hf]
  have e2 : sumZ (l ++ [x] ++ [ngN x]) = sumZ l := by rw [sumZ_append, sumZ_append]; simp only [sumZ, n1]; omega
  unfold sumV
  rw [e1, e2]
  by_cases he : endV l ≠ 0
  · rw [if_pos he, if_pos he]
  · rw [if_neg he, if_neg he]
    have hz := h0 (by simpa using he)
    have hm : ∀ a : List Nat, sumZ a ≠ 0 → ¬ (a ≠ [] ∧ allM a = true) := by
      rintro a ha ⟨hne, hall⟩
      apply ha
      unfold allM at hall
      clear ha hne
      induction a with
      | nil => rfl
      | cons y a ih =>
        rw [List.all_cons, Bool.and_eq_true] at hall
        obtain ⟨h1, h2⟩ := hall
        have hy : y = 9223372036854775808 := by simpa using h1
        subst hy
        have : ofF 9223372036854775808 = 0 := by decide
        rw [sumZ, this]
        rw [ih h2]; rfl
    rw [if_neg (hm l hz), if_neg (hm _ (by rw [e2]; exact hz))]
end Go.Proofs.Ytmgnobeaacjdjac
