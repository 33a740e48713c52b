/-
  Whole numbers over each other, bit by bit, and rounded down. Nothing of the program.
-/
import Derived.Test.YtoacdaemhcbbhaaDoorBigA
namespace Go.Proofs.YtoacdaemhcbbhaaDoor

def divB (P c : Int) : Nat → Int → Int
  | 0, q => q
  | k + 1, q => divB P c k (if c * (q + 2 ^ k) ≤ P then q + 2 ^ k else q)
theorem divB_is {P c : Int} : ∀ (k : Nat) (q : Int), 0 ≤ q → c * q ≤ P → P < c * (q + 2 ^ k) → 0 ≤ divB P c k q ∧ c * divB P c k q ≤ P ∧ P < c * (divB P c k q + 1)
  | 0, q, h0, h1, h2 => ⟨h0, h1, by show P < c * (q + 1); simpa using h2⟩
  | k + 1, q, h0, h1, h2 => by
    have hp : (0 : Int) < 2 ^ k := Int.pow_pos (by decide)
    have e : (2 : Int) ^ (k + 1) = 2 ^ k + 2 ^ k := by rw [Int.pow_succ]; omega
    unfold divB
    split
    · rename_i h
      refine divB_is k _ (by omega) h ?_
      rw [e] at h2
      rw [show q + 2 ^ k + 2 ^ k = q + (2 ^ k + 2 ^ k) by omega]
      exact h2
    · rename_i h
      exact divB_is k q h0 h1 (by omega)
theorem div_of {P c q : Int} (hc : 0 < c) (h1 : c * q ≤ P) (h2 : P < c * (q + 1)) : q = P / c := by
  refine Int.le_antisymm ?_ ?_
  · rw [Int.le_ediv_iff_mul_le hc, Int.mul_comm]
    exact h1
  · have : P / c < q + 1 := by
      rw [Int.ediv_lt_iff_lt_mul hc, Int.mul_comm]
      exact h2
    omega
theorem divB_div {P c : Int} (hc : 0 < c) (h0 : 0 ≤ P) (h : P < c * 4611686018427387904) : divB P c 62 0 = P / c := by
  obtain ⟨_, h1, h2⟩ := divB_is (P := P) (c := c) 62 0 (by omega) (by simpa using h0) (by rw [show (0 : Int) + 2 ^ 62 = 4611686018427387904 by decide]; exact h)
  exact div_of hc h1 h2
/-- of a number below 0, rounded down. -/
theorem neg_floor {n c : Int} (hc : 0 < c) : -n / c = if c * (n / c) = n then -(n / c) else -(n / c) - 1 := by
  have a1 := Int.mul_ediv_self_le (x := n) (k := c) (by omega)
  have a2 := Int.lt_mul_ediv_self_add (x := n) (k := c) hc
  symm
  split
  · rename_i h
    refine div_of hc ?_ ?_
    · rw [Int.mul_neg, h]
      exact Int.le_refl _
    · rw [Int.mul_add, Int.mul_neg, h]
      omega
  · rename_i h
    refine div_of hc ?_ ?_
    · rw [Int.mul_sub, Int.mul_neg]
      omega
    · rw [show -(n / c) - 1 + 1 = -(n / c) by omega, Int.mul_neg]
      omega
def sgnI (a : Int) : Int := if a < 0 then -1 else 1
def absI (a : Int) : Int := if a < 0 then -a else a
theorem absI_nonneg (a : Int) : 0 ≤ absI a := by unfold absI; split <;> omega
theorem sgn_abs (a : Int) : a = sgnI a * absI a := by
  unfold sgnI absI
  split <;> omega
theorem sgnI_two (a : Int) : sgnI a = 1 ∨ sgnI a = -1 := by
  unfold sgnI
  split <;> simp
theorem mul_sgn (a b : Int) : a * b = (sgnI a * sgnI b) * (absI a * absI b) := by
  have e1 := sgn_abs a
  have e2 := sgn_abs b
  generalize sgnI a = s at *
  generalize sgnI b = t at *
  generalize absI a = x at *
  generalize absI b = y at *
  subst e1 e2
  rw [Int.mul_assoc, Int.mul_assoc, Int.mul_left_comm x t y]
theorem sgn_mul_two (a b : Int) : sgnI a * sgnI b = 1 ∨ sgnI a * sgnI b = -1 := by
  rcases sgnI_two a with h | h <;> rcases sgnI_two b with k | k <;> rw [h, k] <;> simp
/-- a times b over c, rounded down. -/
theorem floor_by (a b : Int) {c : Int} (hc : 0 < c) : a * b / c = if 0 < sgnI a * sgnI b then absI a * absI b / c else if c * (absI a * absI b / c) = absI a * absI b then -(absI a * absI b / c) else -(absI a * absI b / c) - 1 := by
  rw [mul_sgn a b]
  rcases sgn_mul_two a b with h | h
  · rw [h, if_pos (by decide), Int.one_mul]
  · rw [h, if_neg (by decide), Int.neg_mul, Int.one_mul]
    exact neg_floor hc
theorem mul_size {a b A B : Int} (h1 : absI a ≤ A) (h2 : absI b ≤ B) (hA : 0 ≤ A) : absI a * absI b ≤ A * B :=
  Int.mul_le_mul h1 h2 (absI_nonneg b) hA
theorem div_range {n c C : Int} (h0 : 0 ≤ n) (hc : 0 < c) (h : n < c * C) : 0 ≤ n / c ∧ n / c < C := by
  refine ⟨Int.ediv_nonneg h0 (by omega), ?_⟩
  rw [Int.ediv_lt_iff_lt_mul hc, Int.mul_comm]
  exact h
end Go.Proofs.YtoacdaemhcbbhaaDoor
