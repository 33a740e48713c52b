
/-
  Two digits by one, as math/bits.Div64 does it: the reckoning. Nothing of the program.
-/
namespace Go.Proofs.YtkdmeclbnnjdgalDoor

/-- one digit of the quotient: too great or not. -/
theorem digit_test {u e y1 y0 q r K : Nat} (h : q * y1 + r = u) : K * r + e < q * y0 ↔ u * K + e < q * (y1 * K + y0) := by
  subst h
  have a : (q * y1 + r) * K = q * y1 * K + K * r := by rw [Nat.add_mul, Nat.mul_comm r K]
  have b : q * (y1 * K + y0) = q * y1 * K + q * y0 := by rw [Nat.mul_add, Nat.mul_assoc]
  rw [a, b]
  omega
theorem digit_less {u e y K : Nat} (hu : u < y) (he : e < K) : (u * K + e) / y < K := by
  rw [Nat.div_lt_iff_lt_mul (by omega)]
  have : (u + 1) * K ≤ y * K := Nat.mul_le_mul_right K hu
  rw [Nat.add_mul, Nat.one_mul] at this
  rw [Nat.mul_comm K y]
  omega
/-- the state of the loop over a digit. -/
structure Digit (u e y1 y0 K q r : Nat) : Prop where
  sum : q * y1 + r = u
  ge : (u * K + e) / (y1 * K + y0) ≤ q
  rl : r < K
theorem digit_first {u e y1 y0 K : Nat} (h1 : 0 < y1) (h2 : y1 < K) (he : e < K) : Digit u e y1 y0 K (u / y1) (u % y1) := by
  refine ⟨Nat.div_add_mod' u y1, ?_, Nat.lt_trans (Nat.mod_lt _ h1) h2⟩
  have hy : y1 * K ≤ y1 * K + y0 := Nat.le_add_right _ _
  have hpos : 0 < y1 * K := Nat.mul_pos h1 (by omega)
  refine Nat.le_trans (Nat.div_le_div_left hy hpos) ?_
  rw [Nat.mul_comm y1 K, ← Nat.div_div_eq_div_mul]
  have : (u * K + e) / K = u := by
    rw [Nat.mul_comm u K, Nat.mul_add_div (by omega), Nat.div_eq_of_lt he, Nat.add_zero]
  rw [this]
  exact Nat.le_refl _
theorem Digit.small {u e y1 y0 K q r : Nat} (h : Digit u e y1 y0 K q r) (hq : q < K) (h0 : y0 < K) : q * y0 < K * K ∧ K * r + e < K * K + e := by
  have a : q * y0 < K * K := by
    rcases Nat.eq_zero_or_pos q with z | z
    · subst z
      rw [Nat.zero_mul]
      exact Nat.mul_pos (by omega) (by omega)
    · exact Nat.mul_lt_mul_of_lt_of_lt hq h0
  have b : K * r < K * K := Nat.mul_lt_mul_of_pos_left h.rl (by omega)
  exact ⟨a, by omega⟩
/-- the test fails: it is the digit. -/
theorem Digit.done {u e y1 y0 K q r : Nat} (h : Digit u e y1 y0 K q r) (h1 : 0 < y1) (hK : 0 < K) (ht : ¬ K * r + e < q * y0) : q = (u * K + e) / (y1 * K + y0) := by
  have hp : 0 < y1 * K + y0 := Nat.add_pos_left (Nat.mul_pos h1 hK) _
  refine Nat.le_antisymm ?_ h.ge
  rw [Nat.le_div_iff_mul_le hp]
  have := (not_congr (digit_test (e := e) (y0 := y0) (K := K) h.sum)).1 ht
  omega
/-- it is too great: one less. -/
theorem Digit.over {u e y1 y0 K q r : Nat} (h : Digit u e y1 y0 K q r) (hu : u < y1 * K + y0) (he : e < K) (ht : K ≤ q ∨ K * r + e < q * y0) : (u * K + e) / (y1 * K + y0) < q := by
  have hp : 0 < y1 * K + y0 := by omega
  rcases ht with ht | ht
  · exact Nat.lt_of_lt_of_le (digit_less hu he) ht
  · rw [Nat.div_lt_iff_lt_mul hp]
    exact (digit_test h.sum).1 ht
theorem Digit.next {u e y1 y0 K q r : Nat} (h : Digit u e y1 y0 K q r) (ho : (u * K + e) / (y1 * K + y0) < q) (hr : r + y1 < K) : Digit u e y1 y0 K (q - 1) (r + y1) := by
  refine ⟨?_, Nat.le_sub_one_of_lt ho, hr⟩
  have hs := h.sum
  have hq0 : 0 < q := Nat.lt_of_le_of_lt (Nat.zero_le _) ho
  obtain ⟨m, rfl⟩ : ∃ m, q = m + 1 := ⟨q - 1, by omega⟩
  rw [Nat.add_mul, Nat.one_mul] at hs
  rw [Nat.add_sub_cancel]
  omega
/-- what is left over is too great to go on: it is the digit. -/
theorem Digit.broke {u e y1 y0 K q r : Nat} (h : Digit u e y1 y0 K q r) (h0 : y0 < K) (hu : u < y1 * K + y0) (ho : (u * K + e) / (y1 * K + y0) < q) (hr : K ≤ r + y1) : q - 1 = (u * K + e) / (y1 * K + y0) := by
  have hp : 0 < y1 * K + y0 := by omega
  refine Nat.le_antisymm ?_ (Nat.le_sub_one_of_lt ho)
  rw [Nat.le_div_iff_mul_le hp]
  have hs := h.sum
  have hq0 : 0 < q := Nat.lt_of_le_of_lt (Nat.zero_le _) ho
  obtain ⟨m, rfl⟩ : ∃ m, q = m + 1 := ⟨q - 1, by omega⟩
  rw [Nat.add_mul, Nat.one_mul] at hs
  rw [Nat.add_sub_cancel]
  have hm : m < K := by
    rcases Nat.lt_or_ge m K with k | k
    · exact k
    · exfalso
      have a : K * y1 ≤ m * y1 := Nat.mul_le_mul_right y1 k
      rw [Nat.mul_comm K y1] at a
      omega
  have e1 : m * y1 + (r + y1) = u := by omega
  have hn : ¬ K * (r + y1) + e < m * y0 := by
    have a : K * K ≤ K * (r + y1) := Nat.mul_le_mul_left K hr
    have b : m * y0 ≤ K * K := Nat.mul_le_mul (by omega) (by omega)
    omega
  have := (not_congr (digit_test (e := e) (y0 := y0) (K := K) e1)).1 hn
  omega
theorem digit_rest {u e y K q : Nat} (h : q = (u * K + e) / y) : q * y + (u * K + e) % y = u * K + e := by
  rw [h]
  exact Nat.div_add_mod' _ _
/-- two digits together. -/
theorem two_digits {u e1 e0 y K : Nat} (hy : 0 < y) :
    (u * (K * K) + (e1 * K + e0)) / y = (u * K + e1) / y * K + ((u * K + e1) % y * K + e0) / y ∧
    (u * (K * K) + (e1 * K + e0)) % y = ((u * K + e1) % y * K + e0) % y := by
  have a := Nat.div_add_mod' (u * K + e1) y
  have e : u * (K * K) + (e1 * K + e0) = (u * K + e1) / y * K * y + ((u * K + e1) % y * K + e0) := by
    have : u * (K * K) + (e1 * K + e0) = (u * K + e1) * K + e0 := by
      rw [Nat.add_mul, Nat.mul_assoc]
      omega
    rw [this]
    have b : (u * K + e1) * K = ((u * K + e1) / y * y + (u * K + e1) % y) * K := by rw [a]
    rw [b, Nat.add_mul, Nat.mul_right_comm]
    omega
  rw [e]
  constructor
  · rw [Nat.mul_comm _ y, Nat.mul_add_div hy]
  · rw [Nat.mul_comm _ y, Nat.mul_add_mod]
end Go.Proofs.YtkdmeclbnnjdgalDoor
