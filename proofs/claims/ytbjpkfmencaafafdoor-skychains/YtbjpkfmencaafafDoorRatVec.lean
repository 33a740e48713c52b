/-
  Vectors of rational numbers: how long they are at most.
-/
import Derived.Test.YtbjpkfmencaafafDoorDots
namespace Go.Proofs.YtbjpkfmencaafafDoor

theorem sq_nn' (a : Rat) : 0 ≤ a * a := by
  rcases (Rat.le_total : 0 ≤ a ∨ a ≤ 0) with h | h
  · exact Rat.mul_nonneg h h
  · have := Rat.mul_nonneg (show 0 ≤ -a by grind) (show 0 ≤ -a by grind)
    grind
theorem le_of_sq {d e : Rat} (he : 0 ≤ e) (h : d * d ≤ e * e) : d ≤ e ∧ -e ≤ d := by
  constructor
  · rcases (Rat.le_total : d ≤ e ∨ e ≤ d) with k | k
    · exact k
    · rcases Decidable.em (d = e) with q | q
      · grind
      · have h1 : 0 < d - e := by grind
        have h2 : 0 < d + e := by grind
        have := Rat.mul_pos h1 h2
        grind
  · rcases (Rat.le_total : -e ≤ d ∨ d ≤ -e) with k | k
    · exact k
    · rcases Decidable.em (d = -e) with q | q
      · grind
      · have h1 : 0 < -d - e := by grind
        have h2 : 0 < -d + e := by grind
        have := Rat.mul_pos h1 h2
        grind
theorem sq_le {d e : Rat} (h1 : d ≤ e) (h2 : -e ≤ d) : d * d ≤ e * e := by
  have := Rat.mul_nonneg (show 0 ≤ e - d by grind) (show 0 ≤ e + d by grind)
  grind
/-- a vector's length is at most B. -/
structure Wi (x y z B : Rat) : Prop where
  nn : 0 ≤ B
  le : x * x + y * y + z * z ≤ B * B
theorem Wi.tri {x y z x' y' z' A B : Rat} (h : Wi x y z A) (k : Wi x' y' z' B) : Wi (x + x') (y + y') (z + z') (A + B) := by
  obtain ⟨hA, h⟩ := h
  obtain ⟨hB, k⟩ := k
  have n1 := sq_nn' (x * y' - x' * y)
  have n2 := sq_nn' (y * z' - y' * z)
  have n3 := sq_nn' (x * z' - x' * z)
  have hN : 0 ≤ x * x + y * y + z * z := by
    have := sq_nn' x
    have := sq_nn' y
    have := sq_nn' z
    grind
  have hN' : 0 ≤ x' * x' + y' * y' + z' * z' := by
    have := sq_nn' x'
    have := sq_nn' y'
    have := sq_nn' z'
    grind
  have c1 : (x * x' + y * y' + z * z') * (x * x' + y * y' + z * z') ≤ (x * x + y * y + z * z) * (x' * x' + y' * y' + z' * z') := by grind
  have hAA := Rat.mul_nonneg hA hA
  have c2 : (x * x + y * y + z * z) * (x' * x' + y' * y' + z' * z') ≤ (A * A) * (B * B) := by
    have p1 := Rat.mul_nonneg (show 0 ≤ A * A - (x * x + y * y + z * z) by grind) hN'
    have p2 := Rat.mul_nonneg hAA (show 0 ≤ B * B - (x' * x' + y' * y' + z' * z') by grind)
    grind
  have c3 := (le_of_sq (Rat.mul_nonneg hA hB) (show (x * x' + y * y' + z * z') * (x * x' + y * y' + z * z') ≤ (A * B) * (A * B) by grind)).1
  exact ⟨by grind, by grind⟩
theorem Wi.weak {x y z A B : Rat} (h : Wi x y z A) (k : A ≤ B) : Wi x y z B := by
  obtain ⟨hA, h⟩ := h
  have := sq_le k (by grind)
  exact ⟨by grind, by grind⟩
theorem Wi.rot {x y z A : Rat} (h : Wi x y z A) : Wi y z x A := ⟨h.nn, by have := h.le; grind⟩
theorem Wi.x {x y z A : Rat} (h : Wi x y z A) : x ≤ A ∧ -A ≤ x := by
  obtain ⟨hA, h⟩ := h
  have := sq_nn' y
  have := sq_nn' z
  exact le_of_sq hA (by grind)
/-- turned, by a sine and a cosine. -/
theorem Wi.turn {a b c S C A k : Rat} (h : Wi a b c A) (k0 : 0 ≤ k) (hk : S * S + C * C ≤ 1 + k) : Wi (a * C - b * S) (a * S + b * C) c (A + A * k) := by
  obtain ⟨hA, h⟩ := h
  have := sq_nn' a
  have := sq_nn' b
  have hc := sq_nn' c
  have p1 := Rat.mul_nonneg (show 0 ≤ 1 + k - (S * S + C * C) by grind) (show 0 ≤ a * a + b * b by grind)
  have p2 := Rat.mul_nonneg k0 hc
  have p3 := Rat.mul_nonneg (show 0 ≤ 1 + k by grind) (show 0 ≤ A * A - (a * a + b * b + c * c) by grind)
  have hAA := Rat.mul_nonneg hA hA
  have p4 := Rat.mul_nonneg hAA k0
  have p5 := Rat.mul_nonneg (Rat.mul_nonneg hAA k0) k0
  exact ⟨by have := Rat.mul_nonneg hA k0; grind, by grind⟩
/-- two small ones. -/
theorem Wi.two {e1 e2 E : Rat} (hE : 0 ≤ E) (h1 : e1 ≤ E) (h2 : -E ≤ e1) (h3 : e2 ≤ E) (h4 : -E ≤ e2) : Wi e1 e2 0 (3 / 2 * E) := by
  have := sq_le h1 h2
  have := sq_le h3 h4
  have := sq_nn' E
  exact ⟨by grind, by grind⟩
/-- what a turn there and back leaves. -/
theorem Wi.left {a b c p q A P Q : Rat} (h : Wi a b c A) (hP : p ≤ P) (hP' : -P ≤ p) (hQ : q ≤ Q) (hQ' : -Q ≤ q) : Wi (a * p - b * q) (a * q + b * p) 0 ((P + Q) * A) := by
  obtain ⟨hA, h⟩ := h
  have := sq_nn' a
  have := sq_nn' b
  have hc := sq_nn' c
  have s1 := sq_le hP hP'
  have s2 := sq_le hQ hQ'
  have hP0 : 0 ≤ P := by grind
  have hQ0 : 0 ≤ Q := by grind
  have hPQ := Rat.mul_nonneg hP0 hQ0
  have hAA := Rat.mul_nonneg hA hA
  have p1 := Rat.mul_nonneg (show 0 ≤ P * P + Q * Q - (p * p + q * q) by grind) (show 0 ≤ a * a + b * b by grind)
  have p2 := Rat.mul_nonneg (show 0 ≤ P * P + Q * Q by have := sq_nn' P; have := sq_nn' Q; grind) (show 0 ≤ A * A - (a * a + b * b) by grind)
  have p3 := Rat.mul_nonneg hPQ hAA
  exact ⟨Rat.mul_nonneg (by grind) hA, by grind⟩
end Go.Proofs.YtbjpkfmencaafafDoor
