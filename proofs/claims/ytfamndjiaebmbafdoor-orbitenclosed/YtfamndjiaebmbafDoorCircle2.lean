/-
  The circle: sines and cosines by their errors.
-/
import Derived.Test.YtfamndjiaebmbafDoorCircle
namespace Go.Proofs.YtfamndjiaebmbafDoor
open Go

theorem pow_abs {z b : Rat} (h1 : z ≤ b) (h2 : -b ≤ z) : ∀ n : Nat, z ^ n ≤ b ^ n ∧ -(b ^ n) ≤ z ^ n
  | 0 => by rw [Rat.pow_zero, Rat.pow_zero]; exact ⟨Rat.le_refl, by decide⟩
  | n + 1 => by
    obtain ⟨i1, i2⟩ := pow_abs h1 h2 n
    rw [Rat.pow_succ, Rat.pow_succ]
    exact prod_abs i1 i2 h1 h2
theorem cq0 : cq 0 1 = -1/2 ∧ cq 0 2 = 1/24 ∧ cq 0 3 = -1/720 ∧ cq 0 4 = 1/40320 ∧ cq 0 5 = -1/3628800 ∧ cq 0 6 = 1/479001600 ∧ cq 0 7 = -1/87178291200 ∧ cq 0 8 = 1/20922789888000 := by decide +kernel
theorem cq1 : cq 1 1 = -1/6 ∧ cq 1 2 = 1/120 ∧ cq 1 3 = -1/5040 ∧ cq 1 4 = 1/362880 ∧ cq 1 5 = -1/39916800 ∧ cq 1 6 = 1/6227020800 ∧ cq 1 7 = -1/1307674368000 ∧ cq 1 8 = 1/355687428096000 := by decide +kernel
def Cz (z : Rat) : Rat := 1 + z * H 0 z 7
def Sz (z : Rat) : Rat := 1 + z * H 1 z 7
set_option maxHeartbeats 2000000 in
theorem circle_is (z : Rat) : Cz z * Cz z + z * (Sz z * Sz z) = 1 + ((1 / 3201186852864000) * z ^ 9 + (-1 / 7113748561920000) * z ^ 10 + (1 / 93901481017344000) * z ^ 11 + (-1 / 3073139378749440000) * z ^ 12 + (1 / 186437122310799360000) * z ^ 13 + (-1 / 18070059547046707200000) * z ^ 14 + (1 / 2555622707368034304000000) * z ^ 15 + (-1 / 496131554923714392883200000) * z ^ 16 + (1 / 126513546505547170185216000000) * z ^ 17) := by
  obtain ⟨a1, a2, a3, a4, a5, a6, a7, a8⟩ := cq0
  obtain ⟨b1, b2, b3, b4, b5, b6, b7, b8⟩ := cq1
  unfold Cz Sz
  simp only [H, Nat.sub_zero, Nat.reduceSub, a1, a2, a3, a4, a5, a6, a7, a8, b1, b2, b3, b4, b5, b6, b7, b8]
  grind
theorem circle_poly {z : Rat} (z1 : z ≤ 5 / 8) (z2 : -(5 / 8) ≤ z) : Near (Cz z * Cz z + z * (Sz z * Sz z)) 1 (1 / 100000000000000000) := by
  rw [circle_is]
  have h9 := pow_abs z1 z2 9
  rw [show ((5 : Rat) / 8) ^ 9 = 1953125 / 134217728 by decide +kernel] at h9
  generalize z ^ 9 = y9 at *
  have h10 := pow_abs z1 z2 10
  rw [show ((5 : Rat) / 8) ^ 10 = 9765625 / 1073741824 by decide +kernel] at h10
  generalize z ^ 10 = y10 at *
  have h11 := pow_abs z1 z2 11
  rw [show ((5 : Rat) / 8) ^ 11 = 48828125 / 8589934592 by decide +kernel] at h11
  generalize z ^ 11 = y11 at *
  have h12 := pow_abs z1 z2 12
  rw [show ((5 : Rat) / 8) ^ 12 = 244140625 / 68719476736 by decide +kernel] at h12
  generalize z ^ 12 = y12 at *
  have h13 := pow_abs z1 z2 13
  rw [show ((5 : Rat) / 8) ^ 13 = 1220703125 / 549755813888 by decide +kernel] at h13
  generalize z ^ 13 = y13 at *
  have h14 := pow_abs z1 z2 14
  rw [show ((5 : Rat) / 8) ^ 14 = 6103515625 / 4398046511104 by decide +kernel] at h14
  generalize z ^ 14 = y14 at *
  have h15 := pow_abs z1 z2 15
  rw [show ((5 : Rat) / 8) ^ 15 = 30517578125 / 35184372088832 by decide +kernel] at h15
  generalize z ^ 15 = y15 at *
  have h16 := pow_abs z1 z2 16
  rw [show ((5 : Rat) / 8) ^ 16 = 152587890625 / 281474976710656 by decide +kernel] at h16
  generalize z ^ 16 = y16 at *
  have h17 := pow_abs z1 z2 17
  rw [show ((5 : Rat) / 8) ^ 17 = 762939453125 / 2251799813685248 by decide +kernel] at h17
  generalize z ^ 17 = y17 at *
  constructor
  · grind
  · grind
end Go.Proofs.YtfamndjiaebmbafDoor
