/-
  The polynomials rise and fall.
-/
import Derived.Test.YtfamndjiaebmbafDoorCircle2
namespace Go.Proofs.YtfamndjiaebmbafDoor
open Go

/-- how powers rise. -/
def kpow (b : Rat) : Nat → Rat
  | 0 => 0
  | n + 1 => b * kpow b n + b ^ n
theorem pow_rise {x y b : Rat} (h0 : 0 ≤ x) (h1 : x ≤ y) (h2 : y ≤ b) : ∀ n : Nat, 0 ≤ y ^ n - x ^ n ∧ y ^ n - x ^ n ≤ kpow b n * (y - x)
  | 0 => by
    rw [Rat.pow_zero, Rat.pow_zero]
    have e : kpow b 0 = 0 := rfl
    rw [e]
    constructor <;> grind
  | n + 1 => by
    obtain ⟨i1, i2⟩ := pow_rise h0 h1 h2 n
    obtain ⟨p1, _⟩ := pow_abs (show x ≤ b by grind) (show -b ≤ x by grind) n
    have p0 : 0 ≤ x ^ n := Rat.pow_nonneg h0
    rw [Rat.pow_succ, Rat.pow_succ]
    have e : kpow b (n + 1) = b * kpow b n + b ^ n := rfl
    rw [e]
    have q1 := Rat.mul_nonneg (show 0 ≤ y by grind) i1
    have q2 := Rat.mul_nonneg p0 (show 0 ≤ y - x by grind)
    have q3 := Rat.mul_nonneg (show 0 ≤ b - y by grind) i1
    have q4 := Rat.mul_nonneg (show 0 ≤ b by grind) (show 0 ≤ kpow b n * (y - x) - (y ^ n - x ^ n) by grind)
    have q5 := Rat.mul_nonneg (show 0 ≤ b ^ n - x ^ n by grind) (show 0 ≤ y - x by grind)
    generalize x ^ n = a at *
    generalize y ^ n = c at *
    generalize b ^ n = d at *
    generalize kpow b n = k at *
    constructor <;> grind

theorem sin_is (x : Rat) : x * Sz (x * x) = x + (-1 / 6) * x ^ 3 + (1 / 120) * x ^ 5 + (-1 / 5040) * x ^ 7 + (1 / 362880) * x ^ 9 + (-1 / 39916800) * x ^ 11 + (1 / 6227020800) * x ^ 13 + (-1 / 1307674368000) * x ^ 15 + (1 / 355687428096000) * x ^ 17 := by
  obtain ⟨b1, b2, b3, b4, b5, b6, b7, b8⟩ := cq1
  unfold Sz
  simp only [H, Nat.sub_zero, Nat.reduceSub, b1, b2, b3, b4, b5, b6, b7, b8]
  grind
theorem cos_is (x : Rat) : Cz (x * x) = 1 + (-1 / 2) * (x * x) ^ 1 + (1 / 24) * (x * x) ^ 2 + (-1 / 720) * (x * x) ^ 3 + (1 / 40320) * (x * x) ^ 4 + (-1 / 3628800) * (x * x) ^ 5 + (1 / 479001600) * (x * x) ^ 6 + (-1 / 87178291200) * (x * x) ^ 7 + (1 / 20922789888000) * (x * x) ^ 8 := by
  obtain ⟨a1, a2, a3, a4, a5, a6, a7, a8⟩ := cq0
  unfold Cz
  simp only [H, Nat.sub_zero, Nat.reduceSub, a1, a2, a3, a4, a5, a6, a7, a8]
  grind
theorem sin_rise {x y : Rat} (h0 : 0 ≤ x) (h1 : x ≤ y) (h2 : y ≤ 7855 / 10000) : 6 / 10 * (y - x) ≤ y * Sz (y * y) - x * Sz (x * x) := by
  rw [sin_is, sin_is]
  have h3 := pow_rise h0 h1 h2 3
  have k3 := Rat.mul_le_mul_of_nonneg_right (show kpow (7855 / 10000) 3 ≤ 463 / 250 by decide +kernel) (show 0 ≤ y - x by grind)
  generalize x ^ 3 = x3 at *
  generalize y ^ 3 = y3 at *
  generalize kpow (7855 / 10000) 3 = c3 at *
  have h5 := pow_rise h0 h1 h2 5
  have k5 := Rat.mul_le_mul_of_nonneg_right (show kpow (7855 / 10000) 5 ≤ 238 / 125 by decide +kernel) (show 0 ≤ y - x by grind)
  generalize x ^ 5 = x5 at *
  generalize y ^ 5 = y5 at *
  generalize kpow (7855 / 10000) 5 = c5 at *
  have h7 := pow_rise h0 h1 h2 7
  have k7 := Rat.mul_le_mul_of_nonneg_right (show kpow (7855 / 10000) 7 ≤ 329 / 200 by decide +kernel) (show 0 ≤ y - x by grind)
  generalize x ^ 7 = x7 at *
  generalize y ^ 7 = y7 at *
  generalize kpow (7855 / 10000) 7 = c7 at *
  have h9 := pow_rise h0 h1 h2 9
  have k9 := Rat.mul_le_mul_of_nonneg_right (show kpow (7855 / 10000) 9 ≤ 261 / 200 by decide +kernel) (show 0 ≤ y - x by grind)
  generalize x ^ 9 = x9 at *
  generalize y ^ 9 = y9 at *
  generalize kpow (7855 / 10000) 9 = c9 at *
  have h11 := pow_rise h0 h1 h2 11
  have k11 := Rat.mul_le_mul_of_nonneg_right (show kpow (7855 / 10000) 11 ≤ 123 / 125 by decide +kernel) (show 0 ≤ y - x by grind)
  generalize x ^ 11 = x11 at *
  generalize y ^ 11 = y11 at *
  generalize kpow (7855 / 10000) 11 = c11 at *
  have h13 := pow_rise h0 h1 h2 13
  have k13 := Rat.mul_le_mul_of_nonneg_right (show kpow (7855 / 10000) 13 ≤ 359 / 500 by decide +kernel) (show 0 ≤ y - x by grind)
  generalize x ^ 13 = x13 at *
  generalize y ^ 13 = y13 at *
  generalize kpow (7855 / 10000) 13 = c13 at *
  have h15 := pow_rise h0 h1 h2 15
  have k15 := Rat.mul_le_mul_of_nonneg_right (show kpow (7855 / 10000) 15 ≤ 511 / 1000 by decide +kernel) (show 0 ≤ y - x by grind)
  generalize x ^ 15 = x15 at *
  generalize y ^ 15 = y15 at *
  generalize kpow (7855 / 10000) 15 = c15 at *
  have h17 := pow_rise h0 h1 h2 17
  have k17 := Rat.mul_le_mul_of_nonneg_right (show kpow (7855 / 10000) 17 ≤ 179 / 500 by decide +kernel) (show 0 ≤ y - x by grind)
  generalize x ^ 17 = x17 at *
  generalize y ^ 17 = y17 at *
  generalize kpow (7855 / 10000) 17 = c17 at *
  grind
theorem cos_fall {x y : Rat} (h0 : 0 ≤ x) (h1 : x ≤ y) (h2 : y ≤ 7855 / 10000) : Cz (y * y) ≤ Cz (x * x) := by
  rw [cos_is, cos_is]
  have hx2 : x * x ≤ y * y := by
    have q1 := Rat.mul_nonneg h0 (show 0 ≤ y - x by grind)
    have q2 := Rat.mul_nonneg (show 0 ≤ y by grind) (show 0 ≤ y - x by grind)
    grind
  have hx0 : 0 ≤ x * x := Rat.mul_nonneg h0 h0
  have hxb : y * y ≤ 7855 / 10000 * (7855 / 10000) := (prod_abs h2 (show -(7855 / 10000) ≤ y by grind) h2 (show -(7855 / 10000) ≤ y by grind)).1
  generalize x * x = u at *
  generalize y * y = v at *
  clear h0 h1 h2
  rw [Rat.pow_one, Rat.pow_one]
  have h2 := pow_rise hx0 hx2 hxb 2
  have k2 := Rat.mul_le_mul_of_nonneg_right (show kpow (7855 / 10000 * (7855 / 10000)) 2 ≤ 247 / 200 by decide +kernel) (show 0 ≤ v - u by grind)
  generalize u ^ 2 = u2 at *
  generalize v ^ 2 = v2 at *
  generalize kpow (7855 / 10000 * (7855 / 10000)) 2 = c2 at *
  have h3 := pow_rise hx0 hx2 hxb 3
  have k3 := Rat.mul_le_mul_of_nonneg_right (show kpow (7855 / 10000 * (7855 / 10000)) 3 ≤ 1143 / 1000 by decide +kernel) (show 0 ≤ v - u by grind)
  generalize u ^ 3 = u3 at *
  generalize v ^ 3 = v3 at *
  generalize kpow (7855 / 10000 * (7855 / 10000)) 3 = c3 at *
  have h4 := pow_rise hx0 hx2 hxb 4
  have k4 := Rat.mul_le_mul_of_nonneg_right (show kpow (7855 / 10000 * (7855 / 10000)) 4 ≤ 47 / 50 by decide +kernel) (show 0 ≤ v - u by grind)
  generalize u ^ 4 = u4 at *
  generalize v ^ 4 = v4 at *
  generalize kpow (7855 / 10000 * (7855 / 10000)) 4 = c4 at *
  have h5 := pow_rise hx0 hx2 hxb 5
  have k5 := Rat.mul_le_mul_of_nonneg_right (show kpow (7855 / 10000 * (7855 / 10000)) 5 ≤ 29 / 40 by decide +kernel) (show 0 ≤ v - u by grind)
  generalize u ^ 5 = u5 at *
  generalize v ^ 5 = v5 at *
  generalize kpow (7855 / 10000 * (7855 / 10000)) 5 = c5 at *
  have h6 := pow_rise hx0 hx2 hxb 6
  have k6 := Rat.mul_le_mul_of_nonneg_right (show kpow (7855 / 10000 * (7855 / 10000)) 6 ≤ 537 / 1000 by decide +kernel) (show 0 ≤ v - u by grind)
  generalize u ^ 6 = u6 at *
  generalize v ^ 6 = v6 at *
  generalize kpow (7855 / 10000 * (7855 / 10000)) 6 = c6 at *
  have h7 := pow_rise hx0 hx2 hxb 7
  have k7 := Rat.mul_le_mul_of_nonneg_right (show kpow (7855 / 10000 * (7855 / 10000)) 7 ≤ 387 / 1000 by decide +kernel) (show 0 ≤ v - u by grind)
  generalize u ^ 7 = u7 at *
  generalize v ^ 7 = v7 at *
  generalize kpow (7855 / 10000 * (7855 / 10000)) 7 = c7 at *
  have h8 := pow_rise hx0 hx2 hxb 8
  have k8 := Rat.mul_le_mul_of_nonneg_right (show kpow (7855 / 10000 * (7855 / 10000)) 8 ≤ 273 / 1000 by decide +kernel) (show 0 ≤ v - u by grind)
  generalize u ^ 8 = u8 at *
  generalize v ^ 8 = v8 at *
  generalize kpow (7855 / 10000 * (7855 / 10000)) 8 = c8 at *
  grind
end Go.Proofs.YtfamndjiaebmbafDoor
