/-
  How far apart the directions of two whole angles lie.
-/
import Derived.Test.YtfamndjiaebmbafDoorMono
import Derived.Test.YtfamndjiaebmbafDoorCircle3
namespace Go.Proofs.YtfamndjiaebmbafDoor
open Go

def fS (x : Rat) : Rat := x * Sz (x * x)
def fC (x : Rat) : Rat := Cz (x * x)
theorem fS_zero : fS 0 = 0 := by unfold fS; rw [Rat.zero_mul]
theorem fC_end : (7 / 10 : Rat) ≤ fC (7855 / 10000) ∧ fC 0 ≤ 1 ∧ fS (7855 / 10000) ≤ 1 := by decide +kernel
theorem fS_range {x : Rat} (h0 : 0 ≤ x) (h1 : x ≤ 7855 / 10000) : 0 ≤ fS x ∧ fS x ≤ 1 := by
  have a := sin_rise (x := 0) (y := x) Rat.le_refl h0 h1
  have b := sin_rise h0 h1 Rat.le_refl
  have e := fC_end.2.2
  have z : (0 : Rat) * Sz (0 * 0) = 0 := fS_zero
  unfold fS at *
  constructor <;> grind
theorem fC_range {x : Rat} (h0 : 0 ≤ x) (h1 : x ≤ 7855 / 10000) : 7 / 10 ≤ fC x ∧ fC x ≤ 1 := by
  have a := cos_fall (x := 0) (y := x) Rat.le_refl h0 h1
  have b := cos_fall h0 h1 Rat.le_refl
  have e := fC_end
  unfold fC at *
  constructor <;> grind
theorem gap_same {x y : Rat} (h0 : 0 ≤ x) (h1 : x ≤ y) (h2 : y ≤ 7855 / 10000) : 42 / 100 * (y - x) ≤ fS y * fC x - fS x * fC y := by
  have a : 6 / 10 * (y - x) ≤ fS y - fS x := sin_rise h0 h1 h2
  have b : fC y ≤ fC x := cos_fall h0 h1 h2
  have c := fC_range h0 (show x ≤ 7855 / 10000 by grind)
  have d := fS_range h0 (show x ≤ 7855 / 10000 by grind)
  have q1 := Rat.mul_nonneg (show 0 ≤ fS y - fS x - 6 / 10 * (y - x) by grind) (show 0 ≤ fC x by grind)
  have q2 := Rat.mul_nonneg d.1 (show 0 ≤ fC x - fC y by grind)
  have q3 := Rat.mul_nonneg (show 0 ≤ y - x by grind) (show 0 ≤ fC x - 7 / 10 by grind)
  grind
theorem gap_cross {x y A B : Rat} (x0 : 0 ≤ x) (x1 : x ≤ A) (hA : A ≤ 7855 / 10000) (y0 : 0 ≤ y) (y1 : y ≤ B) (hB : B ≤ 7855 / 10000) : fC B * fC A - fS B * fS A ≤ fC y * fC x - fS y * fS x := by
  have a1 : fC A ≤ fC x := cos_fall x0 x1 hA
  have a2 : fC B ≤ fC y := cos_fall y0 y1 hB
  have a3 : 6 / 10 * (A - x) ≤ fS A - fS x := sin_rise x0 x1 hA
  have a4 : 6 / 10 * (B - y) ≤ fS B - fS y := sin_rise y0 y1 hB
  have b1 := fC_range (show 0 ≤ A by grind) hA
  have b2 := fC_range y0 (show y ≤ 7855 / 10000 by grind)
  have b3 := fS_range x0 (show x ≤ 7855 / 10000 by grind)
  have b4 := fS_range (show 0 ≤ B by grind) hB
  have q1 := Rat.mul_nonneg (show 0 ≤ fC y - fC B by grind) (show 0 ≤ fC A by grind)
  have q2 := Rat.mul_nonneg (show 0 ≤ fC y by grind) (show 0 ≤ fC x - fC A by grind)
  have q3 := Rat.mul_nonneg (show 0 ≤ fS B - fS y by grind) b3.1
  have q4 := Rat.mul_nonneg b4.1 (show 0 ≤ fS A - fS x by grind)
  grind
def xerr : Rat := p2 (38 - 54) * rho + p2 (0 - 54)
def xA : Rat := 161999999999 * rho + xerr
def xB : Rat := 162000000000 * rho + xerr
theorem cross_end : xA ≤ 7855 / 10000 ∧ xB ≤ 7855 / 10000 ∧ 4 / 10 * rho ≤ fC xB * fC xA - fS xB * fS xA ∧ 48 / 10000000000000 ≤ rho ∧ xerr ≤ 1 / 10000 * rho := by decide +kernel
end Go.Proofs.YtfamndjiaebmbafDoor
