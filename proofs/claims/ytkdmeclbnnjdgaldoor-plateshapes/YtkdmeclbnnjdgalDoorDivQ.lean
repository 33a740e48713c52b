/-
  Two digits by one: shifted so that the divisor fills its word. Nothing of the program.
-/
import Derived.Test.YtkdmeclbnnjdgalDoorDivP
import Derived.Lib.ItoaNum
import Derived.Laws.Bits64b
import Derived.WalkKit
namespace Go.Proofs.YtkdmeclbnnjdgalDoor
open Go Go.RowKit

theorem wrapU {a : Nat} (h : a < 18446744073709551616) : IntKind.u64.wrap (a : Int) = (a : Int) := by rw [IntKind.wrap_u64]; omega
theorem wrapM (a : Nat) : IntKind.u64.wrap (a : Int) = ((a % 18446744073709551616 : Nat) : Int) := by rw [IntKind.wrap_u64]; omega
theorem castPow (a s : Nat) : (a : Int) * 2 ^ s = ((a * 2 ^ s : Nat) : Int) := by
  rw [Int.natCast_mul, Int.natCast_pow]
  rfl
theorem castDiv (a s : Nat) : (a : Int) / 2 ^ s = ((a / 2 ^ s : Nat) : Int) := by
  rw [Int.natCast_ediv, Int.natCast_pow]
  rfl
theorem maskK {a : Nat} (ha : a < 18446744073709551616) : bits .and .u64 (a : Int) 4294967295 = ((a % 4294967296 : Nat) : Int) := by
  have h := bits_and_u64_nat a 4294967295 ha (by omega)
  have e : a &&& 4294967295 = a % 4294967296 := Nat.and_two_pow_sub_one_eq_mod a 32
  rw [e] at h
  exact h
structure DivS (hi lo y s Y y1 y0 A B u v e1 e0 : Nat) : Prop where
  s64 : s ≤ 63
  Y2 : Y < 18446744073709551616
  sum : Y = y1 * 4294967296 + y0
  y0l : y0 < 4294967296
  y1g : 2147483648 ≤ y1
  y1l : y1 < 4294967296
  ul : u < Y
  vl : v < 18446744073709551616
  vsum : v = e1 * 4294967296 + e0
  e1l : e1 < 4294967296
  e0l : e0 < 4294967296
  quo : (hi * 18446744073709551616 + lo) / y = (u * 18446744073709551616 + v) / Y
  rem : (hi * 18446744073709551616 + lo) % y = (u * 18446744073709551616 + v) % Y / 2 ^ s
  shY : IntKind.u64.wrap ((y : Int) * 2 ^ s) = (Y : Int)
  shA : IntKind.u64.wrap ((hi : Int) * 2 ^ s) = (A : Int)
  shB : (lo : Int) / 2 ^ (64 - s) = (B : Int)
  orU : bits .or .u64 (A : Int) (B : Int) = (u : Int)
  shV : IntKind.u64.wrap ((lo : Int) * 2 ^ s) = (v : Int)
  dY : (Y : Int) / 4294967296 = (y1 : Int)
  mY : bits .and .u64 (Y : Int) 4294967295 = (y0 : Int)
  dV : (v : Int) / 4294967296 = (e1 : Int)
  mV : bits .and .u64 (v : Int) 4294967295 = (e0 : Int)
theorem divS_of {hi lo y : Nat} (hy : hi < y) (hyl : y < 18446744073709551616) (hlo : lo < 18446744073709551616) :
    ∃ Y y1 y0 A B u v e1 e0, Lib.bitLen y ≤ 64 ∧ DivS hi lo y (64 - Lib.bitLen y) Y y1 y0 A B u v e1 e0 := by
  have hb := Lib.bitLenAux_bounds 64 y hyl (by omega)
  change 1 ≤ Lib.bitLen y ∧ 2 ^ (Lib.bitLen y - 1) ≤ y ∧ y < 2 ^ Lib.bitLen y at hb
  have hb64 : Lib.bitLen y ≤ 64 := Lib.bitLen_le y 64 (Nat.le_refl _) hyl
  obtain ⟨b1, b2, b3⟩ := hb
  generalize Lib.bitLen y = b at *
  obtain ⟨s, hs⟩ : ∃ s, s = 64 - b := ⟨_, rfl⟩
  have hs63 : s ≤ 63 := by omega
  have p1 : 2 ^ b * 2 ^ s = 18446744073709551616 := by rw [← Nat.pow_add, show b + s = 64 by omega]
  have p2 : 2 ^ (b - 1) * 2 ^ s = 9223372036854775808 := by rw [← Nat.pow_add, show b - 1 + s = 63 by omega]
  have p3 : 2 ^ (64 - s) * 2 ^ s = 18446744073709551616 := by rw [← Nat.pow_add, show 64 - s + s = 64 by omega]
  have ps : 0 < 2 ^ s := Nat.two_pow_pos s
  have Y2 : y * 2 ^ s < 18446744073709551616 := by rw [← p1]; exact Nat.mul_lt_mul_of_pos_right b3 ps
  have Y1 : 9223372036854775808 ≤ y * 2 ^ s := by rw [← p2]; exact Nat.mul_le_mul_right _ b2
  have A2 : hi * 2 ^ s < y * 2 ^ s := Nat.mul_lt_mul_of_pos_right hy ps
  have q64 : 0 < 2 ^ (64 - s) := Nat.two_pow_pos _
  have B2 : lo / 2 ^ (64 - s) < 2 ^ s := by
    rw [Nat.div_lt_iff_lt_mul q64, Nat.mul_comm, p3]
    exact hlo
  have hor : hi * 2 ^ s ||| lo / 2 ^ (64 - s) = hi * 2 ^ s + lo / 2 ^ (64 - s) := by
    rw [Nat.mul_comm hi, ← Nat.two_pow_add_eq_or_of_lt B2]
  have hv : lo * 2 ^ s = lo / 2 ^ (64 - s) * 18446744073709551616 + lo * 2 ^ s % 18446744073709551616 := by
    have e : lo * 2 ^ s / 18446744073709551616 = lo / 2 ^ (64 - s) := by
      rw [← p3, Nat.mul_div_mul_right _ _ ps]
    have := Nat.div_add_mod' (lo * 2 ^ s) 18446744073709551616
    rw [e] at this
    exact this.symm
  have hU : (hi * 2 ^ s + lo / 2 ^ (64 - s)) * 18446744073709551616 + lo * 2 ^ s % 18446744073709551616 = (hi * 18446744073709551616 + lo) * 2 ^ s := by
    rw [Nat.add_mul, Nat.add_mul, hv, Nat.mul_right_comm hi]
    omega
  have hul : hi * 2 ^ s + lo / 2 ^ (64 - s) < y * 2 ^ s := by
    have h1 : (hi + 1) * 2 ^ s ≤ y * 2 ^ s := Nat.mul_le_mul_right _ hy
    rw [Nat.add_mul, Nat.one_mul] at h1
    omega
  have hY0 : 0 < y * 2 ^ s := by omega
  refine ⟨y * 2 ^ s, y * 2 ^ s / 4294967296, y * 2 ^ s % 4294967296, hi * 2 ^ s, lo / 2 ^ (64 - s), hi * 2 ^ s + lo / 2 ^ (64 - s), lo * 2 ^ s % 18446744073709551616, lo * 2 ^ s % 18446744073709551616 / 4294967296, lo * 2 ^ s % 18446744073709551616 % 4294967296, hb64, ?_⟩
  rw [← hs]
  have vl : lo * 2 ^ s % 18446744073709551616 < 18446744073709551616 := Nat.mod_lt _ (by decide)
  refine ⟨hs63, Y2, ?_, ?_, ?_, ?_, hul, vl, ?_, ?_, ?_, ?_, ?_, ?_, ?_, ?_, ?_, ?_, ?_, ?_, ?_, ?_⟩
  · omega
  · omega
  · omega
  · omega
  · omega
  · omega
  · omega
  · rw [hU, Nat.mul_div_mul_right _ _ ps]
  · rw [hU, Nat.mul_mod_mul_right, Nat.mul_div_cancel _ ps]
  · rw [castPow, wrapU Y2]
  · rw [castPow, wrapU (by omega)]
  · rw [castDiv]
  · rw [bits_or_u64_nat _ _ (by omega) (by omega), hor]
  · rw [castPow, wrapM]
  · rw [Int.natCast_ediv]; rfl
  · exact maskK Y2
  · rw [Int.natCast_ediv]; rfl
  · exact maskK vl
theorem subU {a b : Nat} (h : b ≤ a) (hd : a - b < 18446744073709551616) : IntKind.u64.wrap (IntKind.u64.wrap (a : Int) - IntKind.u64.wrap (b : Int)) = ((a - b : Nat) : Int) := by
  rw [IntKind.wrap_u64, IntKind.wrap_u64, IntKind.wrap_u64]
  omega
end Go.Proofs.YtkdmeclbnnjdgalDoor
