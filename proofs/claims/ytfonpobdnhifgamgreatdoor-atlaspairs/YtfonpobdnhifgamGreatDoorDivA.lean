/-
   Two digits by one: shifted so that the divisor fills its word. Nothing of the program. math/bits.Mul64, by contract.
-/
import Derived.Lib.ItoaNum
import Derived.Laws.Bits64b
import Derived.WalkKit
import Derived.Test.YtfonpobdnhifgamGreatDoorKitA
import Derived.Lib.Mul64
import Derived.Deep.QuietTactic
import Derived.Laws.Externs
/-
  Two digits by one, as math/bits.Div64 does it: the reckoning. Nothing of the program.
-/
namespace Go.Proofs.YtfonpobdnhifgamGreatDoor

/-- one digit of the quotient: too great or not. -/
theorem digit_test {u e y1 y0 q r K : Nat} (h : q * y1 + r = u) : K * r + e < q * y0 ↔ u * K + e < q * (y1 * K + y0) := by
  subst h
  have a : (q * y1 + r) * K = q * y1 * K + K * r := by rw [Nat.add_mul, Nat.mul_comm r K]
  have b : q * (y1 * K + y0) = q * y1 * K + q * y0 := by rw [Nat.mul_add, Nat.mul_assoc]
  rw [a, b]
  omega
theorem digit_less {u e y K : Nat} (hu : u < y) (he : e < K) : (u * K + e) / y < K := by
  rw [Nat.div_lt_iff_lt_mul (by omega)]
  have : (u + 1) * K ≤ y * K := Nat.mul_le_mul_right K hu
  rw [Nat.add_mul, Nat.one_mul] at this
  rw [Nat.mul_comm K y]
  omega
/-- the state of the loop over a digit. -/
structure Digit (u e y1 y0 K q r : Nat) : Prop where
  sum : q * y1 + r = u
  ge : (u * K + e) / (y1 * K + y0) ≤ q
  rl : r < K
theorem digit_first {u e y1 y0 K : Nat} (h1 : 0 < y1) (h2 : y1 < K) (he : e < K) : Digit u e y1 y0 K (u / y1) (u % y1) := by
  refine ⟨Nat.div_add_mod' u y1, ?_, Nat.lt_trans (Nat.mod_lt _ h1) h2⟩
  have hy : y1 * K ≤ y1 * K + y0 := Nat.le_add_right _ _
  have hpos : 0 < y1 * K := Nat.mul_pos h1 (by omega)
  refine Nat.le_trans (Nat.div_le_div_left hy hpos) ?_
  rw [Nat.mul_comm y1 K, ← Nat.div_div_eq_div_mul]
  have : (u * K + e) / K = u := by
    rw [Nat.mul_comm u K, Nat.mul_add_div (by omega), Nat.div_eq_of_lt he, Nat.add_zero]
  rw [this]
  exact Nat.le_refl _
theorem Digit.small {u e y1 y0 K q r : Nat} (h : Digit u e y1 y0 K q r) (hq : q < K) (h0 : y0 < K) : q * y0 < K * K ∧ K * r + e < K * K + e := by
  have a : q * y0 < K * K := by
    rcases Nat.eq_zero_or_pos q with z | z
    · subst z
      rw [Nat.zero_mul]
      exact Nat.mul_pos (by omega) (by omega)
    · exact Nat.mul_lt_mul_of_lt_of_lt hq h0
  have b : K * r < K * K := Nat.mul_lt_mul_of_pos_left h.rl (by omega)
  exact ⟨a, by omega⟩
/-- the test fails: it is the digit. -/
theorem Digit.done {u e y1 y0 K q r : Nat} (h : Digit u e y1 y0 K q r) (h1 : 0 < y1) (hK : 0 < K) (ht : ¬ K * r + e < q * y0) : q = (u * K + e) / (y1 * K + y0) := by
  have hp : 0 < y1 * K + y0 := Nat.add_pos_left (Nat.mul_pos h1 hK) _
  refine Nat.le_antisymm ?_ h.ge
  rw [Nat.le_div_iff_mul_le hp]
  have := (not_congr (digit_test (e := e) (y0 := y0) (K := K) h.sum)).1 ht
  omega
/-- it is too great: one less. -/
theorem Digit.over {u e y1 y0 K q r : Nat} (h : Digit u e y1 y0 K q r) (hu : u < y1 * K + y0) (he : e < K) (ht : K ≤ q ∨ K * r + e < q * y0) : (u * K + e) / (y1 * K + y0) < q := by
  have hp : 0 < y1 * K + y0 := by omega
  rcases ht with ht | ht
  · exact Nat.lt_of_lt_of_le (digit_less hu he) ht
  · rw [Nat.div_lt_iff_lt_mul hp]
    exact (digit_test h.sum).1 ht
theorem Digit.next {u e y1 y0 K q r : Nat} (h : Digit u e y1 y0 K q r) (ho : (u * K + e) / (y1 * K + y0) < q) (hr : r + y1 < K) : Digit u e y1 y0 K (q - 1) (r + y1) := by
  refine ⟨?_, Nat.le_sub_one_of_lt ho, hr⟩
  have hs := h.sum
  have hq0 : 0 < q := Nat.lt_of_le_of_lt (Nat.zero_le _) ho
  obtain ⟨m, rfl⟩ : ∃ m, q = m + 1 := ⟨q - 1, by omega⟩
  rw [Nat.add_mul, Nat.one_mul] at hs
  rw [Nat.add_sub_cancel]
  omega
/-- what is left over is too great to go on: it is the digit. -/
theorem Digit.broke {u e y1 y0 K q r : Nat} (h : Digit u e y1 y0 K q r) (h0 : y0 < K) (hu : u < y1 * K + y0) (ho : (u * K + e) / (y1 * K + y0) < q) (hr : K ≤ r + y1) : q - 1 = (u * K + e) / (y1 * K + y0) := by
  have hp : 0 < y1 * K + y0 := by omega
  refine Nat.le_antisymm ?_ (Nat.le_sub_one_of_lt ho)
  rw [Nat.le_div_iff_mul_le hp]
  have hs := h.sum
  have hq0 : 0 < q := Nat.lt_of_le_of_lt (Nat.zero_le _) ho
  obtain ⟨m, rfl⟩ : ∃ m, q = m + 1 := ⟨q - 1, by omega⟩
  rw [Nat.add_mul, Nat.one_mul] at hs
  rw [Nat.add_sub_cancel]
  have hm : m < K := by
    rcases Nat.lt_or_ge m K with k | k
    · exact k
    · exfalso
      have a : K * y1 ≤ m * y1 := Nat.mul_le_mul_right y1 k
      rw [Nat.mul_comm K y1] at a
      omega
  have e1 : m * y1 + (r + y1) = u := by omega
  have hn : ¬ K * (r + y1) + e < m * y0 := by
    have a : K * K ≤ K * (r + y1) := Nat.mul_le_mul_left K hr
    have b : m * y0 ≤ K * K := Nat.mul_le_mul (by omega) (by omega)
    omega
  have := (not_congr (digit_test (e := e) (y0 := y0) (K := K) e1)).1 hn
  omega
theorem digit_rest {u e y K q : Nat} (h : q = (u * K + e) / y) : q * y + (u * K + e) % y = u * K + e := by
  rw [h]
  exact Nat.div_add_mod' _ _
/-- two digits together. -/
theorem two_digits {u e1 e0 y K : Nat} (hy : 0 < y) :
    (u * (K * K) + (e1 * K + e0)) / y = (u * K + e1) / y * K + ((u * K + e1) % y * K + e0) / y ∧
    (u * (K * K) + (e1 * K + e0)) % y = ((u * K + e1) % y * K + e0) % y := by
  have a := Nat.div_add_mod' (u * K + e1) y
  have e : u * (K * K) + (e1 * K + e0) = (u * K + e1) / y * K * y + ((u * K + e1) % y * K + e0) := by
    have : u * (K * K) + (e1 * K + e0) = (u * K + e1) * K + e0 := by
      rw [Nat.add_mul, Nat.mul_assoc]
      omega
    rw [this]
    have b : (u * K + e1) * K = ((u * K + e1) / y * y + (u * K + e1) % y) * K := by rw [a]
    rw [b, Nat.add_mul, Nat.mul_right_comm]
    omega
  rw [e]
  constructor
  · rw [Nat.mul_comm _ y, Nat.mul_add_div hy]
  · rw [Nat.mul_comm _ y, Nat.mul_add_mod]
end Go.Proofs.YtfonpobdnhifgamGreatDoor
namespace Go.Proofs.YtfonpobdnhifgamGreatDoor
open Go Go.RowKit

theorem wrapU {a : Nat} (h : a < 18446744073709551616) : IntKind.u64.wrap (a : Int) = (a : Int) := by rw [IntKind.wrap_u64]; omega
theorem wrapM (a : Nat) : IntKind.u64.wrap (a : Int) = ((a % 18446744073709551616 : Nat) : Int) := by rw [IntKind.wrap_u64]; omega
theorem castPow (a s : Nat) : (a : Int) * 2 ^ s = ((a * 2 ^ s : Nat) : Int) := by
  rw [Int.natCast_mul, Int.natCast_pow]
  rfl
theorem castDiv (a s : Nat) : (a : Int) / 2 ^ s = ((a / 2 ^ s : Nat) : Int) := by
  rw [Int.natCast_ediv, Int.natCast_pow]
  rfl
theorem maskK {a : Nat} (ha : a < 18446744073709551616) : bits .and .u64 (a : Int) 4294967295 = ((a % 4294967296 : Nat) : Int) := by
  have h := bits_and_u64_nat a 4294967295 ha (by omega)
  have e : a &&& 4294967295 = a % 4294967296 := Nat.and_two_pow_sub_one_eq_mod a 32
  rw [e] at h
  exact h
structure DivS (hi lo y s Y y1 y0 A B u v e1 e0 : Nat) : Prop where
  s64 : s ≤ 63
  Y2 : Y < 18446744073709551616
  sum : Y = y1 * 4294967296 + y0
  y0l : y0 < 4294967296
  y1g : 2147483648 ≤ y1
  y1l : y1 < 4294967296
  ul : u < Y
  vl : v < 18446744073709551616
  vsum : v = e1 * 4294967296 + e0
  e1l : e1 < 4294967296
  e0l : e0 < 4294967296
  quo : (hi * 18446744073709551616 + lo) / y = (u * 18446744073709551616 + v) / Y
  rem : (hi * 18446744073709551616 + lo) % y = (u * 18446744073709551616 + v) % Y / 2 ^ s
  shY : IntKind.u64.wrap ((y : Int) * 2 ^ s) = (Y : Int)
  shA : IntKind.u64.wrap ((hi : Int) * 2 ^ s) = (A : Int)
  shB : (lo : Int) / 2 ^ (64 - s) = (B : Int)
  orU : bits .or .u64 (A : Int) (B : Int) = (u : Int)
  shV : IntKind.u64.wrap ((lo : Int) * 2 ^ s) = (v : Int)
  dY : (Y : Int) / 4294967296 = (y1 : Int)
  mY : bits .and .u64 (Y : Int) 4294967295 = (y0 : Int)
  dV : (v : Int) / 4294967296 = (e1 : Int)
  mV : bits .and .u64 (v : Int) 4294967295 = (e0 : Int)
theorem divS_of {hi lo y : Nat} (hy : hi < y) (hyl : y < 18446744073709551616) (hlo : lo < 18446744073709551616) :
    ∃ Y y1 y0 A B u v e1 e0, Lib.bitLen y ≤ 64 ∧ DivS hi lo y (64 - Lib.bitLen y) Y y1 y0 A B u v e1 e0 := by
  have hb := Lib.bitLenAux_bounds 64 y hyl (by omega)
  change 1 ≤ Lib.bitLen y ∧ 2 ^ (Lib.bitLen y - 1) ≤ y ∧ y < 2 ^ Lib.bitLen y at hb
  have hb64 : Lib.bitLen y ≤ 64 := Lib.bitLen_le y 64 (Nat.le_refl _) hyl
  obtain ⟨b1, b2, b3⟩ := hb
  generalize Lib.bitLen y = b at *
  obtain ⟨s, hs⟩ : ∃ s, s = 64 - b := ⟨_, rfl⟩
  have hs63 : s ≤ 63 := by omega
  have p1 : 2 ^ b * 2 ^ s = 18446744073709551616 := by rw [← Nat.pow_add, show b + s = 64 by omega]
  have p2 : 2 ^ (b - 1) * 2 ^ s = 9223372036854775808 := by rw [← Nat.pow_add, show b - 1 + s = 63 by omega]
  have p3 : 2 ^ (64 - s) * 2 ^ s = 18446744073709551616 := by rw [← Nat.pow_add, show 64 - s + s = 64 by omega]
  have ps : 0 < 2 ^ s := Nat.two_pow_pos s
  have Y2 : y * 2 ^ s < 18446744073709551616 := by rw [← p1]; exact Nat.mul_lt_mul_of_pos_right b3 ps
  have Y1 : 9223372036854775808 ≤ y * 2 ^ s := by rw [← p2]; exact Nat.mul_le_mul_right _ b2
  have A2 : hi * 2 ^ s < y * 2 ^ s := Nat.mul_lt_mul_of_pos_right hy ps
  have q64 : 0 < 2 ^ (64 - s) := Nat.two_pow_pos _
  have B2 : lo / 2 ^ (64 - s) < 2 ^ s := by
    rw [Nat.div_lt_iff_lt_mul q64, Nat.mul_comm, p3]
    exact hlo
  have hor : hi * 2 ^ s ||| lo / 2 ^ (64 - s) = hi * 2 ^ s + lo / 2 ^ (64 - s) := by
    rw [Nat.mul_comm hi, ← Nat.two_pow_add_eq_or_of_lt B2]
  have hv : lo * 2 ^ s = lo / 2 ^ (64 - s) * 18446744073709551616 + lo * 2 ^ s % 18446744073709551616 := by
    have e : lo * 2 ^ s / 18446744073709551616 = lo / 2 ^ (64 - s) := by
      rw [← p3, Nat.mul_div_mul_right _ _ ps]
    have := Nat.div_add_mod' (lo * 2 ^ s) 18446744073709551616
    rw [e] at this
    exact this.symm
  have hU : (hi * 2 ^ s + lo / 2 ^ (64 - s)) * 18446744073709551616 + lo * 2 ^ s % 18446744073709551616 = (hi * 18446744073709551616 + lo) * 2 ^ s := by
    rw [Nat.add_mul, Nat.add_mul, hv, Nat.mul_right_comm hi]
    omega
  have hul : hi * 2 ^ s + lo / 2 ^ (64 - s) < y * 2 ^ s := by
    have h1 : (hi + 1) * 2 ^ s ≤ y * 2 ^ s := Nat.mul_le_mul_right _ hy
    rw [Nat.add_mul, Nat.one_mul] at h1
    omega
  have hY0 : 0 < y * 2 ^ s := by omega
  refine ⟨y * 2 ^ s, y * 2 ^ s / 4294967296, y * 2 ^ s % 4294967296, hi * 2 ^ s, lo / 2 ^ (64 - s), hi * 2 ^ s + lo / 2 ^ (64 - s), lo * 2 ^ s % 18446744073709551616, lo * 2 ^ s % 18446744073709551616 / 4294967296, lo * 2 ^ s % 18446744073709551616 % 4294967296, hb64, ?_⟩
  rw [← hs]
  have vl : lo * 2 ^ s % 18446744073709551616 < 18446744073709551616 := Nat.mod_lt _ (by decide)
  refine ⟨hs63, Y2, ?_, ?_, ?_, ?_, hul, vl, ?_, ?_, ?_, ?_, ?_, ?_, ?_, ?_, ?_, ?_, ?_, ?_, ?_, ?_⟩
  · omega
  · omega
  · omega
  · omega
  · omega
  · omega
  · omega
  · rw [hU, Nat.mul_div_mul_right _ _ ps]
  · rw [hU, Nat.mul_mod_mul_right, Nat.mul_div_cancel _ ps]
  · rw [castPow, wrapU Y2]
  · rw [castPow, wrapU (by omega)]
  · rw [castDiv]
  · rw [bits_or_u64_nat _ _ (by omega) (by omega), hor]
  · rw [castPow, wrapM]
  · rw [Int.natCast_ediv]; rfl
  · exact maskK Y2
  · rw [Int.natCast_ediv]; rfl
  · exact maskK vl
theorem subU {a b : Nat} (h : b ≤ a) (hd : a - b < 18446744073709551616) : IntKind.u64.wrap (IntKind.u64.wrap (a : Int) - IntKind.u64.wrap (b : Int)) = ((a - b : Nat) : Int) := by
  rw [IntKind.wrap_u64, IntKind.wrap_u64, IntKind.wrap_u64]
  omega
end Go.Proofs.YtfonpobdnhifgamGreatDoor
namespace Go.Proofs.YtfonpobdnhifgamGreatDoor
open Go Go.RowKit

theorem mulNN (a b : Nat) : (a : Int) * (b : Int) = ((a * b : Nat) : Int) := (Int.natCast_mul a b).symm
theorem addNN (a b : Nat) : (a : Int) + (b : Int) = ((a + b : Nat) : Int) := (Int.natCast_add a b).symm
theorem divKN (a : Nat) : (a : Int) / 4294967296 = ((a / 4294967296 : Nat) : Int) := by omega
set_option maxHeartbeats 1000000 in
theorem mul64_any (x y : Nat) (hx : x < 18446744073709551616) (hy : y < 18446744073709551616) (w : World) :
    Calls Tryz.prog 83 #[.int .u64 x, .int .u64 y] w fun e w' => e = .returned (.tuple #[.int .u64 ((x * y / 18446744073709551616 : Nat) : Int), .int .u64 ((x * y % 18446744073709551616 : Nat) : Int)]) ∧ w' = w := by
  obtain ⟨bd, bt, bw, hhi⟩ := Lib.mul64_hi x y hx hy
  have ba := Lib.half_mul_le (a := x / 4294967296) (b := y / 4294967296) (by omega) (by omega)
  have bb := Lib.half_mul_le (a := x / 4294967296) (b := y % 4294967296) (by omega) (by omega)
  have bc := Lib.half_mul_le (a := x % 4294967296) (b := y / 4294967296) (by omega) (by omega)
  have ba' : x / 4294967296 * (y / 4294967296) < 18446744073709551616 := by omega
  have bb' : x / 4294967296 * (y % 4294967296) < 18446744073709551616 := by omega
  have bc' : x % 4294967296 * (y / 4294967296) < 18446744073709551616 := by omega
  have bh1 : x / 4294967296 * (y / 4294967296) + (x / 4294967296 * (y % 4294967296) + x % 4294967296 * (y % 4294967296) / 4294967296) / 4294967296 < 18446744073709551616 := by omega
  have bh : x / 4294967296 * (y / 4294967296) + (x / 4294967296 * (y % 4294967296) + x % 4294967296 * (y % 4294967296) / 4294967296) / 4294967296 + ((x / 4294967296 * (y % 4294967296) + x % 4294967296 * (y % 4294967296) / 4294967296) % 4294967296 + x % 4294967296 * (y / 4294967296)) / 4294967296 < 18446744073709551616 := by omega
  go_enter Tryz.func83, Tryz.ntmps83
  go_wp2
  simp only [maskK hx, maskK hy, divKN, mulNN, addNN, wrapU bd, wrapU bb', wrapU bt, maskK bt, wrapU bc', wrapU bw, wrapU ba', wrapU bh1, wrapU bh, wrapM (x * y)]
  rw [hhi]
  go_ret2
  exact ⟨rfl, rfl⟩
end Go.Proofs.YtfonpobdnhifgamGreatDoor
