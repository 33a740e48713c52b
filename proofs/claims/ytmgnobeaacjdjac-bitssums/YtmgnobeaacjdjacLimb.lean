/-
  The document's exact sum: digits of any sign. No program here.
-/
import Derived.Test.YtmgnobeaacjdjacSumV
namespace Go.Proofs.Ytmgnobeaacjdjac
open Go

def iv (L : Nat → Int) : Nat → Int
  | 0 => 0
  | n + 1 => iv L n + L n * 2 ^ (32 * n)
def updI (v : Nat → Int) (k : Nat) (x : Int) : Nat → Int := fun i => if i = k then x else v i
theorem updI_same (v : Nat → Int) (k : Nat) (x : Int) : updI v k x k = x := by simp [updI]
theorem updI_other (v : Nat → Int) {k i : Nat} (x : Int) (h : i ≠ k) : updI v k x i = v i := by simp [updI, h]
theorem iv_congr {v u : Nat → Int} : ∀ {n : Nat}, (∀ i, i < n → v i = u i) → iv v n = iv u n
  | 0, _ => rfl
  | n + 1, h => by rw [iv, iv, iv_congr (n := n) fun i hi => h i (by omega), h n (by omega)]
theorem iv_set {v : Nat → Int} {k : Nat} {x : Int} : ∀ {n : Nat}, k < n → iv (updI v k x) n = iv v n + (x - v k) * 2 ^ (32 * k)
  | 0, h => absurd h (by omega)
  | n + 1, h => by
    rw [iv, iv]
    by_cases e : k = n
    · subst e
      rw [updI_same, iv_congr (u := v) fun i hi => updI_other v x (by omega), Int.sub_mul]
      omega
    · have := iv_set (v := v) (k := k) (x := x) (n := n) (by omega)
      rw [updI_other v x (by omega), this]
      omega
theorem iv_zero : ∀ n, iv (fun _ => 0) n = 0
  | 0 => rfl
  | n + 1 => by rw [iv, iv_zero n]; simp

/-- A number's size by three digits from k on. -/
def limb0 (x : Nat) : Nat := szU x % 4294967296 * 2 ^ (upU x % 32) % 4294967296
def limb1 (x : Nat) : Nat := szU x % 4294967296 * 2 ^ (upU x % 32) / 4294967296 + szU x / 4294967296 * 2 ^ (upU x % 32) % 4294967296
def limb2 (x : Nat) : Nat := szU x / 4294967296 * 2 ^ (upU x % 32) / 4294967296
theorem pow31 (f : Nat) : 2 ^ (f % 32) ≤ 2147483648 := by
  rw [show (2147483648 : Nat) = 2 ^ 31 by decide]
  exact Nat.pow_le_pow_right (by decide) (by omega)
theorem low_lt (x : Nat) : szU x % 4294967296 * 2 ^ (upU x % 32) < 9223372036854775808 := by
  have h1 := pow31 (upU x)
  have h2 : szU x % 4294967296 < 4294967296 := by omega
  have h3 := Nat.mul_le_mul (show szU x % 4294967296 ≤ 4294967295 by omega) h1
  omega
theorem high_lt (x : Nat) : szU x / 4294967296 * 2 ^ (upU x % 32) < 4503599627370496 := by
  have h1 := pow31 (upU x)
  have h2 := szU_lt x
  have h3 := Nat.mul_le_mul (show szU x / 4294967296 ≤ 2097151 by omega) h1
  omega
theorem limb_bounds (x : Nat) : limb0 x < 4294967296 ∧ limb1 x < 8589934592 ∧ limb2 x < 4294967296 := by
  have h1 := low_lt x
  have h2 := high_lt x
  unfold limb0 limb1 limb2
  omega
theorem limb_is (x : Nat) : U x = (limb0 x + limb1 x * 4294967296 + limb2 x * 18446744073709551616) * 2 ^ (32 * (upU x / 32)) := by
  have e : limb0 x + limb1 x * 4294967296 + limb2 x * 18446744073709551616 = szU x * 2 ^ (upU x % 32) := by
    have h0 : szU x = szU x % 4294967296 + 4294967296 * (szU x / 4294967296) := by omega
    have h1 : szU x * 2 ^ (upU x % 32) = szU x % 4294967296 * 2 ^ (upU x % 32) + 4294967296 * (szU x / 4294967296 * 2 ^ (upU x % 32)) := by
      conv => lhs; rw [h0]
      rw [Nat.add_mul, Nat.mul_assoc]
    rw [h1]
    unfold limb0 limb1 limb2
    omega
  rw [e, Nat.mul_assoc, ← Nat.pow_add]
  unfold U
  rw [show upU x % 32 + 32 * (upU x / 32) = upU x by omega]
def takeL (L : Nat → Int) (s : Int) (x : Nat) : Nat → Int := fun i =>
  if i = upU x / 32 then L i + s * limb0 x else if i = upU x / 32 + 1 then L i + s * limb1 x else if i = upU x / 32 + 2 then L i + s * limb2 x else L i
theorem takeL_is (L : Nat → Int) (s : Int) (x n : Nat) (h : upU x / 32 + 2 < n) : iv (takeL L s x) n = iv L n + s * U x := by
  have e : takeL L s x = updI (updI (updI L (upU x / 32) (L (upU x / 32) + s * limb0 x)) (upU x / 32 + 1) (L (upU x / 32 + 1) + s * limb1 x)) (upU x / 32 + 2) (L (upU x / 32 + 2) + s * limb2 x) := by
    funext i
    unfold takeL updI
    by_cases h0 : i = upU x / 32
    · subst h0; simp
    · by_cases h1 : i = upU x / 32 + 1
      · subst h1; simp
      · by_cases h2 : i = upU x / 32 + 2
        · subst h2; simp
        · simp [h0, h1, h2]
  rw [e, iv_set h, iv_set (by omega), iv_set (by omega), updI_other _ _ (by omega), updI_other _ _ (by omega), updI_other _ _ (by omega), limb_is x]
  generalize upU x / 32 = k
  have p1 : (2 : Int) ^ (32 * (k + 1)) = 2 ^ (32 * k) * 4294967296 := by rw [Nat.mul_add, Int.pow_add]; rfl
  have p2 : (2 : Int) ^ (32 * (k + 2)) = 2 ^ (32 * k) * 18446744073709551616 := by rw [Nat.mul_add, Int.pow_add]; rfl
  rw [p1, p2]
  have p3 : (((limb0 x + limb1 x * 4294967296 + limb2 x * 18446744073709551616) * 2 ^ (32 * k) : Nat) : Int) = ((limb0 x : Int) + limb1 x * 4294967296 + limb2 x * 18446744073709551616) * 2 ^ (32 * k) := by
    simp
  rw [p3]
  generalize (2 : Int) ^ (32 * k) = t
  grind
theorem takeL_bound (L : Nat → Int) (s : Int) (x : Nat) (c : Int) (hs : s = 1 ∨ s = -1) (h : ∀ i, -c ≤ L i ∧ L i ≤ c) (i : Nat) : -(c + 8589934592) ≤ takeL L s x i ∧ takeL L s x i ≤ c + 8589934592 := by
  obtain ⟨b0, b1, b2⟩ := limb_bounds x
  have := h i
  unfold takeL
  rcases hs with rfl | rfl
  · split
    · omega
    · split
      · omega
      · split <;> omega
  · split
    · omega
    · split
      · omega
      · split <;> omega

/-! levelling: digits from 0 on, and a carry -/
theorem level_step {d : Nat → Nat} {L : Nat → Int} {i : Nat} {c : Int} (h : (dv 32 d i : Int) + c * 2 ^ (32 * i) = iv L i) :
    (dv 32 (upd d i ((L i + c) % 4294967296).toNat) (i + 1) : Int) + (L i + c) / 4294967296 * 2 ^ (32 * (i + 1)) = iv L (i + 1) := by
  rw [dv, upd_same, dv_set_out (Nat.le_refl _), iv, ← h]
  have hm : 0 ≤ (L i + c) % 4294967296 := by omega
  have p1 : (2 : Int) ^ (32 * (i + 1)) = 4294967296 * 2 ^ (32 * i) := by rw [Nat.mul_add, Int.pow_add, Int.mul_comm]; rfl
  have p2 : ((((L i + c) % 4294967296).toNat * 2 ^ (32 * i) : Nat) : Int) = (L i + c) % 4294967296 * 2 ^ (32 * i) := by
    rw [Int.natCast_mul, Int.toNat_of_nonneg hm]; simp
  rw [Int.natCast_add, p2, p1]
  generalize (2 : Int) ^ (32 * i) = t
  have h3 : (L i + c) = (L i + c) / 4294967296 * 4294967296 + (L i + c) % 4294967296 := by omega
  have h4 : (L i + c) % 4294967296 * t + (L i + c) / 4294967296 * (4294967296 * t) = (L i + c) * t := by
    rw [← Int.mul_assoc, ← Int.add_mul]
    congr 1
    omega
  rw [Int.add_mul] at h4
  omega
theorem turn_step {d e : Nat → Nat} {i : Nat} {c : Nat} (hd : d i < 4294967296) (h : dv 32 e i + c * 2 ^ (32 * i) + dv 32 d i = 2 ^ (32 * i)) :
    dv 32 (upd e i ((4294967295 - d i + c) % 4294967296)) (i + 1) + (4294967295 - d i + c) / 4294967296 * 2 ^ (32 * (i + 1)) + dv 32 d (i + 1) = 2 ^ (32 * (i + 1)) := by
  rw [dv, upd_same, dv_set_out (Nat.le_refl _), dv]
  have p1 : (2 : Nat) ^ (32 * (i + 1)) = 4294967296 * 2 ^ (32 * i) := by rw [Nat.mul_add, Nat.pow_add, Nat.mul_comm]
  rw [p1]
  generalize (2 : Nat) ^ (32 * i) = t at *
  have hv : 4294967295 - d i + c + d i = 4294967295 + c := by omega
  generalize 4294967295 - d i + c = v at *
  generalize d i = y at *
  have h3 : v % 4294967296 * t + v / 4294967296 * (4294967296 * t) = v * t := by
    rw [← Nat.mul_assoc, ← Nat.add_mul, show v % 4294967296 + v / 4294967296 * 4294967296 = v by omega]
  have h4 : v * t + y * t = 4294967295 * t + c * t := by rw [← Nat.add_mul, ← Nat.add_mul, hv]
  generalize v % 4294967296 * t = q1 at *
  generalize v / 4294967296 * (4294967296 * t) = q2 at *
  omega
end Go.Proofs.Ytmgnobeaacjdjac
