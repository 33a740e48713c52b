/-
  Whole numbers by their digits. No program here.
-/
import Derived.Laws.MathBits
namespace Go.Proofs.Ytmgnobeaacjdjac
open Go

/-- The number of the first n digits, b bits each. -/
def dv (b : Nat) (v : Nat → Nat) : Nat → Nat
  | 0 => 0
  | n + 1 => dv b v n + v n * 2 ^ (b * n)
def upd (v : Nat → Nat) (k x : Nat) : Nat → Nat := fun i => if i = k then x else v i
theorem upd_same (v : Nat → Nat) (k x : Nat) : upd v k x k = x := by simp [upd]
theorem upd_other (v : Nat → Nat) {k i : Nat} (x : Nat) (h : i ≠ k) : upd v k x i = v i := by simp [upd, h]

theorem dv_lt {b : Nat} {v : Nat → Nat} : ∀ {n : Nat}, (∀ i, i < n → v i < 2 ^ b) → dv b v n < 2 ^ (b * n)
  | 0, _ => by simp [dv]
  | n + 1, h => by
    have h1 := dv_lt (n := n) fun i hi => h i (by omega)
    have h2 : v n + 1 ≤ 2 ^ b := h n (by omega)
    have h3 := Nat.mul_le_mul_right (2 ^ (b * n)) h2
    rw [Nat.add_mul, Nat.one_mul, ← Nat.pow_add] at h3
    rw [dv, Nat.mul_add, Nat.mul_one, Nat.add_comm (b * n) b]
    omega
theorem dv_congr {b : Nat} {v u : Nat → Nat} : ∀ {n : Nat}, (∀ i, i < n → v i = u i) → dv b v n = dv b u n
  | 0, _ => rfl
  | n + 1, h => by rw [dv, dv, dv_congr (n := n) fun i hi => h i (by omega), h n (by omega)]
theorem dv_split (b : Nat) (v : Nat → Nat) (k : Nat) : ∀ m, dv b v (k + m) = dv b v k + 2 ^ (b * k) * dv b (fun i => v (k + i)) m
  | 0 => by simp [dv]
  | m + 1 => by
    rw [← Nat.add_assoc, dv, dv, dv_split b v k m, Nat.mul_add (2 ^ (b * k)), Nat.mul_add b, Nat.pow_add, Nat.add_assoc]
    congr 2
    rw [Nat.mul_left_comm]
theorem dv_set {b : Nat} {v : Nat → Nat} {k x : Nat} : ∀ {n : Nat}, k < n → dv b (upd v k x) n + v k * 2 ^ (b * k) = dv b v n + x * 2 ^ (b * k)
  | 0, h => absurd h (by omega)
  | n + 1, h => by
    rw [dv, dv]
    by_cases e : k = n
    · subst e
      rw [upd_same, dv_congr (u := v) fun i hi => upd_other v x (by omega)]
      omega
    · have := dv_set (b := b) (v := v) (k := k) (x := x) (n := n) (by omega)
      rw [upd_other v x (by omega)]
      omega
theorem dv_set_out {b : Nat} {v : Nat → Nat} {k x n : Nat} (h : n ≤ k) : dv b (upd v k x) n = dv b v n := dv_congr fun _ hi => upd_other v x (by omega)
theorem dv_div {b : Nat} {v : Nat → Nat} {k n : Nat} (hk : k ≤ n) (h : ∀ i, i < k → v i < 2 ^ b) : dv b v n / 2 ^ (b * k) = dv b (fun i => v (k + i)) (n - k) := by
  have e := dv_split b v k (n - k)
  rw [show k + (n - k) = n by omega] at e
  rw [e, Nat.add_mul_div_left _ _ (Nat.two_pow_pos _), Nat.div_eq_of_lt (dv_lt h), Nat.zero_add]
theorem dv_mod {b : Nat} {v : Nat → Nat} {k n : Nat} (hk : k ≤ n) (h : ∀ i, i < k → v i < 2 ^ b) : dv b v n % 2 ^ (b * k) = dv b v k := by
  have e := dv_split b v k (n - k)
  rw [show k + (n - k) = n by omega] at e
  rw [e, Nat.add_mul_mod_self_left, Nat.mod_eq_of_lt (dv_lt h)]
/-- the digits from k on: the k-th, then the rest. -/
theorem dv_head {b : Nat} {v : Nat → Nat} {k n : Nat} (hk : k < n) (h : ∀ i, i < k → v i < 2 ^ b) : dv b v n / 2 ^ (b * k) = v k + 2 ^ b * dv b (fun i => v (k + 1 + i)) (n - k - 1) := by
  rw [dv_div (by omega) h]
  have e := dv_split b (fun i => v (k + i)) 1 (n - k - 1)
  rw [show 1 + (n - k - 1) = n - k by omega] at e
  rw [e]
  simp only [dv, Nat.mul_zero, Nat.pow_zero, Nat.mul_one, Nat.zero_add, Nat.add_zero]
  congr 2
  exact dv_congr fun i _ => by rw [Nat.add_assoc]
theorem dv_bit {b : Nat} {v : Nat → Nat} {k j n : Nat} (hk : k < n) (hj : j < b) (h : ∀ i, i < n → v i < 2 ^ b) : dv b v n / 2 ^ (b * k + j) % 2 = v k / 2 ^ j % 2 := by
  rw [Nat.pow_add, ← Nat.div_div_eq_div_mul, dv_head hk fun i hi => h i (by omega)]
  have e : (2 : Nat) ^ b = 2 ^ j * (2 * 2 ^ (b - j - 1)) := by
    rw [← Nat.mul_assoc, ← Nat.pow_succ, ← Nat.pow_add]; congr 1; omega
  rw [e, Nat.mul_assoc, Nat.add_mul_div_left _ _ (Nat.two_pow_pos _), Nat.mul_assoc, Nat.add_mul_mod_self_left]
theorem dv_from {b : Nat} {v : Nat → Nat} {k j n : Nat} (hk : k + 1 < n) (hj : j < b) (h : ∀ i, i < n → v i < 2 ^ b) :
    dv b v n / 2 ^ (b * k + j) % 2 ^ b = v k / 2 ^ j + v (k + 1) * 2 ^ (b - j) % 2 ^ b := by
  rw [Nat.pow_add, ← Nat.div_div_eq_div_mul, dv_head (by omega) fun i hi => h i (by omega)]
  have e : (2 : Nat) ^ b = 2 ^ j * 2 ^ (b - j) := by rw [← Nat.pow_add]; congr 1; omega
  have e1 : dv b (fun i => v (k + 1 + i)) (n - k - 1) = v (k + 1) + 2 ^ b * dv b (fun i => v (k + 2 + i)) (n - k - 2) := by
    have := dv_head (b := b) (v := v) (k := k + 1) (n := n) (by omega) fun i hi => h i (by omega)
    rw [dv_div (by omega) fun i hi => h i (by omega)] at this
    rw [show n - k - 1 = n - (k + 1) by omega, this]
    congr 2
  rw [e1]
  generalize dv b (fun i => v (k + 2 + i)) (n - k - 2) = t
  have h0 := h k (by omega)
  have e2 : (v k + 2 ^ b * (v (k + 1) + 2 ^ b * t)) / 2 ^ j = v k / 2 ^ j + 2 ^ (b - j) * (v (k + 1) + 2 ^ b * t) := by
    conv => lhs; rw [show (2 : Nat) ^ b * (v (k + 1) + 2 ^ b * t) = 2 ^ j * (2 ^ (b - j) * (v (k + 1) + 2 ^ b * t)) by rw [← Nat.mul_assoc, ← e]]
    rw [Nat.add_mul_div_left _ _ (Nat.two_pow_pos _)]
  rw [e2, Nat.mul_add, ← Nat.add_assoc, Nat.mul_left_comm, Nat.add_mul_mod_self_left]
  have h1 : v k / 2 ^ j < 2 ^ (b - j) := Nat.div_lt_of_lt_mul (by rw [← e]; exact h0)
  rw [Nat.mul_comm (v (k + 1))]
  have e3 : 2 ^ (b - j) * v (k + 1) % 2 ^ b = 2 ^ (b - j) * (v (k + 1) % 2 ^ j) := by
    rw [e, Nat.mul_comm (2 ^ j), Nat.mul_mod_mul_left]
  have h2 : v (k + 1) % 2 ^ j < 2 ^ j := Nat.mod_lt _ (Nat.two_pow_pos _)
  have h3 := Nat.mul_le_mul_left (2 ^ (b - j)) (show v (k + 1) % 2 ^ j + 1 ≤ 2 ^ j from h2)
  rw [Nat.mul_add, Nat.mul_one, Nat.mul_comm _ (2 ^ j), ← e] at h3
  rw [Nat.add_mod, e3, Nat.mod_eq_of_lt (a := v k / 2 ^ j), Nat.mod_eq_of_lt]
  · omega
  · rw [e]
    exact Nat.lt_of_lt_of_le h1 (Nat.le_mul_of_pos_left _ (Nat.two_pow_pos _))
theorem dv_zero {b : Nat} {v : Nat → Nat} : ∀ {n : Nat}, dv b v n = 0 ↔ ∀ i, i < n → v i = 0
  | 0 => by simp [dv]
  | n + 1 => by
    rw [dv, Nat.add_eq_zero_iff, dv_zero, Nat.mul_eq_zero]
    constructor
    · rintro ⟨h1, h2⟩ i hi
      rcases (show i < n ∨ i = n by omega) with h | rfl
      · exact h1 i h
      · exact h2.resolve_right (Nat.ne_of_gt (Nat.two_pow_pos _))
    · exact fun h => ⟨fun i hi => h i (by omega), .inl (h n (by omega))⟩
theorem dv_below {b : Nat} {v : Nat → Nat} {k j n : Nat} (hk : k < n) (hj : j < b) (h : ∀ i, i < n → v i < 2 ^ b) :
    dv b v n % 2 ^ (b * k + j) = dv b v k + 2 ^ (b * k) * (v k % 2 ^ j) := by
  have e := dv_split b v k (n - k)
  rw [show k + (n - k) = n by omega] at e
  have hh := dv_head (b := b) (v := v) hk fun i hi => h i (by omega)
  rw [dv_div (by omega) fun i hi => h i (by omega)] at hh
  have e2 : (2 : Nat) ^ b = 2 ^ j * 2 ^ (b - j) := by rw [← Nat.pow_add]; congr 1; omega
  rw [e, hh, Nat.pow_add, Nat.mod_mul, Nat.add_mul_mod_self_left, Nat.add_mul_div_left _ _ (Nat.two_pow_pos _), Nat.mod_eq_of_lt (dv_lt fun i hi => h i (by omega)), Nat.div_eq_of_lt (dv_lt fun i hi => h i (by omega)), Nat.zero_add]
  rw [e2, Nat.mul_assoc, Nat.add_mul_mod_self_left]
/-- the first digit that differs decides. -/
theorem dv_less {b : Nat} {v u : Nat → Nat} {k n : Nat} (hk : k < n) (hv : ∀ i, i < n → v i < 2 ^ b) (hu : ∀ i, i < n → u i < 2 ^ b) (he : ∀ i, k < i → i < n → v i = u i) (hl : v k < u k) : dv b v n < dv b u n := by
  have e1 := dv_split b v k (n - k)
  have e2 := dv_split b u k (n - k)
  rw [show k + (n - k) = n by omega] at e1 e2
  have h1 := dv_head (b := b) (v := v) hk fun i hi => hv i (by omega)
  have h2 := dv_head (b := b) (v := u) hk fun i hi => hu i (by omega)
  rw [dv_div (by omega) fun i hi => hv i (by omega)] at h1
  rw [dv_div (by omega) fun i hi => hu i (by omega)] at h2
  have h3 : dv b (fun i => v (k + 1 + i)) (n - k - 1) = dv b (fun i => u (k + 1 + i)) (n - k - 1) := dv_congr fun i hi => he _ (by omega) (by omega)
  rw [e1, e2, h1, h2, h3]
  have l1 := dv_lt (b := b) (v := v) (n := k) fun i hi => hv i (by omega)
  generalize dv b (fun i => u (k + 1 + i)) (n - k - 1) = t
  have h4 := Nat.mul_le_mul_left (2 ^ (b * k)) (show v k + 2 ^ b * t + 1 ≤ u k + 2 ^ b * t by omega)
  rw [Nat.mul_add _ _ 1, Nat.mul_one] at h4
  omega
theorem dv_top {b : Nat} {v : Nat → Nat} {k n : Nat} (hk : k < n) (hv : ∀ i, i < n → v i < 2 ^ b) (hz : ∀ i, k < i → i < n → v i = 0) (h0 : v k ≠ 0) : bitLen (dv b v n) = b * k + bitLen (v k) := by
  have h1 := dv_head (b := b) (v := v) hk fun i hi => hv i (by omega)
  have h3 : dv b (fun i => v (k + 1 + i)) (n - k - 1) = 0 := dv_zero.2 fun i hi => hz _ (by omega) (by omega)
  rw [h3, Nat.mul_zero, Nat.add_zero] at h1
  rw [bitLen_shift _ (b * k) (by rw [h1]; exact h0), h1]
end Go.Proofs.Ytmgnobeaacjdjac
