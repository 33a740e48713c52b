/-
  The program's exact sums: a number's size added, by its contract.
-/
import Derived.Test.YtmgnobeaacjdjacExact1
namespace Go.Proofs.Ytmgnobeaacjdjac
open Go Go.RowKit

def u64v (v : Nat → Nat) : Nat → Value := fun j => .int .u64 (v j : Nat)
theorem u64v_upd (v : Nat → Nat) (k x j : Nat) : updA (u64v v) k (.int .u64 (x : Nat)) j = u64v (upd v k x) j := by
  unfold updA u64v upd
  split <;> rfl
/-- an exact sum at block g. -/
structure Sum64 (w : World) (g : Nat) (v : Nat → Nat) : Prop where
  row : RowIs w g 34 (u64v v)
  lt : ∀ j, v j < 18446744073709551616
theorem Sum64.set {w : World} {g : Nat} {v : Nat → Nat} (s : Sum64 w g v) {k x : Nat} (hk : k < 34) (hx : x < 18446744073709551616) : Sum64 (w.setCell ⟨g, k, none⟩ (.int .u64 (x : Nat))) g (upd v k x) where
  row := (s.row.set hk _).congr fun j _ => u64v_upd v k x j
  lt j := by
    unfold upd
    split
    · exact hx
    · exact s.lt j
theorem Sum64.drew {w : World} {g : Nat} {v : Nat → Nat} (s : Sum64 w g v) : Sum64 w.drew g v := ⟨⟨s.row.cell, s.row.free, s.row.lt⟩, s.lt⟩
theorem Only.drew {g : Nat} {a w : World} (h : Only g a w) : Only g a w.drew := ⟨h.os, h.tape, h.output, h.size, h.block⟩
def cap34 : Nat := capOf 2123
theorem capOf_le {k n : Nat} (h : 53 + k ≤ n) : capOf k ≤ 2 ^ n := Nat.pow_le_pow_right (by decide) h
theorem cap34_le {i : Nat} (h : 34 ≤ i) : cap34 ≤ 2 ^ (64 * i) := capOf_le (k := 2123) (by omega)
theorem in34 {c i T : Nat} (hc : c ≠ 0) (h : c * 2 ^ (64 * i) ≤ T) (hT : T < cap34) : i < 34 := by
  rcases Nat.lt_or_ge i 34 with h1 | h1
  · exact h1
  · have h2 := cap34_le h1
    have h3 : 2 ^ (64 * i) ≤ c * 2 ^ (64 * i) := Nat.le_mul_of_pos_left _ (by omega)
    omega
theorem add_two {v : Nat → Nat} {k lo hi : Nat} (hk : k + 1 < 34) :
    dv 64 (upd (upd v k ((v k + lo) % 18446744073709551616)) (k + 1) ((v (k + 1) + hi + (v k + lo) / 18446744073709551616) % 18446744073709551616)) 34
      + (v (k + 1) + hi + (v k + lo) / 18446744073709551616) / 18446744073709551616 * 2 ^ (64 * (k + 2)) = dv 64 v 34 + (lo + hi * 18446744073709551616) * 2 ^ (64 * k) := by
  have e1 := dv_set (b := 64) (v := v) (k := k) (x := (v k + lo) % 18446744073709551616) (n := 34) (by omega)
  have e2 := dv_set (b := 64) (v := upd v k ((v k + lo) % 18446744073709551616)) (k := k + 1) (x := (v (k + 1) + hi + (v k + lo) / 18446744073709551616) % 18446744073709551616) (n := 34) hk
  rw [upd_other _ _ (by omega)] at e2
  have p1 : (2 : Nat) ^ (64 * (k + 1)) = 18446744073709551616 * 2 ^ (64 * k) := by rw [Nat.mul_add, Nat.pow_add, Nat.mul_comm]
  have p2 : (2 : Nat) ^ (64 * (k + 2)) = 18446744073709551616 * (18446744073709551616 * 2 ^ (64 * k)) := by
    rw [Nat.mul_add, Nat.pow_add, Nat.mul_comm, ← Nat.mul_assoc]
  rw [p1] at e2
  rw [p2]
  generalize (2 : Nat) ^ (64 * k) = t at *
  generalize dv 64 (upd (upd v k ((v k + lo) % 18446744073709551616)) (k + 1) ((v (k + 1) + hi + (v k + lo) / 18446744073709551616) % 18446744073709551616)) 34 = A at *
  generalize dv 64 (upd v k ((v k + lo) % 18446744073709551616)) 34 = B at *
  generalize dv 64 v 34 = D at *
  generalize v (k + 1) = y at *
  generalize v k = x at *
  generalize hc : (x + lo) / 18446744073709551616 = c at *
  generalize hr : (x + lo) % 18446744073709551616 = r at *
  have h1 : x + lo = 18446744073709551616 * c + r := by omega
  generalize hc2 : (y + hi + c) / 18446744073709551616 = c2 at *
  generalize hr2 : (y + hi + c) % 18446744073709551616 = r2 at *
  have h2 : y + hi + c = 18446744073709551616 * c2 + r2 := by omega
  have h3 : (x + lo) * t = (18446744073709551616 * c + r) * t := by rw [h1]
  have h4 : (y + hi + c) * (18446744073709551616 * t) = (18446744073709551616 * c2 + r2) * (18446744073709551616 * t) := by rw [h2]
  grind
theorem add_one {v : Nat → Nat} {i c : Nat} (hi : i < 34) :
    dv 64 (upd v i ((v i + c) % 18446744073709551616)) 34 + (v i + c) / 18446744073709551616 * 2 ^ (64 * (i + 1)) = dv 64 v 34 + c * 2 ^ (64 * i) := by
  have e1 := dv_set (b := 64) (v := v) (k := i) (x := (v i + c) % 18446744073709551616) (n := 34) hi
  have p1 : (2 : Nat) ^ (64 * (i + 1)) = 18446744073709551616 * 2 ^ (64 * i) := by rw [Nat.mul_add, Nat.pow_add, Nat.mul_comm]
  rw [p1]
  generalize (2 : Nat) ^ (64 * i) = t at *
  generalize dv 64 (upd v i ((v i + c) % 18446744073709551616)) 34 = A at *
  generalize dv 64 v 34 = D at *
  generalize v i = x at *
  generalize hc : (x + c) / 18446744073709551616 = q at *
  generalize hr : (x + c) % 18446744073709551616 = r at *
  have h1 : x + c = 18446744073709551616 * q + r := by omega
  have h3 : (x + c) * t = (18446744073709551616 * q + r) * t := by rw [h1]
  grind
theorem in34_of {a i T : Nat} (h : a + 1 * 2 ^ (64 * i) = T) (hT : T < cap34) : i < 34 := in34 (c := 1) (by decide) (h ▸ Nat.le_add_left _ _) hT
theorem no_carry {a i T : Nat} (h : a + 0 * 2 ^ (64 * i) = T) : a = T := by
  rw [Nat.zero_mul, Nat.add_zero] at h
  exact h
theorem two_total {a b c d e : Nat} (h : a + b = c + d) (k : d = e) : a + b = c + e := by rw [h, k]
/-- a size's two words. -/
theorem lo_hi (s n : Nat) (hn : n < 64) : s * 2 ^ n % 18446744073709551616 + s / 2 ^ (64 - n) * 18446744073709551616 = s * 2 ^ n := by
  have e : (18446744073709551616 : Nat) = 2 ^ (64 - n) * 2 ^ n := by rw [← Nat.pow_add, show 64 - n + n = 64 by omega]
  have h : s * 2 ^ n / 18446744073709551616 = s / 2 ^ (64 - n) := by
    rw [e, Nat.mul_div_mul_right _ _ (Nat.two_pow_pos _)]
  rw [← h]
  omega
end Go.Proofs.Ytmgnobeaacjdjac
