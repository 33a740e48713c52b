/-
  The program's exact sums: one taken away from another, by its contract.
-/
import Derived.Test.YtmgnobeaacjdjacExact4
namespace Go.Proofs.Ytmgnobeaacjdjac
open Go Go.RowKit

def zero34 : Array Value := #[.int .u64 0, .int .u64 0, .int .u64 0, .int .u64 0, .int .u64 0, .int .u64 0, .int .u64 0, .int .u64 0, .int .u64 0, .int .u64 0, .int .u64 0, .int .u64 0, .int .u64 0, .int .u64 0, .int .u64 0, .int .u64 0, .int .u64 0, .int .u64 0, .int .u64 0, .int .u64 0, .int .u64 0, .int .u64 0, .int .u64 0, .int .u64 0, .int .u64 0, .int .u64 0, .int .u64 0, .int .u64 0, .int .u64 0, .int .u64 0, .int .u64 0, .int .u64 0, .int .u64 0, .int .u64 0]
theorem zero34_at : ∀ j, j < 34 → zero34.getD j undef = u64v (fun _ => 0) j := by
  intro j hj
  have hj : j = 0 ∨ j = 1 ∨ j = 2 ∨ j = 3 ∨ j = 4 ∨ j = 5 ∨ j = 6 ∨ j = 7 ∨ j = 8 ∨ j = 9 ∨ j = 10 ∨ j = 11 ∨ j = 12 ∨ j = 13 ∨ j = 14 ∨ j = 15 ∨ j = 16 ∨ j = 17 ∨ j = 18 ∨ j = 19 ∨ j = 20 ∨ j = 21 ∨ j = 22 ∨ j = 23 ∨ j = 24 ∨ j = 25 ∨ j = 26 ∨ j = 27 ∨ j = 28 ∨ j = 29 ∨ j = 30 ∨ j = 31 ∨ j = 32 ∨ j = 33 := by omega
  rcases hj with rfl | rfl | rfl | rfl | rfl | rfl | rfl | rfl | rfl | rfl | rfl | rfl | rfl | rfl | rfl | rfl | rfl | rfl | rfl | rfl | rfl | rfl | rfl | rfl | rfl | rfl | rfl | rfl | rfl | rfl | rfl | rfl | rfl | rfl <;> rfl
theorem sum_new (w : World) (t : TypeId) : Sum64 (w.alloc (.cells zero34 t)) w.heap.size (fun _ => 0) :=
  ⟨(RowIs.new (n := 34) (by decide)).congr zero34_at, fun _ => by decide⟩
theorem sub_step {l v u : Nat → Nat} {i b : Nat} (hu : u i < 18446744073709551616) (hv : v i < 18446744073709551616) (hb : b ≤ 1) (h : dv 64 l i + dv 64 u i = dv 64 v i + b * 2 ^ (64 * i)) :
    dv 64 (upd l i ((v i + 18446744073709551616 - u i - b) % 18446744073709551616)) (i + 1) + dv 64 u (i + 1) = dv 64 v (i + 1) + (if v i < u i + b then 1 else 0) * 2 ^ (64 * (i + 1)) := by
  rw [dv, upd_same, dv_set_out (Nat.le_refl _), dv, dv]
  have p1 : (2 : Nat) ^ (64 * (i + 1)) = 18446744073709551616 * 2 ^ (64 * i) := by rw [Nat.mul_add, Nat.pow_add, Nat.mul_comm]
  rw [p1]
  generalize (2 : Nat) ^ (64 * i) = t at *
  generalize dv 64 l i = L at *
  generalize dv 64 u i = Y at *
  generalize dv 64 v i = X at *
  generalize u i = y at *
  generalize v i = x at *
  have key : (x + 18446744073709551616 - y - b) % 18446744073709551616 + y + b = x + (if x < y + b then 1 else 0) * 18446744073709551616 := by
    split <;> omega
  generalize (x + 18446744073709551616 - y - b) % 18446744073709551616 = d at *
  generalize (if x < y + b then 1 else 0) = q at *
  have h2 : (d + y + b) * t = (x + q * 18446744073709551616) * t := by rw [key]
  grind
theorem sub_end {L X Y b T : Nat} (h : L + Y = X + b * T) (hL : L < T) (hle : Y ≤ X) (hb : b ≤ 1) : L + Y = X := by
  rcases (show b = 0 ∨ b = 1 by omega) with rfl | rfl
  · omega
  · omega
theorem top64 {l : Nat → Nat} (h : ∀ j, l j < 18446744073709551616) (n : Nat) : dv 64 l n < 2 ^ (64 * n) := dv_lt fun i _ => by rw [two64]; exact h i
end Go.Proofs.Ytmgnobeaacjdjac
