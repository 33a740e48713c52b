/-
  The program's exact sums: one taken away from another, by its contract.
-/
import Derived.Test.YtbobnmaeiohnnacExact4
namespace Go.Proofs.Ytbobnmaeiohnnac
open Go Go.RowKit

def zero34 : Array Value := #[.int .u64 0, .int .u64 0, .int .u64 0, .int .u64 0, .int .u64 0, .int .u64 0, .int .u64 0, .int .u64 0, .int .u64 0, .int .u64 0, .int .u64 0, .int .u64 0, .int .u64 0, .int .u64 0, .int .u64 0, .int .u64 0, .int .u64 0, .int .u64 0, .int .u64 0, .int .u64 0, .int .u64 0, .int .u64 0, .int .u64 0, .int .u64 0, .int .u64 0, .int .u64 0, .int .u64 0, .int .u64 0, .int .u64 0, .int .u64 0, .int .u64 0, .int .u64 0, .int .u64 0, .int .u64 0]
theorem zero34_at : ∀ j, j < 34 → zero34.getD j undef = u64v (fun _ => 0) j := by
  intro j hj
  have hj : j = 0 ∨ j = 1 ∨ j = 2 ∨ j = 3 ∨ j = 4 ∨ j = 5 ∨ j = 6 ∨ j = 7 ∨ j = 8 ∨ j = 9 ∨ j = 10 ∨ j = 11 ∨ j = 12 ∨ j = 13 ∨ j = 14 ∨ j = 15 ∨ j = 16 ∨ j = 17 ∨ j = 18 ∨ j = 19 ∨ j = 20 ∨ j = 21 ∨ j = 22 ∨ j = 23 ∨ j = 24 ∨ j = 25 ∨ j = 26 ∨ j = 27 ∨ j = 28 ∨ j = 29 ∨ j = 30 ∨ j = 31 ∨ j = 32 ∨ j = 33 := by omega
  rcases hj with rfl | rfl | rfl | rfl | rfl | rfl | rfl | rfl | rfl | rfl | rfl | rfl | rfl | rfl | rfl | rfl | rfl | rfl | rfl | rfl | rfl | rfl | rfl | rfl | rfl | rfl | rfl | rfl | rfl | rfl | rfl | rfl | rfl | rfl <;> rfl
theorem sum_new (w : World) (t : TypeId) : Sum64 (w.alloc (.cells zero34 t)) w.heap.size (fun _ => 0) :=
  ⟨(RowIs.new (n := 34) (by decide)).congr zero34_at, fun _ => by decide⟩
theorem sub_step {l v u : Nat → Nat} {i b : Nat} (hu : u i < 18446744073709551616) (hv : v i < 18446744073709551616) (hb : b ≤ 1) (h : dv 64 l i + dv 64 u i = dv 64 v i + b * 2 ^ (64 * i)) :
    dv 64 (upd l i ((v i + 18446744073709551616 - u i - b) % 18446744073709551616)) (i + 1) + dv 64 u (i + 1) = dv 64 v (i + 1) + (if v i < u i + b then 1 else 0) * 2 ^ (64 * (i + 1)) := by
  rw [dv, upd_same, dv_set_out (Nat.le_refl _), dv, dv]
  have p1 : (2 : Nat) ^ (64 * (i + 1)) = 18446744073709551616 * 2 ^ (64 * i) := by rw [Nat.mul_add, Nat.pow_add, Nat.mul_comm]
  rw [p1]
  generalize (2 : Nat) ^ (64 * i) = t at *
  generalize dv 64 l i = L at *
  generalize dv 64 u i = Y at *
  generalize dv 64 v i = X at *
  generalize u i = y at *
  generalize v i = x at *
  have key : (x + 18446744073709551616 - y - b) % 18446744073709551616 + y + b = x + (if x < y + b then 1 else 0) * 18446744073709551616 := by
    split <;> omega
  generalize (x + 18446744073709551616 - y - b) % 18446744073709551616 = d at *
  generalize (if x < y + b then 1 else 0) = q at *
  have h2 : (d + y + b) * t = (x + q * 18446744073709551616) * t := by rw [key]
  grind
theorem sub_end {L X Y b T : Nat} (h : L + Y = X + b * T) (hL : L < T) (hle : Y ≤ X) (hb : b ≤ 1) : L + Y = X := by
  rcases (show b = 0 ∨ b = 1 by omega) with rfl | rfl
  · omega
  · omega
theorem top64 {l : Nat → Nat} (h : ∀ j, l j < 18446744073709551616) (n : Nat) : dv 64 l n < 2 ^ (64 * n) := dv_lt fun i _ => by rw [two64]; exact h i
set_option maxHeartbeats 2000000 in
theorem exact_without (g h : Nat) (v u : Nat → Nat) (w : World) (hs : Sum64 w g v) (ht : Sum64 w h u) (hle : dv 64 u 34 ≤ dv 64 v 34) :
    Calls Try.prog 26 #[.pointer (some ⟨g, 0, none⟩), .pointer (some ⟨h, 0, none⟩)] w fun e w' => e = .returned (.pointer (some ⟨w.heap.size, 0, none⟩)) ∧ ∃ l, Sum64 w' w.heap.size l ∧ dv 64 l 34 + dv 64 u 34 = dv 64 v 34 ∧ Below w.heap.size w w' := by
  have HLE := hideE hle
  clear hle
  have hg := hs.row.lt
  have hh := ht.row.lt
  have S0 := hideE (sum_new w 41)
  have B0 := hideE ((Below.refl w.heap.size w).alloc (Nat.le_refl _) (.cells zero34 41))
  unfold zero34 at S0 B0
  go_enter Try.func26, Try.ntmps26
  go_wp2
  go_loopw [6, 8] (fun bv iv wl => ∃ (b i : Nat) (l : Nat → Nat), i ≤ 34 ∧ b ≤ 1 ∧ bv = .int .u64 (b : Nat) ∧ iv = .int .i64 i ∧ HeldE (Sum64 wl w.heap.size l) ∧ HeldE (dv 64 l i + dv 64 u i = dv 64 v i + b * 2 ^ (64 * i)) ∧ HeldE (Below w.heap.size w wl)) (fun _ i _ => 40 - (intOf i).toNat)
  case atStart => exact ⟨0, 0, _, by omega, by omega, rfl, rfl, S0, (rfl : (0 : Nat) + 0 = 0 + 0), B0⟩
  case round =>
    obtain ⟨b, i, l, hi, hb, rfl, rfl, HS, HD, HB⟩ := hrel
    by_cases hlt : i < 34
    · have c0 := ((unhideE HB).cell (p := ⟨g, i, none⟩) hg).trans (hs.row.cell i hlt)
      have c1 := ((unhideE HB).cell (p := ⟨h, i, none⟩) hh).trans (ht.row.cell i hlt)
      have c2 := (unhideE HS).row.cell i hlt
      have f2 := (unhideE HS).row.free i hlt
      unfold u64v at c0 c1 c2
      have hii : (i : Int) < 34 := by omega
      have r0 := run_sub64 (v i) (u i) b hb
      have D2 := hideE (sub_step (ht.lt i) (hs.lt i) hb (unhideE HD))
      have m0 : (v i + 18446744073709551616 - u i - b) % 18446744073709551616 < 18446744073709551616 := Nat.mod_lt _ (by decide)
      have q0 : (if v i < u i + b then 1 else 0) ≤ 1 := by split <;> omega
      generalize (v i + 18446744073709551616 - u i - b) % 18446744073709551616 = d at *
      generalize (if v i < u i + b then 1 else 0) = q at *
      have S2 := hideE ((unhideE HS).set hlt m0).drew
      have B2 := hideE ((unhideE HB).setCell (p := ⟨w.heap.size, i, none⟩) (Nat.le_refl _) (.int .u64 (d : Nat))).drew
      clear HS HD HB
      go_wp2
      go_region
      go_wp2
      exact ⟨⟨q, i + 1, _, by omega, q0, rfl, by go_num, S2, D2, B2⟩, by simp [intOf]; omega⟩
    · obtain rfl : i = 34 := by omega
      have E := hideE (sub_end (unhideE HD) (top64 (unhideE HS).lt 34) (unhideE HLE) hb)
      clear HD
      go_wp2
      go_ret
      exact ⟨rfl, l, unhideE HS, unhideE E, unhideE HB⟩
end Go.Proofs.Ytbobnmaeiohnnac
