/-
  The program's exact sums: how long they are; rounded, by their contracts.
-/
import Derived.Test.YtmgnobeaacjdjacExact7
namespace Go.Proofs.Ytmgnobeaacjdjac
open Go Go.RowKit

theorem top_is {v : Nat → Nat} (hv : ∀ j, v j < 18446744073709551616) {i : Nat} (hi : i < 34) (hz : ∀ m, i < m → m < 34 → v m = 0) (h0 : v i ≠ 0) : bitLen (dv 64 v 34) = 64 * i + bitLen (v i) :=
  dv_top (b := 64) hi (fun m _ => by rw [two64]; exact hv m) hz h0
theorem top_none {v : Nat → Nat} (hz : ∀ m, 0 ≤ m → m < 34 → v m = 0) : bitLen (dv 64 v 34) = 0 := by
  rw [dv_zero.2 fun m hm => hz m (Nat.zero_le _) hm]
  rfl
theorem len_le {x : Nat} (h : x < 18446744073709551616) : bitLen x ≤ 64 := by
  by_cases h0 : x = 0
  · subst h0; decide
  · have h1 := (bitLen_spec x).2 h0
    rcases Nat.lt_or_ge 64 (bitLen x) with h2 | h2
    · have h3 : (2 : Nat) ^ 64 ≤ 2 ^ (bitLen x - 1) := Nat.pow_le_pow_right (by decide) (by omega)
      rw [two64] at h3
      omega
    · exact h2
set_option maxHeartbeats 4000000 in
theorem exact_long (g : Nat) (v : Nat → Nat) (w : World) (L : Nat) (hs : Sum64 w g v) (hL : L = bitLen (dv 64 v 34)) :
    Calls Try.prog 50 #[.pointer (some ⟨g, 0, none⟩)] w fun e w' => e = .returned (.int .i64 L) ∧ ∃ n, w' = w.drewN n := by
  have HL := hideE hL
  clear hL
  go_enter Try.func50, Try.ntmps50
  go_wp2
  go_loop [3] (fun iv => ∃ i : Nat, i ≤ 34 ∧ iv = .int .i64 ((i : Int) - 1) ∧ HeldE (∀ m, i ≤ m → m < 34 → v m = 0)) (fun iv => (intOf iv + 1).toNat)
  case atStart => exact ⟨34, by omega, rfl, fun m h1 h2 => absurd h1 (by omega)⟩
  case round =>
    obtain ⟨i, hi, rfl, HZ⟩ := hrel
    cases i with
    | zero =>
      have hl : L = 0 := by rw [unhideE HL]; exact top_none (unhideE HZ)
      have HL0 := hideE hl
      clear hl HL HZ hi
      go_wp2
      rw [unhideE HL0]
      go_ret
      exact ⟨rfl, 0, rfl⟩
    | succ i =>
      have c0 := hs.row.cell i (by omega)
      unfold u64v at c0
      have hi34 : (i : Int) < 34 := by omega
      rw [show (((i + 1 : Nat) : Int) - 1) = (i : Int) by omega]
      by_cases h0 : v i = 0
      · have HZ2 : HeldE (∀ m, i ≤ m → m < 34 → v m = 0) := fun m h1 h2 => by
          rcases (show m = i ∨ i + 1 ≤ m by omega) with rfl | h3
          · exact h0
          · exact unhideE HZ m h3 h2
        rw [h0] at c0
        clear HZ h0
        go_wp2
        exact ⟨⟨i, by omega, rfl, HZ2⟩, by simp [intOf]⟩
      · have hlt := hs.lt i
        have hl : L = 64 * i + bitLen (v i) := by rw [unhideE HL]; exact top_is hs.lt (by omega) (fun m h1 h2 => unhideE HZ m (by omega) h2) h0
        have hle := len_le hlt
        have hc := fun w => Try.bits_Len64 (v i : Int) w (by omega) (by omega)
        rw [show ((v i : Int)).toNat = v i by omega, len_is _ hlt] at hc
        have hnb : ((v i : Int) == 0) = false := by rw [beq_eq_false_iff_ne]; omega
        have HL0 := hideE hl
        clear hl HL HZ
        generalize bitLen (v i) = y at *
        generalize v i = x at *
        go_wp2_with (go_at_call 55; refine (hc _).mono ?_; rintro e w1 ⟨rfl, rfl⟩)
        rw [unhideE HL0, show ((64 * i + y : Nat) : Int) = (i : Int) * 64 + (y : Int) by omega]
        go_ret
        exact ⟨rfl, 0, rfl⟩
theorem inf_any (w : World) : Calls Try.prog 25 #[.int .i64 1] w fun e w' => e = .returned (.float .f64 9218868437227405312) ∧ w' = w := by
  have h2 : ∀ w, (callFunc 28 #[.int .u64 9218868437227405312]).run Try.prog w = .ok (.value (.float .f64 9218868437227405312)) w := fun w => run_frombitsI 9218868437227405312 w
  go_enter Try.func25, Try.ntmps25
  go_wp2
  go_ret
  exact ⟨rfl, rfl⟩
end Go.Proofs.Ytmgnobeaacjdjac
