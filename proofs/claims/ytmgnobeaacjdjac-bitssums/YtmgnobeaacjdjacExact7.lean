/-
  The program's exact sums: whether anything is left below a bit; how long they are, by the contracts.
-/
import Derived.Test.YtmgnobeaacjdjacExact6
namespace Go.Proofs.Ytmgnobeaacjdjac
open Go Go.RowKit

theorem any_true {v : Nat → Nat} (hv : ∀ j, v j < 18446744073709551616) {k j i : Nat} (hk : k < 34) (hj : j < 64) (hi : i < k) (h : v i ≠ 0) : decide (dv 64 v 34 % 2 ^ (64 * k + j) ≠ 0) = true := by
  rw [decide_eq_true_eq, below_is hv hk hj]
  intro h0
  have h1 : dv 64 v k = 0 := (Nat.add_eq_zero_iff.1 h0).1
  exact h (dv_zero.1 h1 i hi)
theorem any_rest {v : Nat → Nat} (hv : ∀ j, v j < 18446744073709551616) {k j : Nat} (hk : k < 34) (hj : j < 64) (h : ∀ i, i < k → v i = 0) : decide (dv 64 v 34 % 2 ^ (64 * k + j) ≠ 0) = decide (v k % 2 ^ j ≠ 0) := by
  rw [below_is hv hk hj, dv_zero.2 h, Nat.zero_add]
  by_cases h0 : v k % 2 ^ j = 0
  · simp [h0]
  · rw [decide_eq_true h0, decide_eq_true]
    intro h1
    rcases Nat.mul_eq_zero.1 h1 with h2 | h2
    · exact absurd h2 (Nat.ne_of_gt (Nat.two_pow_pos _))
    · exact h0 h2
theorem mask_low (x j : Nat) (hx : x < 18446744073709551616) (hj : j < 64) : bits .and .u64 (x : Int) ((2 : Int) ^ j - 1) = ((x % 2 ^ j : Nat) : Int) := by
  have hp : (2 : Nat) ^ j ≤ 2 ^ 63 := Nat.pow_le_pow_right (by decide) (by omega)
  have h0 := Nat.two_pow_pos j
  have h := u64_and_nat x (2 ^ j - 1) hx (by rw [show (2 : Nat) ^ 63 = 9223372036854775808 by decide] at hp; omega)
  rw [Nat.and_two_pow_sub_one_eq_mod] at h
  rw [← h]
  congr 1
  rw [Int.natCast_sub (by omega)]
  simp
theorem pow_le63 {j : Nat} (h : j < 64) : (2 : Int) ^ j ≤ 9223372036854775808 := by
  have hp : (2 : Nat) ^ j ≤ 2 ^ 63 := Nat.pow_le_pow_right (by decide) (by omega)
  rw [show (2 : Nat) ^ 63 = 9223372036854775808 by decide] at hp
  have e : ((2 ^ j : Nat) : Int) = (2 : Int) ^ j := by simp
  omega
set_option maxHeartbeats 4000000 in
theorem exact_any (g : Nat) (v : Nat → Nat) (w : World) (up : Nat) (B : Bool) (hs : Sum64 w g v) (hu : up ≤ 2045) (hB : B = decide (dv 64 v 34 % 2 ^ up ≠ 0)) :
    Calls Try.prog 53 #[.pointer (some ⟨g, 0, none⟩), .int .i64 up] w fun e w' => e = .returned (.bool B) ∧ ∃ n, w' = w.drewN n := by
  have h1 : (up : Int).tdiv 64 = ((up / 64 : Nat) : Int) := by rw [Int.tdiv_eq_ediv_of_nonneg (by omega)]; omega
  have h2 : (up : Int).tmod 64 = ((up % 64 : Nat) : Int) := by rw [Int.tmod_eq_emod_of_nonneg (by omega)]; omega
  have hup2 : up = 64 * (up / 64) + up % 64 := by omega
  have hk : up / 64 ≤ 31 := by omega
  have hn : up % 64 < 64 := by omega
  generalize up / 64 = k at *
  generalize up % 64 = j at *
  rw [hup2] at hB
  have HB := hideE hB
  clear hB hup2
  have k34 : (k : Int) < 34 := by omega
  have k35 : (k : Int) ≤ 34 := by omega
  go_enter Try.func53, Try.ntmps53
  go_wp2
  go_loop [18] (fun iv => ∃ i : Nat, i ≤ k ∧ iv = .int .i64 i ∧ HeldE (∀ m, m < i → v m = 0)) (fun iv => 40 - (intOf iv).toNat)
  case atStart => exact ⟨0, by omega, rfl, fun m hm => absurd hm (by omega)⟩
  case round =>
    obtain ⟨i, hi, rfl, HZ⟩ := hrel
    by_cases hlt : i < k
    · have c0 := hs.row.cell i (by omega)
      unfold u64v at c0
      by_cases h0 : v i = 0
      · have HZ2 : HeldE (∀ m, m < i + 1 → v m = 0) := fun m hm => by
          rcases (show m = i ∨ m < i by omega) with rfl | h3
          · exact h0
          · exact unhideE HZ m h3
        rw [h0] at c0
        clear HZ h0
        go_wp2
        exact ⟨⟨i + 1, by omega, by go_num, HZ2⟩, by simp [intOf]; omega⟩
      · have hb : B = true := by rw [unhideE HB]; exact any_true hs.lt (by omega) hn hlt h0
        have HBT := hideE hb
        have hnb : ((v i : Int) == 0) = false := by rw [beq_eq_false_iff_ne]; omega
        clear hb HB HZ
        generalize v i = x at *
        go_wp2
        rw [unhideE HBT]
        go_ret
        exact ⟨rfl, 0, rfl⟩
    · obtain rfl : i = k := by omega
      have hb : B = decide (v i % 2 ^ j ≠ 0) := by rw [unhideE HB]; exact any_rest hs.lt (by omega) hn (unhideE HZ)
      have HBT := hideE hb
      have c0 := hs.row.cell i (by omega)
      unfold u64v at c0
      have hm := mask_low (v i) j (hs.lt i) hn
      have hp : (2 : Int) ^ j ≤ 9223372036854775808 := pow_le63 hn
      have hp0 : (0 : Int) < 2 ^ j := Int.pow_pos (by decide)
      have e1 : IntKind.u64.wrap ((2 : Int) ^ j) = 2 ^ j := by rw [IntKind.wrap_u64]; omega
      have e2 : IntKind.u64.wrap ((2 : Int) ^ j - 1) = 2 ^ j - 1 := by rw [IntKind.wrap_u64]; omega
      clear hb HB HZ hlt
      generalize v i % 2 ^ j = x at *
      have hx : ((x : Int) != 0) = B := by
        rw [unhideE HBT]
        by_cases h0 : x = 0
        · subst h0; rfl
        · rw [decide_eq_true h0, bne_iff_ne]; omega
      go_wp2
      go_region
      go_wp2
      go_ret
      exact ⟨rfl, 1, rfl⟩
theorem lib_len : ∀ (f x : Nat), x < 2 ^ f → Lib.bitLenAux f x = bitLen x
  | 0, x, h => by
    have : x = 0 := by simpa using h
    subst this
    rfl
  | f + 1, x, h => by
    rw [Lib.bitLenAux]
    split
    · rename_i h0
      subst h0
      rfl
    · rename_i h0
      rw [lib_len f (x / 2) (by rw [Nat.pow_succ] at h; omega)]
      by_cases h1 : x / 2 = 0
      · have : x = 1 := by omega
        subst this
        rfl
      · have := bitLen_shift x 1 (by simpa using h1)
        simpa using this.symm
theorem len_is (x : Nat) (h : x < 18446744073709551616) : Lib.bitLen x = bitLen x := lib_len 64 x (by rw [two64]; exact h)
end Go.Proofs.Ytmgnobeaacjdjac
