/-
  The document's exact sum: its bits, by their contract; what its rounding reckons with.
-/
import Derived.Test.YtmgnobeaacjdjacRSum2
import Derived.Test.YtmgnobeaacjdjacExact9
namespace Go.Proofs.Ytmgnobeaacjdjac
open Go Go.RowKit

theorem ofInt_i64 (a : Nat) (h : a < 18446744073709551616) : (BitVec.ofInt 64 (a : Int)).toNat = a := by
  rw [BitVec.toNat_ofInt]
  omega
theorem i64_odd (a : Nat) (ha : a < 4294967296) : bits .and .i64 (a : Int) 1 = ((a % 2 : Nat) : Int) := by
  show IntKind.i64.wrap ((BitVec.ofInt 64 (a : Int) &&& BitVec.ofInt 64 ((1 : Nat) : Int)).toNat : Int) = _
  rw [BitVec.toNat_and, ofInt_i64 a (by omega), ofInt_i64 1 (by omega), Nat.and_one_is_mod, IntKind.wrap_i64]
  omega
set_option maxHeartbeats 2000000 in
theorem rbit_any (e g : Nat) (d : Nat → Nat) (w : World) (k b : Nat) (hs : Limbs w e g fun j => (d j : Int)) (hd : ∀ j, d j < 4294967296) (hk : k < 2304) (hb : b = dv 32 d 72 / 2 ^ k % 2) :
    Calls Try.prog 43 #[.pointer (some ⟨e, 0, none⟩), .int .i64 k] w fun ev w' => ev = .returned (.int .i64 b) ∧ w' = w := by
  have h1 : (k : Int).tdiv 32 = ((k / 32 : Nat) : Int) := by rw [Int.tdiv_eq_ediv_of_nonneg (by omega)]; omega
  have h2 : (k : Int).tmod 32 = ((k % 32 : Nat) : Int) := by rw [Int.tmod_eq_emod_of_nonneg (by omega)]; omega
  have hup2 : k = 32 * (k / 32) + k % 32 := by omega
  have hk2 : k / 32 < 72 := by omega
  have hn : k % 32 < 32 := by omega
  have hk0 : 0 ≤ (k : Int) := by omega
  have hf := dv_bit (b := 32) (v := d) (k := k / 32) (j := k % 32) (n := 72) hk2 hn (fun j _ => by rw [show (2 : Nat) ^ 32 = 4294967296 by decide]; exact hd j)
  rw [← hup2, ← hb] at hf
  clear hb hup2
  generalize k / 32 = q at *
  generalize k % 32 = j at *
  have c0 := hs.row.cell q hk2
  unfold i64v at c0
  have hh := hs.head
  have l0 := hd q
  have a1 : d q / 2 ^ j < 4294967296 := Nat.lt_of_le_of_lt (Nat.div_le_self _ _) l0
  have e1 : (d q : Int) / 2 ^ j = ((d q / 2 ^ j : Nat) : Int) := by simp
  have e3 := i64_odd (d q / 2 ^ j) a1
  rw [← hf] at e3
  clear hf
  generalize d q / 2 ^ j = x at *
  have k72 : (q : Int) < 72 := by omega
  go_enter Try.func43, Try.ntmps43
  go_wp2
  go_ret
  exact ⟨rfl, rfl⟩
theorem rbit_none (e : Nat) (w : World) : Calls Try.prog 43 #[.pointer (some ⟨e, 0, none⟩), .int .i64 (-1)] w fun ev w' => ev = .returned (.int .i64 0) ∧ w' = w := by
  go_enter Try.func43, Try.ntmps43
  go_wp2
  go_ret
  exact ⟨rfl, rfl⟩
/-! reckoning -/
theorem top_step {N t : Nat} (h : N < 2 ^ (t + 1)) (hb : N / 2 ^ t % 2 = 0) : N < 2 ^ t := by
  have h1 : N / 2 ^ t < 2 := Nat.div_lt_of_lt_mul (by rw [← Nat.pow_succ]; exact h)
  have h2 : N / 2 ^ t = 0 := by clear h; generalize N / 2 ^ t = q at *; omega
  rcases Nat.div_eq_zero_iff.1 h2 with h3 | h3
  · have := Nat.two_pow_pos t; omega
  · exact h3
theorem top_end {N t : Nat} (h : N < 2 ^ (t + 1)) (hb : N / 2 ^ t % 2 = 1) : bitLen N = t + 1 := by
  have h1 := len_bound h
  have h2 : 2 ^ t ≤ N := by
    rcases Nat.lt_or_ge N (2 ^ t) with h3 | h3
    · rw [Nat.div_eq_of_lt h3] at hb; omega
    · exact h3
  rcases Nat.lt_or_ge (bitLen N) (t + 1) with h3 | h3
  · have h4 := (bitLen_spec N).1
    have h5 : (2 : Nat) ^ bitLen N ≤ 2 ^ t := Nat.pow_le_pow_right (by decide) (by omega)
    omega
  · omega
theorem mant_step (N j : Nat) : N / 2 ^ j = N / 2 ^ (j + 1) * 2 + N / 2 ^ j % 2 := by
  rw [Nat.pow_succ, ← Nat.div_div_eq_div_mul]
  omega
theorem mant_le {N j low : Nat} (h : low ≤ j) (hl : N / 2 ^ low < 9007199254740992) : N / 2 ^ j < 9007199254740992 :=
  Nat.lt_of_le_of_lt (Nat.div_le_div_left (Nat.pow_le_pow_right (by decide) h) (Nat.two_pow_pos _)) hl
theorem rest_step (N k : Nat) : (N % 2 ^ (k + 1) ≠ 0) ↔ (N % 2 ^ k ≠ 0 ∨ N / 2 ^ k % 2 = 1) := by
  rw [Nat.pow_succ, Nat.mod_mul]
  have := Nat.two_pow_pos k
  have h2 : N / 2 ^ k % 2 = 0 ∨ N / 2 ^ k % 2 = 1 := by omega
  rcases h2 with h | h <;> rw [h] <;> simp <;> omega
def rs (N k : Nat) : Nat := if N % 2 ^ k ≠ 0 then 1 else 0
theorem rs_le (N k : Nat) : rs N k ≤ 1 := by unfold rs; split <;> omega
theorem rs_zero (N : Nat) : rs N 0 = 0 := by unfold rs; simp [Nat.mod_one]
theorem rs_step (N k : Nat) : rs N (k + 1) = if rs N k = 1 ∨ N / 2 ^ k % 2 = 1 then 1 else 0 := by
  have h := rest_step N k
  unfold rs
  by_cases h1 : N % 2 ^ (k + 1) ≠ 0
  · rw [if_pos h1]
    rcases h.1 h1 with h2 | h2
    · rw [if_pos h2]; simp
    · rw [if_pos (.inr h2)]
  · rw [if_neg h1]
    have h2 : ¬ N % 2 ^ k ≠ 0 := fun h3 => h1 (h.2 (.inl h3))
    have h3 : ¬ N / 2 ^ k % 2 = 1 := fun h3 => h1 (h.2 (.inr h3))
    rw [if_neg h2, if_neg (by simp [h3])]
/-- how it ends: half and rest and the last bit. -/
theorem up_is (N low hf : Nat) (h : hf = if 0 < low then N / 2 ^ (low - 1) % 2 else 0) : roundUp N low = (decide (hf = 1) && (decide (rs N (low - 1) = 1) || decide (N / 2 ^ low % 2 = 1))) := by
  unfold roundUp rs
  rw [h]
  by_cases h0 : 0 < low
  · rw [if_pos h0, decide_eq_true h0, Bool.true_and]
    congr 1
    rw [Bool.or_comm]
    congr 1
    by_cases h1 : N % 2 ^ (low - 1) ≠ 0
    · rw [if_pos h1]; simp [h1]
    · rw [if_neg h1]; simp at h1; simp [h1]
  · rw [if_neg h0, decide_eq_false h0]; simp
theorem i64_or00 : bits .or .i64 0 0 = 0 := by decide
theorem i64_or01 : bits .or .i64 0 1 = 1 := by decide
theorem i64_or10 : bits .or .i64 1 0 = 1 := by decide
theorem i64_or11 : bits .or .i64 1 1 = 1 := by decide
theorem rs_or (N k : Nat) : bits .or .i64 (rs N k : Int) ((N / 2 ^ k % 2 : Nat) : Int) = (rs N (k + 1) : Int) := by
  rw [rs_step]
  have h1 := rs_le N k
  rcases (show rs N k = 0 ∨ rs N k = 1 by omega) with h | h <;> rcases (show N / 2 ^ k % 2 = 0 ∨ N / 2 ^ k % 2 = 1 by omega) with h2 | h2 <;> rw [h, h2]
  · exact i64_or00
  · exact i64_or01
  · exact i64_or10
  · exact i64_or11
end Go.Proofs.Ytmgnobeaacjdjac
