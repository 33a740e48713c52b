/-
  The program's sum: signs, nothing but minus nought.
-/
import Derived.Test.YtmgnobeaacjdjacExactO
import Derived.Test.YtmgnobeaacjdjacExact9
namespace Go.Proofs.Ytmgnobeaacjdjac
open Go Go.RowKit

theorem capOf_mono {a b : Nat} (h : a ≤ b) : capOf a ≤ capOf b := Nat.pow_le_pow_right (by decide) (by omega)
theorem capOf_mul {n k : Nat} (h : n ≤ 512) : n * capOf k < capOf (k + 10) := by
  have e : capOf (k + 10) = 1024 * capOf k := by
    unfold capOf
    rw [← Nat.add_assoc, Nat.pow_add, Nat.mul_comm]
  rw [e]
  exact Nat.mul_lt_mul_of_pos_right (by omega) (Nat.two_pow_pos _)
theorem many_lt {n : Nat} (h : n ≤ 512) : n * cap98 < cap34 := Nat.lt_of_lt_of_le (capOf_mul h) (capOf_mono (by decide))

theorem signbit_any (x : Nat) (w : World) (hx : x < 18446744073709551616) : Calls Try.prog 36 #[.float .f64 x] w fun e w' => e = .returned (.bool (decide (9223372036854775808 ≤ x))) ∧ w' = w := by
  have hb := run_tobitsI
  by_cases h : 9223372036854775808 ≤ x
  · have e1 : IntKind.i64.wrap (x : Int) = (x : Int) - 18446744073709551616 := by rw [IntKind.wrap_i64]; omega
    have e2 : decide ((x : Int) - 18446744073709551616 < 0) = true := by simp; omega
    rw [decide_eq_true h]
    go_enter Try.func36, Try.ntmps36
    go_wp2
    go_ret
    exact ⟨rfl, rfl⟩
  · have e1 : IntKind.i64.wrap (x : Int) = (x : Int) := by rw [IntKind.wrap_i64]; omega
    rw [decide_eq_false h]
    go_enter Try.func36, Try.ntmps36
    go_wp2
    go_ret
    exact ⟨rfl, rfl⟩
theorem copysign_any (w : World) : Calls Try.prog 39 #[.float .f64 0, .float .f64 13830554455654793216] w fun e w' => e = .returned (.float .f64 9223372036854775808) ∧ w' = w := by
  have hb0 : ∀ w, (callFunc 22 #[.float .f64 0]).run Try.prog w = .ok (.value (.int .u64 0)) w := fun w => run_tobitsI 0 w
  have hb1 : ∀ w, (callFunc 22 #[.float .f64 13830554455654793216]).run Try.prog w = .ok (.value (.int .u64 13830554455654793216)) w := fun w => run_tobitsI 13830554455654793216 w
  have hf : ∀ w, (callFunc 28 #[.int .u64 9223372036854775808]).run Try.prog w = .ok (.value (.float .f64 9223372036854775808)) w := fun w => run_frombitsI 9223372036854775808 w
  have a1 : bits .andNot .u64 0 9223372036854775808 = 0 := by decide +kernel
  have a2 : bits .and .u64 13830554455654793216 9223372036854775808 = 9223372036854775808 := by decide +kernel
  have a3 : bits .or .u64 0 9223372036854775808 = 9223372036854775808 := by decide +kernel
  go_enter Try.func39, Try.ntmps39
  go_wp2
  go_ret
  exact ⟨rfl, rfl⟩
theorem minus_is (x : Nat) (hx : x < 18446744073709551616) : ((FloatKind.f64.format.order x 0 == some .eq) && decide (9223372036854775808 ≤ x)) = (x == 9223372036854775808) := by
  cases hn : isN x with
  | true =>
    rw [order_nan hn]
    have : x ≠ 9223372036854775808 := by rintro rfl; revert hn; decide
    rw [beq_eq_false_iff_ne.2 this]
    rfl
  | false =>
    rw [order0 x hn]
    by_cases h : x = 9223372036854775808
    · subst h; decide
    · rw [beq_eq_false_iff_ne.2 h]
      by_cases h2 : 9223372036854775808 ≤ x
      · rw [if_neg (by omega)]
        cases sgB x <;> rfl
      · rw [decide_eq_false h2, Bool.and_false]
/-- numbers in a row that came in. -/
def FloatRow (w : World) (b off : Nat) (l : List Nat) : Prop := ∀ j, j < l.length → w.cell? ⟨b, off + j, none⟩ = some (.float .f64 (l.getD j 0))
theorem all_step {l : List Nat} {k : Nat} (hk : k < l.length) : allM (l.take (k + 1)) = (allM (l.take k) && (l.getD k 0 == 9223372036854775808)) := by
  unfold allM
  rw [List.take_add_one, List.all_append]
  simp [List.getD, List.getElem?_eq_getElem hk]
theorem all_false {l : List Nat} {k : Nat} (hk : k < l.length) (h : (l.getD k 0 == 9223372036854775808) = false) : allM l = false := by
  unfold allM
  rw [List.all_eq_false]
  refine ⟨l.getD k 0, ?_, by simpa using h⟩
  simp [List.getD, List.getElem?_eq_getElem hk]
end Go.Proofs.Ytmgnobeaacjdjac
