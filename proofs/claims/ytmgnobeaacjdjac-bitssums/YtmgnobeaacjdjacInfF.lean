/-
  Numbers without end and those that are none: the library's questions, by their contracts.
-/
import Derived.Test.YtmgnobeaacjdjacFin1
import Derived.Test.YtmgnobeaacjdjacNanA
import Derived.WalkLawsBesides
import Derived.Laws.Externs
import Derived.Laws.BitsAll
namespace Go.Proofs.Ytmgnobeaacjdjac
open Go Go.RowKit

theorem run_tobitsI (x : Nat) (w : World) : (callFunc 22 #[.float .f64 x]).run Try.prog w = .ok (.value (.int .u64 x)) w := by kernel_rfl
theorem run_frombitsI (x : Nat) (w : World) : (callFunc 28 #[.int .u64 x]).run Try.prog w = .ok (.value (.float .f64 x)) w := by kernel_rfl
def absB (x : Nat) : Nat := x % 9223372036854775808
theorem andNot_top (x : Nat) (hx : x < 18446744073709551616) : bits .andNot .u64 (x : Int) 9223372036854775808 = ((absB x : Nat) : Int) := by
  have h := u64_andNot_nat x 9223372036854775808 hx (by omega)
  rw [show ((9223372036854775808 : Nat) : Int) = 9223372036854775808 by rfl] at h
  rw [h]
  congr 1
  rw [show 18446744073709551615 - 9223372036854775808 = 2 ^ 63 - 1 by decide, Nat.and_two_pow_sub_one_eq_mod]
  rfl
theorem abs_any (x : Nat) (w : World) (hx : x < 18446744073709551616) : Calls Try.prog 54 #[.float .f64 x] w fun e w' => e = .returned (.float .f64 (absB x)) ∧ w' = w := by
  have h1 := run_tobitsI
  have h2 := run_frombitsI
  have ha := andNot_top x hx
  go_enter Try.func54, Try.ntmps54
  go_wp2
  go_ret
  exact ⟨rfl, rfl⟩
def infI (x : Nat) : Bool := (FloatKind.f64.format.read x).isInfinity
theorem max_read : FloatKind.f64.format.read 9218868437227405311 = .number false 9007199254740991 971 := by decide +kernel
theorem abs_inf (x : Nat) (hn : nanI x = false) : (FloatKind.f64.format.order (absB x) 9218868437227405311 == some .gt) = infI x := by
  have sw : FloatKind.f64.format.signWeight = 9223372036854775808 := by decide
  have bn : FloatKind.f64.format.binade = 4503599627370496 := by decide
  have ir : FloatKind.f64.format.infRung = 9218868437227405312 := by decide
  have lp : FloatKind.f64.format.leastPlace = -1074 := by decide
  unfold infI Ieee.Format.order
  rw [max_read]
  unfold nanI at hn
  unfold Ieee.Format.read at *
  simp only [sw, bn, ir, lp] at *
  have e1 : absB x / 9223372036854775808 % 2 = 0 := by unfold absB; omega
  have e2 : absB x % 9223372036854775808 = x % 9223372036854775808 := by unfold absB; omega
  have e3 : (0 == 1) = false := by decide
  rw [e1, e2, e3]
  have key : ∀ (m : Nat) (i : Int), m ≤ 9007199254740991 → i ≤ 971 → (Ieee.Datum.order (.number false m i) (.number false 9007199254740991 971) == some .gt) = false := by
    intro m i hm hi
    simp only [Ieee.Datum.order, Ieee.signed, Bool.false_eq_true, if_false]
    rw [beq_eq_false_iff_ne]
    intro hh
    simp only [Option.some.injEq] at hh
    rw [Int.compare_eq_gt] at hh
    have h1 : (i - min i 971).toNat = 0 := by omega
    rw [h1] at hh
    have h2 : (9007199254740991 : Nat) ≤ 9007199254740991 <<< (971 - min i 971).toNat := by
      rw [Nat.shiftLeft_eq]
      exact Nat.le_mul_of_pos_right _ (Nat.two_pow_pos _)
    simp only [Nat.shiftLeft_zero] at hh
    omega
  by_cases h1 : x % 9223372036854775808 < 4503599627370496
  · rw [if_pos h1, if_pos h1]
    rw [key _ _ (by omega) (by omega)]
    rfl
  · rw [if_neg h1, if_neg h1]
    rw [if_neg h1] at hn
    by_cases h2 : x % 9223372036854775808 < 9218868437227405312
    · rw [if_pos h2, if_pos h2]
      rw [key _ _ (by omega) (by omega)]
      rfl
    · rw [if_neg h2, if_neg h2]
      rw [if_neg h2] at hn
      by_cases h3 : x % 9223372036854775808 = 9218868437227405312
      · rw [if_pos h3, if_pos h3]
        rfl
      · rw [if_neg h3] at hn
        cases hn
theorem isInf_any (x : Nat) (w : World) (hx : x < 18446744073709551616) (hn : nanI x = false) : Calls Try.prog 46 #[.float .f64 x, .int .i64 0] w fun e w' => e = .returned (.bool (infI x)) ∧ w' = w := by
  have h := abs_inf x hn
  have ha := fun v => abs_any x v hx
  generalize absB x = y at *
  go_enter Try.func46, Try.ntmps46
  go_wp2_with fail
  refine (ha _).mono ?_
  rintro e w1 ⟨rfl, rfl⟩
  go_wp2
  go_ret
  exact ⟨rfl, rfl⟩
theorem fin_parts (x : Nat) : finB x = (!nanI x && !infI x) := by
  unfold finB nanI infI
  cases FloatKind.f64.format.read x <;> rfl
end Go.Proofs.Ytmgnobeaacjdjac
