/-
  The program's sum: signs, nothing but minus nought, by their contracts.
-/
import Derived.Test.YtbobnmaeiohnnacExact3
import Derived.Test.YtbobnmaeiohnnacExact9
namespace Go.Proofs.Ytbobnmaeiohnnac
open Go Go.RowKit

theorem capOf_mono {a b : Nat} (h : a ≤ b) : capOf a ≤ capOf b := Nat.pow_le_pow_right (by decide) (by omega)
theorem capOf_mul {n k : Nat} (h : n ≤ 512) : n * capOf k < capOf (k + 10) := by
  have e : capOf (k + 10) = 1024 * capOf k := by
    unfold capOf
    rw [← Nat.add_assoc, Nat.pow_add, Nat.mul_comm]
  rw [e]
  exact Nat.mul_lt_mul_of_pos_right (by omega) (Nat.two_pow_pos _)
theorem many_lt {n : Nat} (h : n ≤ 512) : n * cap98 < cap34 := Nat.lt_of_lt_of_le (capOf_mul h) (capOf_mono (by decide))

theorem signbit_any (x : Nat) (w : World) (hx : x < 18446744073709551616) : Calls Try.prog 45 #[.float .f64 x] w fun e w' => e = .returned (.bool (decide (9223372036854775808 ≤ x))) ∧ w' = w := by
  have hb := run_tobitsI
  by_cases h : 9223372036854775808 ≤ x
  · have e1 : IntKind.i64.wrap (x : Int) = (x : Int) - 18446744073709551616 := by rw [IntKind.wrap_i64]; omega
    have e2 : decide ((x : Int) - 18446744073709551616 < 0) = true := by simp; omega
    rw [decide_eq_true h]
    go_enter Try.func45, Try.ntmps45
    go_wp2
    go_ret
    exact ⟨rfl, rfl⟩
  · have e1 : IntKind.i64.wrap (x : Int) = (x : Int) := by rw [IntKind.wrap_i64]; omega
    rw [decide_eq_false h]
    go_enter Try.func45, Try.ntmps45
    go_wp2
    go_ret
    exact ⟨rfl, rfl⟩
theorem copysign_any (w : World) : Calls Try.prog 24 #[.float .f64 0, .float .f64 13830554455654793216] w fun e w' => e = .returned (.float .f64 9223372036854775808) ∧ w' = w := by
  have hb0 : ∀ w, (callFunc 28 #[.float .f64 0]).run Try.prog w = .ok (.value (.int .u64 0)) w := fun w => run_tobitsI 0 w
  have hb1 : ∀ w, (callFunc 28 #[.float .f64 13830554455654793216]).run Try.prog w = .ok (.value (.int .u64 13830554455654793216)) w := fun w => run_tobitsI 13830554455654793216 w
  have hf : ∀ w, (callFunc 34 #[.int .u64 9223372036854775808]).run Try.prog w = .ok (.value (.float .f64 9223372036854775808)) w := fun w => run_frombitsI 9223372036854775808 w
  have a1 : bits .andNot .u64 0 9223372036854775808 = 0 := by decide +kernel
  have a2 : bits .and .u64 13830554455654793216 9223372036854775808 = 9223372036854775808 := by decide +kernel
  have a3 : bits .or .u64 0 9223372036854775808 = 9223372036854775808 := by decide +kernel
  go_enter Try.func24, Try.ntmps24
  go_wp2
  go_ret
  exact ⟨rfl, rfl⟩
theorem minus_is (x : Nat) (hx : x < 18446744073709551616) : ((FloatKind.f64.format.order x 0 == some .eq) && decide (9223372036854775808 ≤ x)) = (x == 9223372036854775808) := by
  cases hn : isN x with
  | true =>
    rw [order_nan hn]
    have : x ≠ 9223372036854775808 := by rintro rfl; revert hn; decide
    rw [beq_eq_false_iff_ne.2 this]
    rfl
  | false =>
    rw [order0 x hn]
    by_cases h : x = 9223372036854775808
    · subst h; decide
    · rw [beq_eq_false_iff_ne.2 h]
      by_cases h2 : 9223372036854775808 ≤ x
      · rw [if_neg (by omega)]
        cases sgB x <;> rfl
      · rw [decide_eq_false h2, Bool.and_false]
/-- numbers in a row that came in. -/
def FloatRow (w : World) (b off : Nat) (l : List Nat) : Prop := ∀ j, j < l.length → w.cell? ⟨b, off + j, none⟩ = some (.float .f64 (l.getD j 0))
theorem all_step {l : List Nat} {k : Nat} (hk : k < l.length) : allM (l.take (k + 1)) = (allM (l.take k) && (l.getD k 0 == 9223372036854775808)) := by
  unfold allM
  rw [List.take_add_one, List.all_append]
  simp [List.getD, List.getElem?_eq_getElem hk]
theorem all_false {l : List Nat} {k : Nat} (hk : k < l.length) (h : (l.getD k 0 == 9223372036854775808) = false) : allM l = false := by
  unfold allM
  rw [List.all_eq_false]
  refine ⟨l.getD k 0, ?_, by simpa using h⟩
  simp [List.getD, List.getElem?_eq_getElem hk]
set_option maxHeartbeats 2000000 in
theorem allMinus_any (b off cap : Nat) (l : List Nat) (w : World) (B : Bool) (hr : FloatRow w b off l) (hl : l.length ≤ 1000) (hx : ∀ x ∈ l, x < 18446744073709551616) (hB : B = (decide (0 < l.length) && allM l)) :
    Calls Try.prog 23 #[.slice (some ⟨b, off, none⟩) l.length cap] w fun e w' => e = .returned (.bool B) ∧ w' = w := by
  have HB := hideE hB
  clear hB
  go_enter Try.func23, Try.ntmps23
  go_wp2
  go_loop [7] (fun iv => ∃ k : Nat, k ≤ l.length ∧ iv = .int .i64 k ∧ HeldE (allM (l.take k) = true)) (fun iv => l.length - (intOf iv).toNat)
  case atStart => exact ⟨0, by omega, rfl, rfl⟩
  case round =>
    obtain ⟨k, hk, rfl, HA⟩ := hrel
    by_cases hlt : k < l.length
    · have c0 := hr k hlt
      have hxk : l.getD k 0 < 18446744073709551616 := hx _ (by simp [List.getD, List.getElem?_eq_getElem hlt])
      have hm := minus_is (l.getD k 0) hxk
      have hst := all_step hlt
      have hfl := fun h => all_false hlt h
      have hsig := fun v => signbit_any (l.getD k 0) v hxk
      generalize l.getD k 0 = x at *
      generalize decide (9223372036854775808 ≤ x) = sg at *
      cases ho : (FloatKind.f64.format.order x 0 == some .eq) with
      | false =>
        rw [ho] at hm
        have hb : B = false := by rw [unhideE HB, hfl (by rw [← hm]; rfl), Bool.and_false]
        have HBF := hideE hb
        have ho2 : (FloatKind.f64.format.order x 0 != some .eq) = true := by rw [bne, ho]; rfl
        clear hb HB HA hm hst hfl
        go_wp2
        rw [unhideE HBF]
        go_ret
        exact ⟨rfl, rfl⟩
      | true =>
        rw [ho] at hm
        have ho2 : (FloatKind.f64.format.order x 0 != some .eq) = false := by rw [bne, ho]; rfl
        cases hsg : sg with
        | false =>
          rw [hsg] at hm hsig
          have hb : B = false := by rw [unhideE HB, hfl (by rw [← hm]; rfl), Bool.and_false]
          have HBF := hideE hb
          clear hb HB HA hm hst hfl
          go_wp2_with (go_at_call 45; refine (hsig _).mono ?_; rintro e w1 ⟨rfl, rfl⟩)
          rw [unhideE HBF]
          go_ret
          exact ⟨rfl, rfl⟩
        | true =>
          rw [hsg] at hm hsig
          have HA2 : HeldE (allM (l.take (k + 1)) = true) := by
            show allM (l.take (k + 1)) = true
            rw [hst, unhideE HA, ← hm]; rfl
          clear HB HA hm hst hfl
          go_wp2_with (go_at_call 45; refine (hsig _).mono ?_; rintro e w1 ⟨rfl, rfl⟩)
          exact ⟨⟨k + 1, by omega, by go_num, HA2⟩, by simp [intOf]; omega⟩
    · obtain rfl : k = l.length := by omega
      have hb : B = decide (0 < l.length) := by
        have h := unhideE HA
        rw [List.take_length] at h
        rw [unhideE HB, h, Bool.and_true]
      have HBF := hideE hb
      clear hb HB HA hlt
      go_wp2
      rw [unhideE HBF]
      go_ret
      exact ⟨by simp, rfl⟩
end Go.Proofs.Ytbobnmaeiohnnac
