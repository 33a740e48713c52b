/-
  The document's sum, by its contract.
-/
import Derived.Test.YtmgnobeaacjdjacRSum6
namespace Go.Proofs.Ytmgnobeaacjdjac
open Go Go.RowKit

structure SumAt (l : List Nat) (k : Nat) (v : Nat → Int) : Prop where
  sum : iv v 72 = sumZ (l.take k)
  bound : ∀ i, -(8589934592 * (k : Int)) ≤ v i ∧ v i ≤ 8589934592 * (k : Int)
theorem Only.limbs {w w' : World} {e g : Nat} {v : Nat → Int} (s : Limbs w e g v) (h : ∃ n, w' = w.drewN n) : Limbs w' e g v := by
  obtain ⟨n, rfl⟩ := h
  exact s.drawn n
theorem any_step {l : List Nat} {k : Nat} (hk : k < l.length) (p : Nat → Bool) : (l.take (k + 1)).any p = ((l.take k).any p || p (l.getD k 0)) := by
  rw [take_snoc hk, List.any_append]
  simp
theorem takenZ {l : List Nat} {k : Nat} (hk : k < l.length) : sumZ (l.take (k + 1)) = sumZ (l.take k) + ofF (l.getD k 0) := by
  rw [take_snoc hk, sumZ_append]
  simp [sumZ]
theorem ofF_some {x : Nat} (h : isF x = true) : ofF x = (if sgB x then -1 else 1) * (U x : Int) := by
  unfold ofF
  rw [if_pos h]
  cases sgB x <;> simp
theorem ofF_none {x : Nat} (h : isF x = false) : ofF x = 0 := by simp [ofF, h]
theorem nan_any (w : World) : Calls Try.prog 24 #[] w fun e w' => e = .returned (.float .f64 9221120237041090561) ∧ w' = w := by
  have h2 : ∀ w, (callFunc 28 #[.int .u64 9221120237041090561]).run Try.prog w = .ok (.value (.float .f64 9221120237041090561)) w := fun w => run_frombitsI 9221120237041090561 w
  go_enter Try.func24, Try.ntmps24
  go_wp2
  go_ret
  exact ⟨rfl, rfl⟩
theorem infm_any (w : World) : Calls Try.prog 25 #[.int .i64 (-1)] w fun e w' => e = .returned (.float .f64 18442240474082181120) ∧ w' = w := by
  have h2 : ∀ w, (callFunc 28 #[.int .u64 18442240474082181120]).run Try.prog w = .ok (.value (.float .f64 18442240474082181120)) w := fun w => run_frombitsI 18442240474082181120 w
  go_enter Try.func25, Try.ntmps25
  go_wp2
  go_ret
  exact ⟨rfl, rfl⟩
theorem all_zero : ∀ (l : List Nat), allM l = true → sumZ l = 0
  | [], _ => rfl
  | x :: l, h => by
    unfold allM at h
    rw [List.all_cons, Bool.and_eq_true, beq_iff_eq] at h
    obtain ⟨rfl, h⟩ := h
    have h0 : ofF 9223372036854775808 = 0 := by
      have : U 9223372036854775808 = 0 := U_zero.2 (by decide)
      unfold ofF
      rw [this]
      simp
    rw [sumZ, h0, all_zero l h]
    rfl
theorem rnd_order {N : Nat} (h : N ≠ 0) : (FloatKind.f64.format.order (rnd N) 0 == some .eq) = false := by
  have h1 := rnd_le N
  have h2 : rnd N ≠ 0 := fun h' => h (rnd_zero.1 h')
  generalize rnd N = r at *
  have h3 : isN r = false := by unfold isN expo frac; simp; omega
  rw [order0 r h3, if_neg (by omega)]
  cases sgB r <;> rfl
theorem z_lt (l : List Nat) (hl : l.length ≤ 400) : (sumZ l).natAbs < cap34 := by
  have h := sumZ_bound l
  have h2 := many_lt (n := l.length) (by omega)
  generalize l.length * cap98 = q at *
  omega
/-- what the end of SumOf tells, where the sum is finite. -/
structure Fin8 (l : List Nat) (v : Nat → Int) (bm : Bool) (N : Nat) (sg : Bool) : Prop where
  iv : iv v 72 = if sg then -(N : Int) else (N : Int)
  pos : sg = true → 0 < N
  lt : N < cap34
  zero : N = 0 → sg = false ∧ rnd N = 0 ∧ sumV l = (if bm then 9223372036854775808 else 0)
  some : N ≠ 0 → bm = false ∧ (FloatKind.f64.format.order (rnd N) 0 == some .eq) = false ∧ sumV l = (if sg then ngN (rnd N) else rnd N)
theorem fin_pre {l : List Nat} {v : Nat → Int} {bm : Bool} (hl : l.length ≤ 400) (hs : iv v 72 = sumZ l) (h0 : endV l = 0) (hm : (decide (0 < l.length) && allM l) = bm) : ∃ N sg, Fin8 l v bm N sg := by
  have hsv := sumV_def l
  have hz := z_lt l hl
  have hb : bm = true → sumZ l = 0 := fun h => by
    rw [h, Bool.and_eq_true] at hm
    exact all_zero l hm.2
  refine ⟨(sumZ l).natAbs, decide (sumZ l < 0), ?_, ?_, hz, ?_, ?_⟩
  · rw [hs]
    generalize sumZ l = z at *
    by_cases h : z < 0
    · rw [decide_eq_true h, if_pos rfl]; omega
    · rw [decide_eq_false h]; simp only [Bool.false_eq_true, if_false]; omega
  · intro h
    have h := of_decide_eq_true h
    omega
  all_goals
    clear hs
    generalize sumZ l = z at *
  · intro h
    have hz0 : z = 0 := by omega
    subst hz0
    refine ⟨decide_eq_false (by omega), rnd_zero.2 (by rfl), ?_⟩
    cases bm
    · rw [if_neg (by decide), hsv.2.2 h0 hm]; exact (finV_pos (z := 0) (d := 0) (by rfl)).trans (rnd_zero.2 rfl)
    · rw [if_pos rfl]; exact hsv.2.1 h0 hm
  · intro h
    have hb0 : bm = false := by
      cases bm
      · rfl
      · have := hb rfl; subst this; exact absurd rfl h
    subst hb0
    refine ⟨rfl, rnd_order h, ?_⟩
    rw [hsv.2.2 h0 hm]
    by_cases hn : z < 0
    · rw [decide_eq_true hn, if_pos rfl, finV_neg (d := z.natAbs) (by omega) (by omega)]
    · rw [decide_eq_false hn, finV_pos (d := z.natAbs) (by omega), if_neg (by decide)]
end Go.Proofs.Ytmgnobeaacjdjac
