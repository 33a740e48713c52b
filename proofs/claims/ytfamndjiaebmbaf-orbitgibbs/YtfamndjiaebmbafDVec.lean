/-
  Sums, multiples, products of vectors: the program's, by contracts.
-/
import Derived.Test.YtfamndjiaebmbafGibOf
import Derived.Test.YtfamndjiaebmbafLens
import Derived.Test.YtfamndjiaebmbafLwOf
namespace Go.Proofs.Ytfamndjiaebmbaf
open Go Go.RowKit

set_option maxHeartbeats 4000000 in
theorem times_any (f : Nat) (v : V3) (w : World) : Calls Try.prog 10 #[.float .f64 f, .agg #[.float .f64 v.x, .float .f64 v.y, .float .f64 v.z]] w fun e w' => ∃ r : V3, e = .returned r.val ∧ ScV f v r ∧ Below w.heap.size w w' := by
  have hsf := run_store_float Try.prog
  go_enter Try.func10, Try.ntmps10
  go_wp2_with fail
  refine upon_float four_mul ?_
  intro x n1 h1
  go_wp2_with fail
  refine upon_float four_mul ?_
  intro y n2 h2
  go_wp2_with fail
  refine upon_float four_mul ?_
  intro z n3 h3
  go_wp2
  simp [bodyPost, results, Try.results10, go_sem]
  exact ⟨⟨x, y, z⟩, rfl, ⟨h1, h2, h3⟩, below_three (below_drewN (below_al2 w _ _) _) (by omega) _ _ _⟩
theorem ev_mul {x y r : Nat} (h : FOp .mul x y r) : Ev (.op .mul (.num x) (.num y)) r := .op (.num _) (.num _) h
set_option maxHeartbeats 8000000 in
theorem crossP_any (p q : V3) (w : World) : Calls Try.prog 8 #[.agg #[.float .f64 p.x, .float .f64 p.y, .float .f64 p.z], .agg #[.float .f64 q.x, .float .f64 q.y, .float .f64 q.z]] w fun e w' => ∃ r : V3, e = .returned r.val ∧ CrV p q r ∧ Below w.heap.size w w' := by
  have hsf := run_store_float Try.prog
  go_enter Try.func8, Try.ntmps8
  go_wp2_with fail
  refine upon_float four_mul ?_
  intro a0 n_a0 g_a0
  go_wp2_with fail
  refine upon_float four_mul ?_
  intro a1 n_a1 g_a1
  go_wp2_with fail
  refine upon_float four_sub ?_
  intro a n_a g_a
  go_wp2_with fail
  refine upon_float four_mul ?_
  intro b0 n_b0 g_b0
  go_wp2_with fail
  refine upon_float four_mul ?_
  intro b1 n_b1 g_b1
  go_wp2_with fail
  refine upon_float four_sub ?_
  intro b n_b g_b
  go_wp2_with fail
  refine upon_float four_mul ?_
  intro c0 n_c0 g_c0
  go_wp2_with fail
  refine upon_float four_mul ?_
  intro c1 n_c1 g_c1
  go_wp2_with fail
  refine upon_float four_sub ?_
  intro c n_c g_c
  go_wp2
  simp [bodyPost, results, Try.results8, go_sem]
  exact ⟨⟨a, b, c⟩, rfl, ⟨.op (ev_mul g_a0) (ev_mul g_a1) g_a, .op (ev_mul g_b0) (ev_mul g_b1) g_b, .op (ev_mul g_c0) (ev_mul g_c1) g_c⟩, below_three (below_drewN (below_al3 w _ _ _) _) (by omega) _ _ _⟩
theorem lengthV_any (v : V3) (w : World) : Calls Try.prog 7 #[.agg #[.float .f64 v.x, .float .f64 v.y, .float .f64 v.z]] w fun e w' => ∃ l, e = .returned (.float .f64 l) ∧ LnV v l ∧ Below w.heap.size w w' := by
  refine (length_any _ _ _ w).mono ?_
  rintro e w' ⟨r, t, rfl, h1, h2, k⟩
  exact ⟨r, rfl, ⟨t, h1, h2⟩, k⟩
theorem finP_any (x : Nat) (w : World) (hx : Lw x) : Calls Try.prog 20 #[.float .f64 x] w fun e w' => e = .returned (.bool (finB x)) ∧ w' = w := by
  rw [fin_parts]
  have hn := fun v => isNaN_any x v
  cases h : nanI x with
  | true =>
    rw [h] at hn
    go_enter Try.func20, Try.ntmps20
    go_wp2_with (first
      | (go_at_call 25; refine (hn _).mono ?_; rintro e w1 ⟨rfl, rfl⟩))
    go_ret
    exact ⟨rfl, rfl⟩
  | false =>
    rw [h] at hn
    have hi := fun v => isInf_any x v (hx.resolve_left (by rw [h]; exact Bool.false_ne_true)) h
    go_enter Try.func20, Try.ntmps20
    go_wp2_with (first
      | (go_at_call 25; refine (hn _).mono ?_; rintro e w1 ⟨rfl, rfl⟩)
      | (go_at_call 26; refine (hi _).mono ?_; rintro e w1 ⟨rfl, rfl⟩))
    go_ret
    exact ⟨rfl, rfl⟩
set_option maxHeartbeats 4000000 in
theorem finV_any (v : V3) (w : World) (hx : Lw v.x) (hy : Lw v.y) (hz : Lw v.z) : Calls Try.prog 12 #[.agg #[.float .f64 v.x, .float .f64 v.y, .float .f64 v.z]] w fun e w' => e = .returned (.bool (finB v.x && finB v.y && finB v.z)) ∧ Below w.heap.size w w' := by
  obtain ⟨x, y, z⟩ := v
  have h1 := fun u => finP_any x u hx
  have h2 := fun u => finP_any y u hy
  have h3 := fun u => finP_any z u hz
  clear hx hy hz
  simp only []
  generalize finB x = a at *
  generalize finB y = b at *
  generalize finB z = c at *
  cases a
  · rw [Bool.false_and, Bool.false_and]
    go_enter Try.func12, Try.ntmps12
    go_wp2_with fail
    refine (h1 _).mono ?_
    rintro e w1 ⟨rfl, rfl⟩
    go_wp2
    go_ret
    exact ⟨rfl, below_a _ _⟩
  · rw [Bool.true_and]
    cases b
    · rw [Bool.false_and]
      go_enter Try.func12, Try.ntmps12
      go_wp2_with fail
      refine (h1 _).mono ?_
      rintro e w1 ⟨rfl, rfl⟩
      go_wp2_with fail
      refine (h2 _).mono ?_
      rintro e w1 ⟨rfl, rfl⟩
      go_wp2
      go_ret
      exact ⟨rfl, below_a _ _⟩
    · rw [Bool.true_and]
      go_enter Try.func12, Try.ntmps12
      go_wp2_with fail
      refine (h1 _).mono ?_
      rintro e w1 ⟨rfl, rfl⟩
      go_wp2_with fail
      refine (h2 _).mono ?_
      rintro e w1 ⟨rfl, rfl⟩
      go_wp2_with fail
      refine (h3 _).mono ?_
      rintro e w1 ⟨rfl, rfl⟩
      go_wp2
      go_ret
      exact ⟨rfl, below_a _ _⟩
end Go.Proofs.Ytfamndjiaebmbaf
