/-
  The law SpinTurns: its walk out of the contracts.
-/
import Derived.Test.YtbobnmaeiohnnadSpin8
namespace Go.Proofs.Ytbobnmaeiohnnad
open Go Go.RowKit

theorem keepB {w v : World} {b : Nat} {o : Obj} (h : w.heap[b]? = some o) (k : Below w.heap.size w v) : v.heap[b]? = some o := (k.block _ (Array.getElem?_eq_some_iff.1 h).1).trans h
theorem keepA {w : World} {b : Nat} {o o' : Obj} (h : w.heap[b]? = some o) : (w.alloc o').heap[b]? = some o := (alloc_block (Array.getElem?_eq_some_iff.1 h).1).trans h
theorem ltB {w : World} {b : Nat} {o : Obj} (h : w.heap[b]? = some o) : b < w.heap.size := (Array.getElem?_eq_some_iff.1 h).1
theorem about_form {x y z : Nat} {h : Int} {e : Ending} (k : AboutIs x y z h e) : ∃ p q s u t, e = .returned (.tuple #[.agg #[.float .f64 p, .float .f64 q, .float .f64 s, .float .f64 u], .bool t]) := by
  obtain ⟨r, t, _, _, k⟩ := k
  rcases k with ⟨_, p, q, s, _, _, _, rfl, _⟩ | ⟨_, rfl⟩
  · exact ⟨_, _, _, _, _, rfl⟩
  · exact ⟨_, _, _, _, _, rfl⟩
theorem about_same {x y z : Nat} {h : Int} {p q s u p' q' s' u' : Nat} {t t' : Bool} (k : AboutIs x y z h (.returned (.tuple #[.agg #[.float .f64 p, .float .f64 q, .float .f64 s, .float .f64 u], .bool t]))) (k' : AboutIs x y z h (.returned (.tuple #[.agg #[.float .f64 p', .float .f64 q', .float .f64 s', .float .f64 u'], .bool t']))) :
    t = t' ∧ FSame p p' ∧ FSame q q' ∧ FSame s s' ∧ FSame u u' := by
  obtain ⟨r, v, e1, s1, k⟩ := k
  obtain ⟨r', v', e2, s2, k'⟩ := k'
  have hr := s1.same s2 (e1.same e2)
  have hd := divB_same hr
  rcases k with ⟨h0, a1, a2, a3, g0, g1, g2, e, h1, h2, h3, h4, h5, h6⟩ | ⟨h0, e⟩
  · rcases k' with ⟨k0, b1, b2, b3, j0, j1, j2, e', k1, k2, k3, k4, k5, k6⟩ | ⟨k0, e'⟩
    · simp only [Ending.returned.injEq, Value.tuple.injEq, Array.mk.injEq, List.cons.injEq, Value.agg.injEq, Value.float.injEq, Value.bool.injEq, and_true, true_and] at e e'
      obtain ⟨⟨rfl, rfl, rfl, rfl⟩, rfl⟩ := e
      obtain ⟨⟨rfl, rfl, rfl, rfl⟩, rfl⟩ := e'
      exact ⟨rfl, .refl _, h4.same k4 (.refl _) (h1.same k1 (.refl _) hr), h5.same k5 (.refl _) (h2.same k2 (.refl _) hr), h6.same k6 (.refl _) (h3.same k3 (.refl _) hr)⟩
    · rw [h0, k0] at hd; cases hd
  · rcases k' with ⟨k0, b1, b2, b3, j0, j1, j2, e', _⟩ | ⟨k0, e'⟩
    · rw [h0, k0] at hd; cases hd
    · simp only [Ending.returned.injEq, Value.tuple.injEq, Array.mk.injEq, List.cons.injEq, Value.agg.injEq, Value.float.injEq, Value.bool.injEq, and_true, true_and] at e e'
      obtain ⟨⟨rfl, rfl, rfl, rfl⟩, rfl⟩ := e
      obtain ⟨⟨rfl, rfl, rfl, rfl⟩, rfl⟩ := e'
      exact ⟨rfl, .refl _, .refl _, .refl _, .refl _⟩
structure Same9 (x0 x1 x2 x3 x4 x5 x6 x7 x8 y0 y1 y2 y3 y4 y5 y6 y7 y8 : Nat) : Prop where
  e0 : FSame x0 y0
  e1 : FSame x1 y1
  e2 : FSame x2 y2
  e3 : FSame x3 y3
  e4 : FSame x4 y4
  e5 : FSame x5 y5
  e6 : FSame x6 y6
  e7 : FSame x7 y7
  e8 : FSame x8 y8
theorem made_same {a b c d x0 x1 x2 x3 x4 x5 x6 x7 x8 y0 y1 y2 y3 y4 y5 y6 y7 y8 : Nat} (h : Made (RowRel a b c d) 3 x0 x1 x2 x3 x4 x5 x6 x7 x8) (k : Made (RowRel a b c d) 3 y0 y1 y2 y3 y4 y5 y6 y7 y8) : Same9 x0 x1 x2 x3 x4 x5 x6 x7 x8 y0 y1 y2 y3 y4 y5 y6 y7 y8 := by
  obtain ⟨a0, a1, a2⟩ := (h.a (by omega)).1 rfl
  obtain ⟨a3, a4, a5⟩ := (h.b (by omega)).2.1 rfl
  obtain ⟨a6, a7, a8⟩ := (h.c (by omega)).2.2 rfl
  obtain ⟨b0, b1, b2⟩ := (k.a (by omega)).1 rfl
  obtain ⟨b3, b4, b5⟩ := (k.b (by omega)).2.1 rfl
  obtain ⟨b6, b7, b8⟩ := (k.c (by omega)).2.2 rfl
  exact ⟨a0.same b0, a1.same b1, a2.same b2, a3.same b3, a4.same b4, a5.same b5, a6.same b6, a7.same b7, a8.same b8⟩
theorem dt_same {a b c a' b' c' x y z p q : Nat} (ha : FSame a a') (hb : FSame b b') (hc : FSame c c') (h : Ev (dtE a b c x y z) p) (k : Ev (dtE a' b' c' x y z) q) : FSame p q := by
  cases h with | op h1 h2 h3 =>
  cases h1 with | op h4 h5 h6 =>
  cases h2 with | op h7 h8 h9 =>
  cases h4 with | op i1 i2 i3 =>
  cases h5 with | op i4 i5 i6 =>
  cases k with | op k1 k2 k3 =>
  cases k1 with | op k4 k5 k6 =>
  cases k2 with | op k7 k8 k9 =>
  cases k4 with | op j1 j2 j3 =>
  cases k5 with | op j4 j5 j6 =>
  cases h7; cases h8; cases i1; cases i2; cases i4; cases i5; cases k7; cases k8; cases j1; cases j2; cases j4; cases j5
  exact h3.same k3 (h6.same k6 (i3.same j3 ha (.refl _)) (i6.same j6 hb (.refl _))) (h9.same k9 hc (.refl _))
set_option maxHeartbeats 8000000 in
theorem conv_any (x0 x1 x2 x3 x4 x5 x6 x7 x8 : Nat) (w : World) : Calls Try.prog 33 #[.agg (nine x0 x1 x2 x3 x4 x5 x6 x7 x8)] w fun e w' => e = .returned (.agg (nine x0 x1 x2 x3 x4 x5 x6 x7 x8)) ∧ Below w.heap.size w w' := by
  have hsf := run_store_float Try.prog
  unfold nine
  go_enter Try.func33, Try.ntmps33
  go_wp2
  simp [bodyPost, results, Try.results33, go_sem]
  exact below_al2 w _ _
end Go.Proofs.Ytbobnmaeiohnnad
