/-
  The law OrbitGibbs: its walk, out of the program's Gibbs by its contract.
-/
import Derived.Test.YtfamndjiaebmbafGibLaw
import Derived.Test.YtfamndjiaebmbafBits1
namespace Go.Proofs.Ytfamndjiaebmbaf
open Go Go.RowKit

set_option maxHeartbeats 4000000 in
theorem sameV_any (p q : V3) (w : World) (h : SameV p q) : Calls Try.prog 6 #[.agg #[.float .f64 p.x, .float .f64 p.y, .float .f64 p.z], .agg #[.float .f64 q.x, .float .f64 q.y, .float .f64 q.z]] w fun x w' => x = .returned (.bool true) ∧ Below w.heap.size w w' := by
  have hb := fun x y v (h : FSame x y) => (same_iff.2 h) ▸ sameBits_any x y v
  go_enter Try.func6, Try.ntmps6
  go_wp2_with fail
  refine (hb _ _ _ h.x).mono ?_
  rintro x w1 ⟨rfl, rfl⟩
  go_wp2_with fail
  refine (hb _ _ _ h.y).mono ?_
  rintro x w1 ⟨rfl, rfl⟩
  go_wp2_with fail
  refine (hb _ _ _ h.z).mono ?_
  rintro x w1 ⟨rfl, rfl⟩
  go_wp2
  go_ret
  exact ⟨rfl, below_al2 w _ _⟩
theorem gib_form {a b c : V3} {mu : Nat} {e : Ending} (h : GibEnd a b c mu e) : ∃ (r : V3) (t : Bool), e = .returned (.tuple #[r.val, .bool t]) := by
  obtain ⟨r, _, rfl⟩ := h
  exact ⟨_, _, rfl⟩
theorem gib_next {a b c : V3} {mu : Nat} {r : V3} {t : Bool} {e : Ending} (h : GibEnd a b c mu (.returned (.tuple #[r.val, .bool t]))) (k : GibEnd a b c mu e) : ∃ r' : V3, e = .returned (.tuple #[r'.val, .bool t]) ∧ SameV r r' := by
  obtain ⟨r1, r2, t1, h1, rfl, hs⟩ := gib_two h k
  simp only [Ending.returned.injEq, Value.tuple.injEq, Array.mk.injEq, List.cons.injEq, Value.bool.injEq, and_true] at h1
  obtain ⟨h1, rfl⟩ := h1
  rw [v3_inj h1]
  exact ⟨r2, rfl, hs⟩
set_option maxRecDepth 100000 in
set_option maxHeartbeats 8000000 in
theorem gib_walk (hG : ∀ (a b c : V3) (mu : Nat) (w : World), Calls Try.prog 4 #[a.val, b.val, c.val, .float .f64 mu] w fun e w' => GibEnd a b c mu e ∧ Below w.heap.size w w')
    (a b c : V3) (mu : Nat) (w : World) : Calls Try.prog 3 #[a.val, b.val, c.val, .float .f64 mu] w fun e w' => e = .returned (.bool true) ∧ Below w.heap.size w w' := by
  have hsf := run_store_float Try.prog
  unfold V3.val
  go_enter Try.func3, Try.ntmps3
  go_wp2_with fail
  refine (hG vX vY vM 4607182418800017408 _).mono ?_
  rintro e w1 ⟨he, k1⟩
  obtain ⟨r0, rfl, f2, f3⟩ := gib_first he
  obtain ⟨b0, b1, b2, hB⟩ := three_blocks k1
  have HX : HeldR (Bx [(w.heap.size, a), (w.heap.size + 1, b), (w.heap.size + 1 + 1, c)] w1) := hideR ((((Bx.mk (fun p hp => by cases hp)).cons ⟨b2⟩).cons ⟨b1⟩).cons ⟨b0⟩)
  have HW := hideR hB
  have F2 := hideR f2
  have F3 := hideR f3
  clear k1 b0 b1 b2 hB he f2 f3
  unfold V3.val
  have f2 := unhideR F2
  have f3 := unhideR F3
  obtain ⟨⟨c00, c01, c02⟩, _⟩ := three_at ((unhideR HX).get mem0).at_
  obtain ⟨⟨c10, c11, c12⟩, _⟩ := three_at ((unhideR HX).get (memS mem0)).at_
  obtain ⟨⟨c20, c21, c22⟩, _⟩ := three_at ((unhideR HX).get (memS (memS mem0))).at_
  have lz := ltB ((unhideR HX).get mem0).at_
  have lz2 := ltB ((unhideR HX).get (memS mem0)).at_
  have lz3 := ltB ((unhideR HX).get (memS (memS mem0))).at_
  go_wp2_with fail
  refine (hG a b c mu _).mono ?_
  rintro e w2 ⟨he, k2⟩
  obtain ⟨r, t, rfl⟩ := gib_form he
  have HE := hideR he
  replace HX := hideR (((unhideR HX).go (below_a _ _)).go k2)
  have HR := hideR ((VBox.new w1 r0).go k2)
  replace HW := hideR (below_go (below_go (unhideR HW) (below_a _ _)) k2)
  unfold V3.val
  clear he k2 F2 F3 f2 f3 lz lz2 c00 c01 c02 c10 c11 c12 c20 c21 c22
  obtain ⟨g, hg⟩ : ∃ g, w1.heap.size = g := ⟨_, rfl⟩
  rw [hg] at HR lz3 ⊢
  clear hg
  obtain ⟨⟨c00, c01, c02⟩, _⟩ := three_at ((unhideR HX).get mem0).at_
  obtain ⟨⟨c10, c11, c12⟩, _⟩ := three_at ((unhideR HX).get (memS mem0)).at_
  obtain ⟨⟨c20, c21, c22⟩, _⟩ := three_at ((unhideR HX).get (memS (memS mem0))).at_
  obtain ⟨⟨c30, c31, c32⟩, c33, c34, c35⟩ := three_at (unhideR HR).at_
  have n0 : g ≠ w.heap.size := by omega
  have n1 : g ≠ w.heap.size + 1 := by omega
  have n2 : g ≠ w.heap.size + 1 + 1 := by omega
  go_wp2_with fail
  refine (gibbsOf_any a b c mu _).mono ?_
  rintro e w3 ⟨he, k3⟩
  obtain ⟨r', rfl, hs⟩ := gib_next (unhideR HE) he
  have HS := hideR hs
  replace HR := hideR (((unhideR HR).set r).go k3)
  replace HW := hideR (below_go (below_three (unhideR HW) (by omega) _ _ _) k3)
  unfold V3.val
  clear he hs k3 HE HX c00 c01 c02 c10 c11 c12 c20 c21 c22 c30 c31 c32 c33 c34 c35 n0 n1 n2
  obtain ⟨⟨c30, c31, c32⟩, c33, c34, c35⟩ := three_at (unhideR HR).at_
  have lg := ltB (unhideR HR).at_
  go_wp2_with fail
  refine (sameV_any r r' _ (unhideR HS)).mono ?_
  rintro e w4 ⟨rfl, k4⟩
  replace HW := hideR (below_go (below_go (unhideR HW) (below_a _ _)) k4)
  clear k4 HS HR c30 c31 c32 c33 c34 c35 lg
  cases t <;> go_wp2 <;> go_ret <;> exact ⟨rfl, unhideR HW⟩
end Go.Proofs.Ytfamndjiaebmbaf
