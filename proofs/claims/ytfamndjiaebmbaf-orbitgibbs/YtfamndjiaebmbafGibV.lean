/-
  Sums, multiples, products, lengths of vectors: the document's, by contracts.
-/
import Derived.Test.YtfamndjiaebmbafVec3
import Derived.Test.YtfamndjiaebmbafCrossOf
import Derived.Test.YtfamndjiaebmbafLens0
import Derived.Test.YtfamndjiaebmbafLoose6
namespace Go.Proofs.Ytfamndjiaebmbaf
open Go Go.RowKit

structure ScV (f : Nat) (v r : V3) : Prop where
  x : FOp .mul f v.x r.x
  y : FOp .mul f v.y r.y
  z : FOp .mul f v.z r.z
structure BoV (v w r : V3) : Prop where
  x : FOp .add v.x w.x r.x
  y : FOp .add v.y w.y r.y
  z : FOp .add v.z w.z r.z
structure CrV (p q r : V3) : Prop where
  x : Ev (crE p.y q.z p.z q.y) r.x
  y : Ev (crE p.z q.x p.x q.z) r.y
  z : Ev (crE p.x q.y p.y q.x) r.z
def LnV (v : V3) (l : Nat) : Prop := ∃ t, Ev (lenE v.x v.y v.z) t ∧ FSq t l
set_option maxHeartbeats 4000000 in
theorem scaled_any (f : Nat) (v : V3) (w : World) : Calls Try.prog 16 #[.float .f64 f, .agg #[.float .f64 v.x, .float .f64 v.y, .float .f64 v.z]] w fun e w' => ∃ r : V3, e = .returned r.val ∧ ScV f v r ∧ Below w.heap.size w w' := by
  have hsf := run_store_float Try.prog
  go_enter Try.func16, Try.ntmps16
  go_wp2_with fail
  refine upon_float four_mul ?_
  intro x n1 h1
  go_wp2_with fail
  refine upon_float four_mul ?_
  intro y n2 h2
  go_wp2_with fail
  refine upon_float four_mul ?_
  intro z n3 h3
  go_wp2
  simp [bodyPost, results, Try.results16, go_sem]
  exact ⟨⟨x, y, z⟩, rfl, ⟨h1, h2, h3⟩, below_three (below_drewN (below_al2 w _ _) _) (by omega) _ _ _⟩
set_option maxHeartbeats 4000000 in
theorem both_any (v u : V3) (w : World) : Calls Try.prog 15 #[.agg #[.float .f64 v.x, .float .f64 v.y, .float .f64 v.z], .agg #[.float .f64 u.x, .float .f64 u.y, .float .f64 u.z]] w fun e w' => ∃ r : V3, e = .returned r.val ∧ BoV v u r ∧ Below w.heap.size w w' := by
  have hsf := run_store_float Try.prog
  go_enter Try.func15, Try.ntmps15
  go_wp2_with fail
  refine upon_float four_add ?_
  intro x n1 h1
  go_wp2_with fail
  refine upon_float four_add ?_
  intro y n2 h2
  go_wp2_with fail
  refine upon_float four_add ?_
  intro z n3 h3
  go_wp2
  simp [bodyPost, results, Try.results15, go_sem]
  exact ⟨⟨x, y, z⟩, rfl, ⟨h1, h2, h3⟩, below_three (below_drewN (below_al3 w _ _ _) _) (by omega) _ _ _⟩
theorem crossV_any (p q : V3) (w : World) : Calls Try.prog 14 #[.agg #[.float .f64 p.x, .float .f64 p.y, .float .f64 p.z], .agg #[.float .f64 q.x, .float .f64 q.y, .float .f64 q.z]] w fun e w' => ∃ r : V3, e = .returned r.val ∧ CrV p q r ∧ Below w.heap.size w w' := by
  refine (crossOf_any _ _ _ _ _ _ w).mono ?_
  rintro e w' ⟨v, rfl, ⟨x, y, z, rfl, h1, h2, h3⟩, k⟩
  exact ⟨⟨x, y, z⟩, rfl, ⟨h1, h2, h3⟩, k⟩
theorem lenV_any (v : V3) (w : World) : Calls Try.prog 13 #[.agg #[.float .f64 v.x, .float .f64 v.y, .float .f64 v.z]] w fun e w' => ∃ l, e = .returned (.float .f64 l) ∧ LnV v l ∧ Below w.heap.size w w' := by
  refine (lengthOf_any _ _ _ w).mono ?_
  rintro e w' ⟨r, t, rfl, h1, h2, k⟩
  exact ⟨r, rfl, ⟨t, h1, h2⟩, k⟩
/-! the same bits of the same -/
theorem same_mul {a b c a' b' c' : Nat} (ha : FSame a a') (hb : FSame b b') (h : FOp .mul a b c) (k : FOp .mul a' b' c') : FSame c c' := Like.same (.op (.num ha) (.num hb)) (.op (.num _) (.num _) h) (.op (.num _) (.num _) k)
theorem same_add {a b c a' b' c' : Nat} (ha : FSame a a') (hb : FSame b b') (h : FOp .add a b c) (k : FOp .add a' b' c') : FSame c c' := Like.same (.op (.num ha) (.num hb)) (.op (.num _) (.num _) h) (.op (.num _) (.num _) k)
theorem same_sub {a b c a' b' c' : Nat} (ha : FSame a a') (hb : FSame b b') (h : FOp .sub a b c) (k : FOp .sub a' b' c') : FSame c c' := Like.same (.op (.num ha) (.num hb)) (.op (.num _) (.num _) h) (.op (.num _) (.num _) k)
theorem same_quo {a b c a' b' c' : Nat} (ha : FSame a a') (hb : FSame b b') (h : FOp .quo a b c) (k : FOp .quo a' b' c') : FSame c c' := Like.same (.op (.num ha) (.num hb)) (.op (.num _) (.num _) h) (.op (.num _) (.num _) k)
theorem ScV.same {f f' : Nat} {v v' r r' : V3} (hf : FSame f f') (hv : SameV v v') (h : ScV f v r) (k : ScV f' v' r') : SameV r r' := ⟨same_mul hf hv.x h.x k.x, same_mul hf hv.y h.y k.y, same_mul hf hv.z h.z k.z⟩
theorem BoV.same {v v' u u' r r' : V3} (hv : SameV v v') (hu : SameV u u') (h : BoV v u r) (k : BoV v' u' r') : SameV r r' := ⟨same_add hv.x hu.x h.x k.x, same_add hv.y hu.y h.y k.y, same_add hv.z hu.z h.z k.z⟩
theorem CrV.same {p p' q q' r r' : V3} (hp : SameV p p') (hq : SameV q q') (h : CrV p q r) (k : CrV p' q' r') : SameV r r' :=
  ⟨Like.same (.op (.op (.num hp.y) (.num hq.z)) (.op (.num hp.z) (.num hq.y))) h.x k.x, Like.same (.op (.op (.num hp.z) (.num hq.x)) (.op (.num hp.x) (.num hq.z))) h.y k.y, Like.same (.op (.op (.num hp.x) (.num hq.y)) (.op (.num hp.y) (.num hq.x))) h.z k.z⟩
theorem LnV.same {v v' : V3} {l l' : Nat} (hv : SameV v v') (h : LnV v l) (k : LnV v' l') : FSame l l' := by
  obtain ⟨t, h1, h2⟩ := h
  obtain ⟨t', k1, k2⟩ := k
  exact h2.same k2 (Like.same (.op (.op (.op (.num hv.x) (.num hv.x)) (.op (.num hv.y) (.num hv.y))) (.op (.num hv.z) (.num hv.z))) h1 k1)
end Go.Proofs.Ytfamndjiaebmbaf
