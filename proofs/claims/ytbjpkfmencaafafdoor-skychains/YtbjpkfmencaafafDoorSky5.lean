/-
  Turns: vectors that are the same, turned alike, are the same; chains of turns, there and back.
-/
import Derived.Test.YtbjpkfmencaafafDoorSky3
import Derived.Test.YtbjpkfmencaafafDoorSky4
namespace Go.Proofs.YtbjpkfmencaafafDoor
open Go Go.RowKit

structure V3 where
  x : Nat
  y : Nat
  z : Nat
deriving Inhabited
def V3.val (v : V3) : Value := .agg #[.float .f64 v.x, .float .f64 v.y, .float .f64 v.z]
structure SameV (p q : V3) : Prop where
  x : FSame p.x q.x
  y : FSame p.y q.y
  z : FSame p.z q.z
theorem SameV.refl (q : V3) : SameV q q := ⟨.refl _, .refl _, .refl _⟩
theorem v3_inj {p q : V3} (h : p.val = q.val) : p = q := by
  unfold V3.val at h
  simp only [Array.mk.injEq, List.cons.injEq, Value.agg.injEq, Value.float.injEq, and_true, true_and] at h
  cases p
  cases q
  simp_all
/-- a turn of a vector. -/
def Turned (k d : Int) (p q : V3) : Prop := TurnIs k d p.x p.y p.z q.val
theorem vset_like {a b c a' b' c' : FE} {p q : V3} (h1 : Like a a') (h2 : Like b b') (h3 : Like c c') (h : VSet a b c p.val) (k : VSet a' b' c' q.val) : SameV p q := by
  obtain ⟨r, s, t, e, f1, f2, f3⟩ := h
  obtain ⟨r', s', t', e', g1, g2, g3⟩ := k
  obtain rfl := v3_inj (p := p) (q := ⟨r, s, t⟩) e
  obtain rfl := v3_inj (p := q) (q := ⟨r', s', t'⟩) e'
  exact ⟨h1.same f1 g1, h2.same f2 g2, h3.same f3 g3⟩
theorem turned_form {k d : Int} {p : V3} {v : Value} (h : TurnIs k d p.x p.y p.z v) : ∃ q : V3, v = q.val ∧ Turned k d p q := by
  have : ∃ q : V3, v = q.val := by
    unfold TurnIs at h
    split at h
    · obtain ⟨r, s, t, e, _⟩ := h; exact ⟨⟨r, s, t⟩, e⟩
    · split at h
      · obtain ⟨r, s, t, e, _⟩ := h; exact ⟨⟨r, s, t⟩, e⟩
      · obtain ⟨r, s, t, e, _⟩ := h; exact ⟨⟨r, s, t⟩, e⟩
  obtain ⟨q, rfl⟩ := this
  exact ⟨q, rfl, h⟩
theorem turned_same {k d : Int} {p p' q q' : V3} (h : SameV p p') (t : Turned k d p q) (t' : Turned k d p' q') : SameV q q' := by
  unfold Turned TurnIs at t t'
  split at t
  · rw [if_pos (by assumption)] at t'
    refine vset_like ?_ ?_ ?_ t t'
    all_goals
      repeat' (first | exact Like.num h.x | exact Like.num h.y | exact Like.num h.z | exact Like.num (.refl _) | apply Like.op)
  · rw [if_neg (by assumption)] at t'
    split at t
    · rw [if_pos (by assumption)] at t'
      refine vset_like ?_ ?_ ?_ t t'
      all_goals
        repeat' (first | exact Like.num h.x | exact Like.num h.y | exact Like.num h.z | exact Like.num (.refl _) | apply Like.op)
    · rw [if_neg (by assumption)] at t'
      refine vset_like ?_ ?_ ?_ t t'
      all_goals
        repeat' (first | exact Like.num h.x | exact Like.num h.y | exact Like.num h.z | exact Like.num (.refl _) | apply Like.op)
/-- along the steps. -/
inductive Al (L : List St) (v : V3) : Nat → V3 → Prop where
  | zero : Al L v 0 v
  | succ {n : Nat} {p q : V3} : Al L v n p → n < L.length → Turned (L.getD n st0).k (L.getD n st0).d p q → Al L v (n + 1) q
/-- against the steps, the last first. -/
inductive Ag (L : List St) (v : V3) : Nat → V3 → Prop where
  | zero : Ag L v 0 v
  | succ {n : Nat} {p q : V3} : Ag L v n p → n < L.length → Turned (L.getD (L.length - 1 - n) st0).k (-nrm (L.getD (L.length - 1 - n) st0).d) p q → Ag L v (n + 1) q
theorem al_same {L : List St} {v v' : V3} (e : SameV v v') : ∀ {n : Nat} {q q' : V3}, Al L v n q → Al L v' n q' → SameV q q'
  | 0, _, _, h, k => by cases h; cases k; exact e
  | n + 1, _, _, h, k => by
    cases h with | succ h1 h2 h3 =>
    cases k with | succ k1 k2 k3 =>
    exact turned_same (al_same e h1 k1) h3 k3
theorem ag_same {L : List St} {v v' : V3} (e : SameV v v') : ∀ {n : Nat} {q q' : V3}, Ag L v n q → Ag L v' n q' → SameV q q'
  | 0, _, _, h, k => by cases h; cases k; exact e
  | n + 1, _, _, h, k => by
    cases h with | succ h1 h2 h3 =>
    cases k with | succ k1 k2 k3 =>
    exact turned_same (ag_same e h1 k1) h3 k3
end Go.Proofs.YtbjpkfmencaafafDoor
