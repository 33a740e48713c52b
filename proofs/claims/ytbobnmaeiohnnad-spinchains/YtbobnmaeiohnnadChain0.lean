/-
  Chains of rotations: what they are; two that were reckoned of the same are the same. No program here.
-/
import Derived.Test.YtbobnmaeiohnnadSpin3
import Derived.Laws.AppendOwnNone
namespace Go.Proofs.Ytbobnmaeiohnnad
open Go Go.RowKit

/-- four numbers. -/
structure Q4 where
  a : Nat
  b : Nat
  c : Nat
  d : Nat
deriving Inhabited
def oneQ : Q4 := ⟨4607182418800017408, 0, 0, 0⟩
def Q4.val (q : Q4) : Value := .agg #[.float .f64 q.a, .float .f64 q.b, .float .f64 q.c, .float .f64 q.d]
structure SameQ (p q : Q4) : Prop where
  a : FSame p.a q.a
  b : FSame p.b q.b
  c : FSame p.c q.c
  d : FSame p.d q.d
theorem SameQ.refl (q : Q4) : SameQ q q := ⟨.refl _, .refl _, .refl _, .refl _⟩
structure TimesIs (x q t : Q4) : Prop where
  ew : Ev (tWE x.a x.b x.c x.d q.a q.b q.c q.d) t.a
  ex : Ev (tXE x.a x.b x.c x.d q.a q.b q.c q.d) t.b
  ey : Ev (tYE x.a x.b x.c x.d q.a q.b q.c q.d) t.c
  ez : Ev (tZE x.a x.b x.c x.d q.a q.b q.c q.d) t.d
/-- expressions that differ in numbers that are the same. -/
inductive Like : FE → FE → Prop where
  | num {x y : Nat} : FSame x y → Like (.num x) (.num y)
  | op {o : BinOp} {a b c d : FE} : Like a c → Like b d → Like (.op o a b) (.op o c d)
theorem Like.same {e f : FE} (h : Like e f) : ∀ {r s : Nat}, Ev e r → Ev f s → FSame r s := by
  induction h with
  | num h =>
    intro r s h1 h2
    cases h1
    cases h2
    exact h
  | op h1 h2 ih1 ih2 =>
    intro r s k1 k2
    cases k1 with | op a1 a2 a3 =>
    cases k2 with | op b1 b2 b3 =>
    exact a3.same b3 (ih1 a1 b1) (ih2 a2 b2)
theorem times_same {x q q' t t' : Q4} (h : SameQ q q') (k : TimesIs x q t) (k' : TimesIs x q' t') : SameQ t t' := by
  refine ⟨Like.same ?_ k.ew k'.ew, Like.same ?_ k.ex k'.ex, Like.same ?_ k.ey k'.ey, Like.same ?_ k.ez k'.ez⟩
  all_goals
    repeat' (first | exact Like.num h.a | exact Like.num h.b | exact Like.num h.c | exact Like.num h.d | exact Like.num (.refl _) | apply Like.op)
def retQ (q : Q4) (t : Bool) : Ending := .returned (.tuple #[q.val, .bool t])
def UnitQ (t q : Q4) (b : Bool) : Prop := UnitIs t.a t.b t.c t.d (retQ q b)
theorem val_inj {p q : Q4} {s t : Bool} (h : retQ p s = retQ q t) : p = q ∧ s = t := by
  unfold retQ Q4.val at h
  simp only [Ending.returned.injEq, Value.tuple.injEq, Array.mk.injEq, List.cons.injEq, Value.agg.injEq, Value.float.injEq, Value.bool.injEq, and_true, true_and] at h
  cases p
  cases q
  simp_all
theorem unitQ_same {t t' q q' : Q4} {b b' : Bool} (h : SameQ t t') (k : UnitQ t q b) (k' : UnitQ t' q' b') : b = b' ∧ SameQ q q' := by
  obtain ⟨r, v, e1, s1, k⟩ := k
  obtain ⟨r', v', e2, s2, k'⟩ := k'
  have he : FSame v v' := Like.same (by
    repeat' (first | exact Like.num h.a | exact Like.num h.b | exact Like.num h.c | exact Like.num h.d | apply Like.op)) e1 e2
  have hr := s1.same s2 he
  have hd := divB_same hr
  rcases k with ⟨h0, a1, a2, a3, a4, e, h1, h2, h3, h4⟩ | ⟨h0, e⟩
  · rcases k' with ⟨k0, b1, b2, b3, b4, e', k1, k2, k3, k4⟩ | ⟨k0, e'⟩
    · obtain ⟨rfl, rfl⟩ := val_inj (p := q) (q := ⟨a1, a2, a3, a4⟩) e
      obtain ⟨rfl, rfl⟩ := val_inj (p := q') (q := ⟨b1, b2, b3, b4⟩) e'
      exact ⟨rfl, h1.same k1 h.a hr, h2.same k2 h.b hr, h3.same k3 h.c hr, h4.same k4 h.d hr⟩
    · rw [h0, k0] at hd; cases hd
  · rcases k' with ⟨k0, b1, b2, b3, b4, e', _⟩ | ⟨k0, e'⟩
    · rw [h0, k0] at hd; cases hd
    · obtain ⟨rfl, rfl⟩ := val_inj (p := q) (q := oneQ) e
      obtain ⟨rfl, rfl⟩ := val_inj (p := q') (q := oneQ) e'
      exact ⟨rfl, .refl _⟩
theorem unitQ_form {t : Q4} {e : Ending} (h : UnitIs t.a t.b t.c t.d e) : ∃ q b, e = retQ q b ∧ UnitQ t q b := by
  obtain ⟨p, q, s, u, b, rfl⟩ := unit_form h
  exact ⟨⟨p, q, s, u⟩, b, rfl, h⟩
inductive Ch (L : List Q4) : Nat → Q4 → Prop where
  | zero : Ch L 0 oneQ
  | succ {k : Nat} {q t q' : Q4} : Ch L k q → k < L.length → TimesIs (L.getD k oneQ) q t → UnitQ t q' true → Ch L (k + 1) q'
theorem ch_same {L : List Q4} : ∀ {k : Nat} {q q' : Q4}, Ch L k q → Ch L k q' → SameQ q q'
  | 0, _, _, h, k => by cases h; cases k; exact .refl _
  | n + 1, _, _, h, k => by
    cases h with | succ h1 h2 h3 h4 =>
    cases k with | succ k1 k2 k3 k4 =>
    exact (unitQ_same (times_same (ch_same h1 k1) h3 k3) h4 k4).2
theorem ch_at {L : List Q4} : ∀ {n : Nat} {q : Q4}, Ch L n q → ∀ k, k < n → ∃ p t q', Ch L k p ∧ TimesIs (L.getD k oneQ) p t ∧ UnitQ t q' true := by
  intro n q h
  induction h with
  | zero => intro k hk; omega
  | succ h1 h2 h3 h4 ih =>
    intro k hk
    rename_i m _ _ _
    by_cases e : k = m
    · subst e; exact ⟨_, _, _, h1, h3, h4⟩
    · exact ih k (by omega)
/-- what a chain tells. -/
def ChainIs (L : List Q4) (e : Ending) : Prop := (∃ q, Ch L L.length q ∧ e = retQ q true) ∨ ∃ k q t p, Ch L k q ∧ k < L.length ∧ TimesIs (L.getD k oneQ) q t ∧ UnitQ t p false ∧ e = retQ oneQ false
theorem chain_same {L : List Q4} {e e' : Ending} (h : ChainIs L e) (k : ChainIs L e') : ∃ q q' b, e = retQ q b ∧ e' = retQ q' b ∧ SameQ q q' := by
  rcases h with ⟨q, h, rfl⟩ | ⟨n, q, t, p, h1, h2, h3, h4, rfl⟩
  · rcases k with ⟨q', k, rfl⟩ | ⟨n', q', t', p', k1, k2, k3, k4, rfl⟩
    · exact ⟨q, q', true, rfl, rfl, ch_same h k⟩
    · obtain ⟨a, b, c, d1, d2, d3⟩ := ch_at h n' k2
      have := (unitQ_same (times_same (ch_same d1 k1) d2 k3) d3 k4).1
      cases this
  · rcases k with ⟨q', k, rfl⟩ | ⟨n', q', t', p', k1, k2, k3, k4, rfl⟩
    · obtain ⟨a, b, c, d1, d2, d3⟩ := ch_at k n h2
      have := (unitQ_same (times_same (ch_same d1 h1) d2 h3) d3 h4).1
      cases this
    · exact ⟨oneQ, oneQ, false, rfl, rfl, .refl _⟩
/-- a row of them. -/
structure QRow (w : World) (b off : Nat) (L : List Q4) : Prop where
  ca : ∀ j, j < L.length → w.cell? ⟨b, off + j * 4, none⟩ = some (.float .f64 (L.getD j oneQ).a)
  cb : ∀ j, j < L.length → w.cell? ⟨b, off + j * 4 + 1, none⟩ = some (.float .f64 (L.getD j oneQ).b)
  cc : ∀ j, j < L.length → w.cell? ⟨b, off + j * 4 + 2, none⟩ = some (.float .f64 (L.getD j oneQ).c)
  cd : ∀ j, j < L.length → w.cell? ⟨b, off + j * 4 + 3, none⟩ = some (.float .f64 (L.getD j oneQ).d)
theorem QRow.below {w v : World} {b off : Nat} {L : List Q4} (h : QRow w b off L) (k : Below w.heap.size w v) (hb : b < w.heap.size) : QRow v b off L :=
  ⟨fun j hj => (k.cell hb).trans (h.ca j hj), fun j hj => (k.cell hb).trans (h.cb j hj), fun j hj => (k.cell hb).trans (h.cc j hj), fun j hj => (k.cell hb).trans (h.cd j hj)⟩
end Go.Proofs.Ytbobnmaeiohnnad
