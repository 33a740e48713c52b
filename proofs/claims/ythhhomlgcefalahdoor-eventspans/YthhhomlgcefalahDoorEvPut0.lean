/-
  Events in memory: small things. Nothing of the program's text.
-/
import Derived.Test.YthhhomlgcefalahDoorEvRow
import Derived.WalkSpells
import Derived.Laws.AppendOwnNone
namespace Go.Proofs.YthhhomlgcefalahDoor
open Go Go.RowKit

theorem putV_split : ∀ (L : List Evt) (e : Evt) (i : Nat), i ≤ L.length → (∀ j, j < i → (L.getD j ev0).Ahead e) → (i < L.length → ¬ (L.getD i ev0).Ahead e) → putV L e = L.take i ++ e :: L.drop i
  | [], _, i, hi, _, _ => by
    obtain rfl : i = 0 := by simpa using hi
    rfl
  | x :: l, e, 0, _, _, h => by
    have : ¬ x.Ahead e := h (by simp)
    unfold putV
    rw [if_neg this]
    rfl
  | x :: l, e, i + 1, hi, h1, h2 => by
    have : x.Ahead e := h1 0 (by omega)
    unfold putV
    rw [if_pos this, putV_split l e i (by simpa using hi) (fun j hj => h1 (j + 1) (by omega)) (fun k => h2 (by simpa using k))]
    rfl
structure AhT (x e : Evt) : Prop where
  is : x.Ahead e
structure AhF (x e : Evt) : Prop where
  is : ¬ x.Ahead e
theorem ahead_cases (x e : Evt) : (AhT x e ∧ (decide (x.at_ < e.at_) = true ∨ (decide (x.at_ < e.at_) = false ∧ (x.at_ == e.at_) = true ∧ decide (x.ix < e.ix) = true) ∨ (decide (x.at_ < e.at_) = false ∧ (x.at_ == e.at_) = true ∧ decide (x.ix < e.ix) = false ∧ (x.ix == e.ix) = true ∧ decide (x.k < e.k) = true))) ∨
    (AhF x e ∧ ((decide (x.at_ < e.at_) = false ∧ (x.at_ == e.at_) = false) ∨ (decide (x.at_ < e.at_) = false ∧ (x.at_ == e.at_) = true ∧ decide (x.ix < e.ix) = false ∧ (x.ix == e.ix) = false) ∨ (decide (x.at_ < e.at_) = false ∧ (x.at_ == e.at_) = true ∧ decide (x.ix < e.ix) = false ∧ (x.ix == e.ix) = true ∧ decide (x.k < e.k) = false))) := by
  by_cases h1 : x.at_ < e.at_
  · exact .inl ⟨⟨.inl h1⟩, .inl (decide_eq_true h1)⟩
  · have b1 : decide (x.at_ < e.at_) = false := decide_eq_false h1
    by_cases h2 : x.at_ = e.at_
    · have b2 : (x.at_ == e.at_) = true := by simp [h2]
      by_cases h3 : x.ix < e.ix
      · exact .inl ⟨⟨.inr ⟨h2, .inl h3⟩⟩, .inr (.inl ⟨b1, b2, decide_eq_true h3⟩)⟩
      · have b3 : decide (x.ix < e.ix) = false := decide_eq_false h3
        by_cases h4 : x.ix = e.ix
        · have b4 : (x.ix == e.ix) = true := by simp [h4]
          by_cases h5 : x.k < e.k
          · exact .inl ⟨⟨.inr ⟨h2, .inr ⟨h4, h5⟩⟩⟩, .inr (.inr ⟨b1, b2, b3, b4, decide_eq_true h5⟩)⟩
          · refine .inr ⟨⟨?_⟩, .inr (.inr ⟨b1, b2, b3, b4, decide_eq_false h5⟩)⟩
            unfold Evt.Ahead
            omega
        · refine .inr ⟨⟨?_⟩, .inr (.inl ⟨b1, b2, b3, by simp [h4]⟩)⟩
          unfold Evt.Ahead
          omega
    · refine .inr ⟨⟨?_⟩, .inl ⟨b1, by simp [h2]⟩⟩
      unfold Evt.Ahead
      omega
theorem three_new {w : World} {b : Nat} {x : Evt} {ty : TypeId} (h : w.heap[b]? = some (.cells #[.int .i64 x.k, .int .i64 x.at_, .int .i64 x.ix] ty)) : ∀ j u, (valEv x)[j]? = some u → w.cell? ((⟨b, 0, none⟩ : Addr).add j) = some u := by
  intro m u hm
  have hm0 : m < 3 := by
    have h := (List.getElem?_eq_some_iff.1 hm).1
    simpa [valEv] using h
  rw [add_pl2, Nat.zero_add, (cells_at h m (by simp; omega)).1]
  rcases (show m = 0 ∨ m = 1 ∨ m = 2 by omega) with rfl | rfl | rfl
  all_goals
    simp [valEv] at hm
    subst hm
    rfl
theorem three_at3 {w : World} {b : Nat} {x : Evt} {ty : TypeId} (h : w.heap[b]? = some (.cells #[.int .i64 x.k, .int .i64 x.at_, .int .i64 x.ix] ty)) : w.cell? ⟨b, 0, none⟩ = some (.int .i64 x.k) ∧ w.cell? ⟨b, 1, none⟩ = some (.int .i64 x.at_) ∧ w.cell? ⟨b, 2, none⟩ = some (.int .i64 x.ix) :=
  ⟨(cells_at h 0 (by simp)).1, (cells_at h 1 (by simp)).1, (cells_at h 2 (by simp)).1⟩
theorem drop_cells {w : World} {b off : Nat} {L : List Evt} (h : EvCame w (some ⟨b, off, none⟩) L) (i : Nat) (hi : i ≤ L.length) : ∀ j u, (flatEv (L.drop i))[j]? = some u → w.cell? ((⟨b, off + i * 3, none⟩ : Addr).add j) = some u := by
  intro j u hu
  have e : (flatEv L)[i * 3 + j]? = some u := by
    rw [← List.take_append_drop i L, flatEv_append, List.getElem?_append_right (by rw [flatEv_length, List.length_take, Nat.min_eq_left hi]; omega), flatEv_length, List.length_take, Nat.min_eq_left hi, Nat.add_sub_cancel_left]
    exact hu
  have k := Evcame_cells h _ u e
  rw [add_pl2] at k ⊢
  rw [Nat.add_assoc]
  exact k
theorem Evown2 {w : World} {B : Nat} {t : TypeId} {v : Value} {L : List Evt} (h : w.ownsRow B t 3 v L.length (flatEv L)) : ∃ ad cap, v = .slice ad L.length cap ∧ EvCame w ad L ∧ L.length ≤ cap := by
  have h' := h
  obtain ⟨_, h⟩ := h
  rcases h with ⟨h1, h2⟩ | ⟨g, cap, cur, rfl, hB, hg, hc, hx⟩
  · have e : L = [] := List.length_eq_zero_iff.1 h2
    subst e
    exact ⟨none, 0, h1, EvCame.nil _ _, Nat.le_refl _⟩
  · obtain ⟨ad, cap2, e2, hcm⟩ := Evown h'
    cases e2
    exact ⟨_, _, rfl, hcm, hc⟩
theorem alloc_two' (w : World) (A B : Obj) : ((w.alloc A).alloc B).heap[w.heap.size + 1]? = some B := by
  have : w.heap.size + 1 = (w.alloc A).heap.size := by simp
  rw [this]
  exact alloc_last _ _
end Go.Proofs.YthhhomlgcefalahDoor
