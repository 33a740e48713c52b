/-
  The first rise or set: in all events, or in the rises and sets alone. Nothing of the program's text.
-/
import Derived.Test.YtlhjmmcimhceeagDoorEvAl
import Derived.Test.YtlhjmmcimhceeagDoorEvPg
namespace Go.Proofs.YtlhjmmcimhceeagDoor

theorem first_part (f : Int) (L : List Evt) : ∀ k, k ≤ L.length →
    (firstK f L k < 0 ∧ (L.take k).find? (fun e => decide (e.k ≤ 2) && decide (f ≤ e.at_)) = none) ∨
    ∃ j : Nat, firstK f L k = (j : Int) ∧ (L.take k).find? (fun e => decide (e.k ≤ 2) && decide (f ≤ e.at_)) = some (L.getD j ev0)
  | 0, _ => .inl ⟨by show (-1 : Int) < 0; omega, rfl⟩
  | k + 1, hk => by
    have e : L.take (k + 1) = L.take k ++ [L.getD k ev0] := by
      rw [List.take_add_one, List.getD_eq_getElem?_getD, List.getElem?_eq_getElem (by omega)]
      rfl
    rw [e, List.find?_append]
    unfold firstK
    rcases first_part f L k (by omega) with ⟨h1, h2⟩ | ⟨j, h1, h2⟩
    · rw [h2, Option.none_or]
      by_cases q : (L.getD k ev0).k ≤ 2 ∧ f ≤ (L.getD k ev0).at_
      · refine .inr ⟨k, by rw [if_pos ⟨h1, q.1, q.2⟩], ?_⟩
        rw [List.find?_cons, decide_eq_true q.1, decide_eq_true q.2]
        rfl
      · refine .inl ⟨by rw [if_neg (fun g => q ⟨g.2.1, g.2.2⟩)]; exact h1, ?_⟩
        rw [List.find?_cons]
        have : (decide ((L.getD k ev0).k ≤ 2) && decide (f ≤ (L.getD k ev0).at_)) = false := by
          rw [Bool.and_eq_false_iff, decide_eq_false_iff_not, decide_eq_false_iff_not]
          by_cases g : (L.getD k ev0).k ≤ 2
          · exact .inr (fun g2 => q ⟨g, g2⟩)
          · exact .inl g
        rw [this]
        rfl
    · refine .inr ⟨j, by rw [if_neg (by omega)]; exact h1, ?_⟩
      rw [h2]
      rfl
theorem first_find (f : Int) (L : List Evt) : firstV f L = ((L.filter (fun e => decide (e.k ≤ 2))).find? (fun e => decide (f ≤ e.at_))).getD ev0 ∧ someV f L = ((L.filter (fun e => decide (e.k ≤ 2))).find? (fun e => decide (f ≤ e.at_))).isSome := by
  have h := first_part f L L.length (Nat.le_refl _)
  rw [List.take_length] at h
  have ef : (fun a : Evt => decide (decide (a.k ≤ 2) = true ∧ decide (f ≤ a.at_) = true)) = fun e => decide (e.k ≤ 2) && decide (f ≤ e.at_) := by
    funext a
    by_cases q1 : a.k ≤ 2 <;> by_cases q2 : f ≤ a.at_ <;> simp [q1, q2]
  rw [List.find?_filter, ef]
  unfold firstV someV
  rcases h with ⟨h1, h2⟩ | ⟨j, h1, h2⟩
  · rw [if_pos h1, h2, decide_eq_false (by omega)]
    exact ⟨rfl, rfl⟩
  · rw [h1, h2, if_neg (by omega), decide_eq_true (by omega)]
    exact ⟨rfl, rfl⟩
theorem first_is (f : Int) (t : Tr) (lev : Int) {S : List Evt} (hS : S = sortV (crosses t lev (t.L.length - 1))) : firstV f (eventsV t lev) = (S.find? (fun e => decide (f ≤ e.at_))).getD ev0 ∧ someV f (eventsV t lev) = (S.find? (fun e => decide (f ≤ e.at_))).isSome := by
  have h := first_find f (eventsV t lev)
  rw [filter_crosses, ← hS] at h
  exact h
end Go.Proofs.YtlhjmmcimhceeagDoor
