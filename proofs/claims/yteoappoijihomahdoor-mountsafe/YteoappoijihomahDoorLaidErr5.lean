/-
  A row that lists some of the sentinels alone: where those that a mount tells lie.
-/
import Derived.Test.YteoappoijihomahDoorLaid
import Derived.Test.YteoappoijihomahDoorMtErr
namespace Go.Proofs.YteoappoijihomahDoor
open Go.RowKit Go.ChangeShapes

theorem errs5_of_laid {L : List (String × DataW Unit)} {W : World} (k1 k4 k5 k6 k9 : Nat) (h : laidMet Tryd.prog L W) (hall : L.all (sentB Tryd.prog 30 ("*" ++ "errors.errorString")) = true) (h1 : (L[k1]?).bind (fun x => Tryd.prog.globalNamed x.1) = some 1) (h4 : (L[k4]?).bind (fun x => Tryd.prog.globalNamed x.1) = some 0) (h5 : (L[k5]?).bind (fun x => Tryd.prog.globalNamed x.1) = some 6) (h6 : (L[k6]?).bind (fun x => Tryd.prog.globalNamed x.1) = some 2) (h9 : (L[k9]?).bind (fun x => Tryd.prog.globalNamed x.1) = some 9) : ∃ a, Errs5 W a := by
  obtain ⟨ps, hL, hnd, hrows⟩ := h
  obtain ⟨ads, hlen, hat, hin, hn⟩ := laid_list Tryd.underlying30 rowP Tryd.underlying205 Tryd.underlying225 rfl rfl Tryd.underlying9 cellsS cellsStr _ ps hall hL hnd hrows
  have one : ∀ (k g : Nat), (L[k]?).bind (fun x => Tryd.prog.globalNamed x.1) = some g → ∃ ad, W.cell? ⟨g, 0, none⟩ = some (.iface 205 (.pointer (some ad))) ∧ g < W.heap.size := by
    intro k g hk
    cases hx : L[k]? with
    | none => rw [hx] at hk; cases hk
    | some x =>
      rw [hx] at hk
      have hg : Tryd.prog.globalNamed x.1 = some g := hk
      have hkl := (List.getElem?_eq_some_iff.1 hx).1
      have ha : ads[k]? = some (ads[k]'(by omega)) := List.getElem?_eq_getElem _
      have hc : W.cell? ⟨g, 0, none⟩ = some (.iface 205 (.pointer (some (ads[k]'(by omega))))) := by simpa using World.var?_cell hg (hat k x _ hx ha).1 0
      refine ⟨_, hc, ?_⟩
      rcases Nat.lt_or_ge g W.heap.size with l | l
      · exact l
      · simp [World.cell?, Array.getElem?_eq_none l] at hc
  obtain ⟨a1, c1, b1⟩ := one k1 _ h1
  obtain ⟨a4, c4, b4⟩ := one k4 _ h4
  obtain ⟨a5, c5, b5⟩ := one k5 _ h5
  obtain ⟨a6, c6, b6⟩ := one k6 _ h6
  obtain ⟨a9, c9, b9⟩ := one k9 _ h9
  exact ⟨fun i => if i = 1 then a1 else if i = 4 then a4 else if i = 5 then a5 else if i = 6 then a6 else a9, c1, c4, c5, c6, c9, b1, b4, b5, b6, b9⟩
end Go.Proofs.YteoappoijihomahDoor
