/-
  A row that lists some of the sentinels alone: where those of a bound and a wrong shape lie.
-/
import Derived.Test.YtngdemhhcablmakDoorLaid0
import Derived.Test.YtngdemhhcablmakDoorKitA
namespace Go.Proofs.YtngdemhhcablmakDoor
open Go.RowKit Go.ChangeShapes

theorem er2_of_laid {L : List (String × DataW Unit)} {W : World} (k1 k4 : Nat) (h : laidMet Tryd.prog L W) (hall : L.all (sentB Tryd.prog 26 ("*" ++ "errors.errorString")) = true) (h1 : (L[k1]?).bind (fun x => Tryd.prog.globalNamed x.1) = some 1) (h4 : (L[k4]?).bind (fun x => Tryd.prog.globalNamed x.1) = some 0) : ∃ a, Er2 W a := by
  obtain ⟨ps, hL, hnd, hrows⟩ := h
  obtain ⟨ads, hlen, hat, hin, hn⟩ := laid_list Tryd.underlying26 rowP Tryd.underlying120 Tryd.underlying142 rfl rfl Tryd.underlying9 cellsS cellsStr _ ps hall hL hnd hrows
  have one : ∀ (k g : Nat), (L[k]?).bind (fun x => Tryd.prog.globalNamed x.1) = some g → ∃ ad, W.cell? ⟨g, 0, none⟩ = some (.iface 120 (.pointer (some ad))) ∧ g < W.heap.size := by
    intro k g hk
    cases hx : L[k]? with
    | none => rw [hx] at hk; cases hk
    | some x =>
      rw [hx] at hk
      have hg : Tryd.prog.globalNamed x.1 = some g := hk
      have hkl := (List.getElem?_eq_some_iff.1 hx).1
      have ha : ads[k]? = some (ads[k]'(by omega)) := List.getElem?_eq_getElem _
      have hc : W.cell? ⟨g, 0, none⟩ = some (.iface 120 (.pointer (some (ads[k]'(by omega))))) := by simpa using World.var?_cell hg (hat k x _ hx ha).1 0
      refine ⟨_, hc, ?_⟩
      rcases Nat.lt_or_ge g W.heap.size with l | l
      · exact l
      · simp [World.cell?, Array.getElem?_eq_none l] at hc
  obtain ⟨a1, c1, b1⟩ := one k1 _ h1
  obtain ⟨a4, c4, b4⟩ := one k4 _ h4
  exact ⟨fun i => if i = 1 then a1 else a4, c1, c4, b1, b4⟩
end Go.Proofs.YtngdemhhcablmakDoor
