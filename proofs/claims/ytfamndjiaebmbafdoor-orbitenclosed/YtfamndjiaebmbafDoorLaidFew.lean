/-
  A row that lists some of the sentinels alone: where the one of a wrong shape lies.
-/
import Derived.Test.YtfamndjiaebmbafDoorLaid
import Derived.Test.YtfamndjiaebmbafDoorOrbEnc
namespace Go.Proofs.YtfamndjiaebmbafDoor
open Go.RowKit Go.ChangeShapes

theorem shape_of_laid {L : List (String × DataW Unit)} {W : World} (k : Nat) (h : laidMet Tryd.prog L W) (hall : L.all (sentB Tryd.prog 33 ("*" ++ "errors.errorString")) = true) (hk : (L[k]?).bind (fun x => Tryd.prog.globalNamed x.1) = some 0) : ∃ ad, ShapeAt W ad := by
  obtain ⟨ps, hL, hnd, hrows⟩ := h
  obtain ⟨ads, hlen, hat, hin, hn⟩ := laid_list Tryd.underlying33 rowP Tryd.underlying111 Tryd.underlying135 rfl rfl Tryd.underlying9 cellsS cellsStr _ ps hall hL hnd hrows
  cases hx : L[k]? with
  | none => rw [hx] at hk; cases hk
  | some x =>
    rw [hx] at hk
    have hg : Tryd.prog.globalNamed x.1 = some 0 := hk
    have hkl := (List.getElem?_eq_some_iff.1 hx).1
    have ha : ads[k]? = some (ads[k]'(by omega)) := List.getElem?_eq_getElem _
    have hc : W.cell? ⟨0, 0, none⟩ = some (.iface 111 (.pointer (some (ads[k]'(by omega))))) := by simpa using World.var?_cell hg (hat k x _ hx ha).1 0
    refine ⟨_, hc, ?_⟩
    rcases Nat.lt_or_ge 0 W.heap.size with l | l
    · exact l
    · simp [World.cell?, Array.getElem?_eq_none l] at hc
end Go.Proofs.YtfamndjiaebmbafDoor
