/-
  Rows of whole numbers by their block's type; the law's look whether a picture is small.
-/
import Derived.Test.YtmgnobeaacjdjajGreatDoorFrA
namespace Go.Proofs.YtmgnobeaacjdjajGreatDoor
open Go Go.RowKit

/-- whole numbers in a row of whole numbers. -/
def SmP (w : World) (o : Option Pic) (e : Ending) (w' : World) : Prop := ∃ q : Bool, e = .returned (.bool q) ∧ (q = true → ∃ p, o = some p ∧ p.L.length ≤ 700) ∧ w = w'
theorem small_any {w : World} {v : Value} {o : Option Pic} (h : PicArg w v o) : Calls Tryz.prog 6 #[v] w (SmP w o) := by
  cases h with
  | none =>
    have HF : HeldR (SmP w none (.returned (.bool false)) w) := ⟨false, rfl, (fun e => Bool.noConfusion e), rfl⟩
    go_enter Tryz.func6, Tryz.ntmps6
    go_wp2
    go_ret
    exact unhideR HF
  | @some b o cap ad p h hl =>
    have c2 := h.c2
    have HF : HeldR (SmP w (Option.some p) (.returned (.bool (decide ((p.L.length : Int) ≤ 700)))) w) := ⟨_, rfl, fun e => ⟨p, rfl, by have := of_decide_eq_true e; omega⟩, rfl⟩
    clear h
    go_enter Tryz.func6, Tryz.ntmps6
    go_wp2
    go_ret
    exact unhideR HF
theorem picArg_is {w : World} {v : Value} {p : Pic} (h : PicArg w v (some p)) : ∃ (b o cap : Nat) (ad : Option Addr), v = .pointer (some ⟨b, o, none⟩) ∧ PicAt w b o ad cap p ∧ p.L.length * 8 ≤ 140737488355328 := by
  cases h with
  | some h hl => exact ⟨_, _, _, _, rfl, h, hl⟩
theorem PicArg.below {w u : World} {v : Value} {o : Option Pic} (h : PicArg w v o) (k : Below w.heap.size w u) : PicArg u v o := by
  cases h with
  | none => exact .none
  | some h hl => exact .some (h.below k) hl
end Go.Proofs.YtmgnobeaacjdjajGreatDoor
