/-
  Sets of numbers with a point.
-/
import Derived.Test.YtfamndjiaebmbafDoorSqOf
import Derived.WalkKit
import Derived.ProofKit
import Derived.WalkLawsBesides
import Derived.Laws.Externs
import Derived.Test.YtfamndjiaebmbafDoorLoose
import Derived.Deep.RegionWith
import Derived.Deep.QuietTactic
namespace Go.Proofs.YtfamndjiaebmbafDoor
open Go Go.RowKit

def HeldR (p : Prop) : Prop := p
theorem hideR {p : Prop} (h : p) : HeldR p := h
theorem unhideR {p : Prop} (h : HeldR p) : p := h
theorem below_far {w v : World} {n : Nat} (k : Below (w.drewN n).heap.size (w.drewN n) v) : Below w.heap.size w v := (below_drewN (Below.refl w.heap.size w) n).trans k
def FSet (e : FE) (v : Value) : Prop := ∃ r, v = .float .f64 r ∧ Ev e r
def QSet (e : FE) (v : Value) : Prop := ∃ r t, v = .float .f64 r ∧ Ev e t ∧ FSq t r
theorem ev_some : ∀ e : FE, ∃ r, Ev e r
  | .num x => ⟨x, .num x⟩
  | .op o a b => by
    obtain ⟨x, hx⟩ := ev_some a
    obtain ⟨y, hy⟩ := ev_some b
    cases e : floatBits o .f64 x y with
    | some v => exact ⟨v, .op hx hy (by unfold FOp; rw [e])⟩
    | none => exact ⟨(Question.nanBits .f64 x y).cut 0, .op hx hy (by unfold FOp; rw [e]; exact nan_cut x y 0)⟩
theorem fset_some (e : FE) : ∃ v, FSet e v := by
  obtain ⟨r, h⟩ := ev_some e
  exact ⟨_, r, rfl, h⟩
theorem qset_some (e : FE) : ∃ v, QSet e v := by
  obtain ⟨r, h⟩ := ev_some e
  cases hq : FloatKind.f64.format.sqrt r with
  | some v => exact ⟨_, v, r, rfl, h, by unfold FSq; rw [hq]⟩
  | none => exact ⟨_, _, r, rfl, h, by unfold FSq; rw [hq]; exact nan_cut r r 0⟩
def lenE (x y z : Nat) : FE := .op .add (.op .add (.op .mul (.num x) (.num x)) (.op .mul (.num y) (.num y))) (.op .mul (.num z) (.num z))
end Go.Proofs.YtfamndjiaebmbafDoor
