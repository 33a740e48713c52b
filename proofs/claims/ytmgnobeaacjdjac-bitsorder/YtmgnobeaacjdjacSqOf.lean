/-
  Roots.
-/
import Derived.Test.YtmgnobeaacjdjacFloatEv
namespace Go.Proofs.Ytmgnobeaacjdjac
open Go Go.RowKit

/-! roots -/
def FSq (x r : Nat) : Prop :=
  match FloatKind.f64.format.sqrt x with
  | some v => r = v
  | none => Nan r
def fsq (x : Nat) (w : World) : Nat :=
  match FloatKind.f64.format.sqrt x with
  | some v => v
  | none => (Question.nanBits .f64 x x).cut (w.tape w.drawn (.nanBits .f64 x x))
def fsqd (x : Nat) : Nat :=
  match FloatKind.f64.format.sqrt x with
  | some _ => 0
  | none => 1
theorem fsq_is (x : Nat) (w : World) : FSq x (fsq x w) := by
  unfold FSq fsq
  split
  · rfl
  · exact nan_cut x x _
theorem FSq.same {x r x' r' : Nat} (h : FSq x r) (h' : FSq x' r') (hx : FSame x x') : FSame r r' := by
  unfold FSq at h h'
  rcases hx with rfl | ⟨n1, n2⟩
  · cases e : FloatKind.f64.format.sqrt x with
    | none => rw [e] at h h'; exact .inr ⟨h, h'⟩
    | some v => rw [e] at h h'; exact .inl (h.trans h'.symm)
  · obtain ⟨s, t, e⟩ := nan_is n1
    obtain ⟨s', t', e'⟩ := nan_is n2
    have z : FloatKind.f64.format.sqrt x = none := by unfold Ieee.Format.sqrt; rw [e]; rfl
    have z' : FloatKind.f64.format.sqrt x' = none := by unfold Ieee.Format.sqrt; rw [e']; rfl
    rw [z] at h
    rw [z'] at h'
    exact .inr ⟨h, h'⟩
end Go.Proofs.Ytmgnobeaacjdjac
