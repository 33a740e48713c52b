/-
  Finite or not.
-/
import Derived.Test.YtngdemhhcablmakDoorFloatEv
import Derived.WalkKit
import Derived.ProofKit
namespace Go.Proofs.YtngdemhhcablmakDoor
open Go Go.RowKit

/-! finite or not -/
def finB (x : Nat) : Bool := match FloatKind.f64.format.read x with | .number .. => true | _ => false
theorem sub_self (x r : Nat) (h : FOp .sub x x r) : (FloatKind.f64.format.order r 0 == some .eq) = finB x := by
  unfold FOp floatBits at h
  simp only at h
  unfold Ieee.Format.sub at h
  unfold finB
  cases e : FloatKind.f64.format.read x with
  | number s m i =>
    rw [e] at h
    simp only [Ieee.Datum.opposite, Ieee.Datum.sum, Option.map_some] at h
    have ht : ∀ k : Nat, Ieee.signed s m k + Ieee.signed (!s) m k = 0 := fun k => by cases s <;> simp [Ieee.signed] <;> omega
    rw [ht] at h
    have h0 : r = 0 := by
      rw [h]
      unfold Ieee.Format.write Ieee.Format.nearest
      cases s <;> rfl
    rw [h0]
    show (FloatKind.f64.format.order 0 0 == some Ordering.eq) = true
    decide
  | infinity s =>
    rw [e] at h
    have : Ieee.Datum.sum (.infinity s) (Ieee.Datum.opposite (.infinity s)) = none := by cases s <;> rfl
    rw [this] at h
    have h : Nan r := h
    obtain ⟨s', t', e'⟩ := nan_is h
    unfold Ieee.Format.order
    rw [e']
    rfl
  | nan s t =>
    rw [e] at h
    have h : Nan r := h
    obtain ⟨s', t', e'⟩ := nan_is h
    unfold Ieee.Format.order
    rw [e']
    rfl
end Go.Proofs.YtngdemhhcablmakDoor
