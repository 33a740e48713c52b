/-
  What is no number: math.IsNaN, by contract.
-/
import Derived.Test.YtmgnobeaacjdjajDoorFloatEv
import Derived.Deep.CutRange
namespace Go.Proofs.YtmgnobeaacjdjajDoor
open Go Go.RowKit

def nanI (x : Nat) : Bool := (FloatKind.f64.format.read x).isNaN
theorem order_selfI (x : Nat) : (FloatKind.f64.format.order x x != some .eq) = nanI x := by
  unfold Ieee.Format.order nanI
  cases e : FloatKind.f64.format.read x with
  | number s m i =>
    simp only [Ieee.Datum.order, Ieee.Datum.isNaN]
    simp [compare, compareOfLessAndEq]
  | infinity s => cases s <;> rfl
  | nan s t => rfl
theorem isNaN_any (x : Nat) (w : World) : Calls Tryd.prog 41 #[.float .f64 x] w fun e w' => e = .returned (.bool (nanI x)) ∧ w' = w := by
  have h := order_selfI x
  go_enter Tryd.func41, Tryd.ntmps41
  go_wp2
  go_ret
  exact ⟨rfl, rfl⟩
end Go.Proofs.YtmgnobeaacjdjajDoor
