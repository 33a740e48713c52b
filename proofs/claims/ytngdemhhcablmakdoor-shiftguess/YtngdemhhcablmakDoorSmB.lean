/-
  The same bits, or both are no numbers: the document's, by contract.
-/
import Derived.Test.YtngdemhhcablmakDoorFloatEv
import Derived.WalkKit
import Derived.ProofKit
import Derived.WalkLawsBesides
import Derived.Laws.Externs
namespace Go.Proofs.YtngdemhhcablmakDoor
open Go Go.RowKit

theorem run_tobits (x : Nat) (w : World) : (callFunc 47 #[.float .f64 x]).run Tryd.prog w = .ok (.value (.int .u64 x)) w := by kernel_rfl
/-- what SameBits answers. -/
def nanB (x : Nat) : Bool := (FloatKind.f64.format.read x).isNaN
def sameB (x y : Nat) : Bool := if nanB x then nanB y else x == y
theorem order_self (x : Nat) : (FloatKind.f64.format.order x x != some .eq) = nanB x := by
  unfold Ieee.Format.order nanB
  cases e : FloatKind.f64.format.read x with
  | number s m i =>
    simp only [Ieee.Datum.order, Ieee.Datum.isNaN]
    simp [compare, compareOfLessAndEq]
  | infinity s => cases s <;> rfl
  | nan s t => rfl
theorem same_iff {x y : Nat} : sameB x y = true ↔ FSame x y := by
  unfold sameB FSame Nan
  have e : ∀ z, nanB z = (FloatKind.f64.format.read z).isNaN := fun _ => rfl
  rw [← e, ← e]
  by_cases h : nanB x = true
  · rw [if_pos h]
    constructor
    · intro h'; exact .inr ⟨h, h'⟩
    · rintro (rfl | ⟨_, h'⟩)
      · exact h
      · exact h'
  · rw [if_neg h]
    constructor
    · intro h'; exact .inl (by simpa using h')
    · rintro (rfl | ⟨h', _⟩)
      · simp
      · exact absurd h' h

theorem sameBits_any (x y : Nat) (w : World) :
    Calls Tryd.prog 31 #[.float .f64 x, .float .f64 y] w fun e w' => e = .returned (.bool (sameB x y)) ∧ w' = w := by
  have hx := order_self x
  have hy := order_self y
  unfold sameB
  cases hn : nanB x with
  | true =>
    rw [if_pos rfl]
    rw [hn] at hx
    go_enter Tryd.func31, Tryd.ntmps31
    go_wp2
    go_ret
    exact ⟨rfl, rfl⟩
  | false =>
    rw [if_neg (by decide)]
    rw [hn] at hx
    have hb := run_tobits
    have he : ((x : Int) == (y : Int)) = (x == y) := by
      by_cases h : x = y
      · subst h; simp
      · rw [beq_eq_false_iff_ne.2 h, beq_eq_false_iff_ne.2 (by omega)]
    go_enter Tryd.func31, Tryd.ntmps31
    go_wp2
    go_ret
    exact ⟨rfl, rfl⟩
end Go.Proofs.YtngdemhhcablmakDoor
