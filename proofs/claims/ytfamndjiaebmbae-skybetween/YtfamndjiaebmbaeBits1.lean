/-
  SameBits, Finite, Plus: by their contracts.
-/
import Derived.Test.YtfamndjiaebmbaeSqOf
import Derived.WalkKit
import Derived.ProofKit
import Derived.WalkLawsBesides
import Derived.Laws.Externs
namespace Go.Proofs.Ytfamndjiaebmbae
open Go Go.RowKit

theorem run_tobits (x : Nat) (w : World) : (callFunc 41 #[.float .f64 x]).run Try.prog w = .ok (.value (.int .u64 x)) w := by kernel_rfl
theorem plus_any (s a b : Nat) (w : World) :
    Calls Try.prog 29 #[.float .f64 s, .float .f64 a, .float .f64 b] w fun e w' => ∃ r, e = .returned (.float .f64 r) ∧ (∃ p, FOp .mul a b p ∧ FOp .add s p r) ∧ ∃ n, w' = w.drewN n := by
  have hm := fun t x y v => run_fmul (P := Try.prog) t x y v
  have ha := fun t x y v => run_fadd (P := Try.prog) t x y v
  go_enter Try.func29, Try.ntmps29
  go_wp2
  go_ret
  exact ⟨_, rfl, ⟨_, fnum_is _ _ _ _, fnum_is _ _ _ _⟩, _, rfl⟩

/-- what SameBits answers. -/
def nanB (x : Nat) : Bool := (FloatKind.f64.format.read x).isNaN
def sameB (x y : Nat) : Bool := if nanB x then nanB y else x == y
theorem order_self (x : Nat) : (FloatKind.f64.format.order x x != some .eq) = nanB x := by
  unfold Ieee.Format.order nanB
  cases e : FloatKind.f64.format.read x with
  | number s m i =>
    simp only [Ieee.Datum.order, Ieee.Datum.isNaN]
    simp [compare, compareOfLessAndEq]
  | infinity s => cases s <;> rfl
  | nan s t => rfl
theorem same_iff {x y : Nat} : sameB x y = true ↔ FSame x y := by
  unfold sameB FSame Nan
  have e : ∀ z, nanB z = (FloatKind.f64.format.read z).isNaN := fun _ => rfl
  rw [← e, ← e]
  by_cases h : nanB x = true
  · rw [if_pos h]
    constructor
    · intro h'; exact .inr ⟨h, h'⟩
    · rintro (rfl | ⟨_, h'⟩)
      · exact h
      · exact h'
  · rw [if_neg h]
    constructor
    · intro h'; exact .inl (by simpa using h')
    · rintro (rfl | ⟨h', _⟩)
      · simp
      · exact absurd h' h

theorem sameBits_any (x y : Nat) (w : World) :
    Calls Try.prog 20 #[.float .f64 x, .float .f64 y] w fun e w' => e = .returned (.bool (sameB x y)) ∧ w' = w := by
  have hx := order_self x
  have hy := order_self y
  unfold sameB
  cases hn : nanB x with
  | true =>
    rw [if_pos rfl]
    rw [hn] at hx
    go_enter Try.func20, Try.ntmps20
    go_wp2
    go_ret
    exact ⟨rfl, rfl⟩
  | false =>
    rw [if_neg (by decide)]
    rw [hn] at hx
    have hb := run_tobits
    have he : ((x : Int) == (y : Int)) = (x == y) := by
      by_cases h : x = y
      · subst h; simp
      · rw [beq_eq_false_iff_ne.2 h, beq_eq_false_iff_ne.2 (by omega)]
    go_enter Try.func20, Try.ntmps20
    go_wp2
    go_ret
    exact ⟨rfl, rfl⟩

theorem run_sqrt (x : Nat) (w : World) : (callFunc 50 #[.float .f64 x]).run Try.prog w = .ok (.value (.float .f64 (fsq x w))) (w.drewN (fsqd x)) := by
  rw [run_callFunc_extern (e := Extern.MathSqrt.sqrt) Try.func50 (by kernel_rfl) (by kernel_rfl) (by kernel_rfl) (by kernel_rfl)]
  have ee : Extern.MathSqrt.sqrt #[.float .f64 x] = (match FloatKind.f64.format.sqrt x with | some r => pure (.float .f64 r) | none => do pure (.float .f64 (← choose (.nanBits .f64 x x)))) := rfl
  rw [ee]
  cases e : FloatKind.f64.format.sqrt x with
  | some v =>
    have h1 : fsq x w = v := by unfold fsq; rw [e]
    have h2 : fsqd x = 0 := by unfold fsqd; rw [e]
    rw [h1, h2]
    simp
    rfl
  | none =>
    have h1 : fsq x w = (Question.nanBits .f64 x x).cut (w.tape w.drawn (.nanBits .f64 x x)) := by unfold fsq; rw [e]
    have h2 : fsqd x = 1 := by unfold fsqd; rw [e]
    rw [h1, h2]
    simp
    rfl
theorem mathSqrt_any (x : Nat) (w : World) : Calls Try.prog 28 #[.float .f64 x] w fun e w' => ∃ r, e = .returned (.float .f64 r) ∧ FSq x r ∧ ∃ n, w' = w.drewN n := by
  have hs := run_sqrt
  go_enter Try.func28, Try.ntmps28
  go_wp2
  go_ret
  exact ⟨_, rfl, fsq_is _ _, _, rfl⟩

end Go.Proofs.Ytfamndjiaebmbae
