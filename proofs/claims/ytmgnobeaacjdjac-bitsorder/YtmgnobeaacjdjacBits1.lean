/-
  SameBits, Finite, Plus: by their contracts.
-/
import Derived.Test.YtmgnobeaacjdjacSqOf
import Derived.Test.YtmgnobeaacjdjacBits0
import Derived.WalkKit
import Derived.ProofKit
import Derived.WalkLawsBesides
import Derived.Laws.Externs
namespace Go.Proofs.Ytmgnobeaacjdjac
open Go Go.RowKit

theorem run_sqrt (x : Nat) (w : World) : (callFunc 34 #[.float .f64 x]).run Try.prog w = .ok (.value (.float .f64 (fsq x w))) (w.drewN (fsqd x)) := by
  rw [run_callFunc_extern (e := Extern.MathSqrt.sqrt) Try.func34 (by kernel_rfl) (by kernel_rfl) (by kernel_rfl) (by kernel_rfl)]
  have ee : Extern.MathSqrt.sqrt #[.float .f64 x] = (match FloatKind.f64.format.sqrt x with | some r => pure (.float .f64 r) | none => do pure (.float .f64 (← choose (.nanBits .f64 x x)))) := rfl
  rw [ee]
  cases e : FloatKind.f64.format.sqrt x with
  | some v =>
    have h1 : fsq x w = v := by unfold fsq; rw [e]
    have h2 : fsqd x = 0 := by unfold fsqd; rw [e]
    rw [h1, h2]
    simp
    rfl
  | none =>
    have h1 : fsq x w = (Question.nanBits .f64 x x).cut (w.tape w.drawn (.nanBits .f64 x x)) := by unfold fsq; rw [e]
    have h2 : fsqd x = 1 := by unfold fsqd; rw [e]
    rw [h1, h2]
    simp
    rfl
theorem mathSqrt_any (x : Nat) (w : World) : Calls Try.prog 17 #[.float .f64 x] w fun e w' => ∃ r, e = .returned (.float .f64 r) ∧ FSq x r ∧ ∃ n, w' = w.drewN n := by
  have hs := run_sqrt
  go_enter Try.func17, Try.ntmps17
  go_wp2
  go_ret
  exact ⟨_, rfl, fsq_is _ _, _, rfl⟩

end Go.Proofs.Ytmgnobeaacjdjac
