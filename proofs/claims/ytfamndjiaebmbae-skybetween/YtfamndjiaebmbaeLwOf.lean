/-
  Bits of 64, or no number.
-/
import Derived.Test.YtfamndjiaebmbaeInfF
import Derived.Laws.FloatBits
namespace Go.Proofs.Ytfamndjiaebmbae
open Go Go.RowKit

/-- bits of 64, or no number. -/
def Lw (x : Nat) : Prop := nanI x = true ∨ x < 18446744073709551616
theorem Lw.lt {x : Nat} (h : Lw x) (k : finB x = true) : x < 18446744073709551616 := by
  rcases h with h | h
  · rw [fin_parts, h] at k
    cases k
  · exact h
theorem lw_op {op : BinOp} {x y r : Nat} (h : FOp op x y r) : Lw r := by
  unfold FOp at h
  cases e : floatBits op .f64 x y with
  | some v =>
    rw [e] at h
    subst h
    have hw : (2 : Nat) ^ FloatKind.f64.format.width = 18446744073709551616 := by decide
    refine .inr ?_
    rw [← hw]
    unfold floatBits at e
    split at e
    · exact Ieee.Format.add_lt _ e
    · exact Ieee.Format.sub_lt _ e
    · exact Ieee.Format.mul_lt _ e
    · exact Ieee.Format.div_lt _ e
    · cases e
  | none =>
    rw [e] at h
    exact .inl h
end Go.Proofs.Ytfamndjiaebmbae
