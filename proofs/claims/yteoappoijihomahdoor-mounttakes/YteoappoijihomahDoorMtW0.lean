/-
  The mount's laws: what their walks share.
-/
import Derived.Test.YteoappoijihomahDoorMtC
namespace Go.Proofs.YteoappoijihomahDoor
open Go Go.RowKit

theorem bne_no (x : Int) : (x != x) = false := by simp
theorem err_one {a : Nat → Addr} {E : Int} {x : Value} (h : ErrIs a E x) : x.oneCell' = true := by
  rcases h with ⟨_, rfl⟩ | ⟨_, _, _, rfl⟩ <;> rfl
theorem take_quiet {m : Mt} (h : Fine m) (c : Cmd) : (takeV m c).1.quiet = m.quiet ∨ (takeV m c).1.quiet = 0 := by
  unfold takeV
  split
  · exact .inl rfl
  · split
    · exact .inl rfl
    · have h2 : Fine { m with taken := true, num := c.num, quiet := 0 } := by
        obtain ⟨sa, sb, la, lb, x, y, slew, track, parked, st0, q0, p1⟩ := h
        exact ⟨sa, sb, la, lb, x, y, slew, track, parked, st0, Int.le_refl _, p1⟩
      exact .inr (do_fine h2 c).2.2.2.2.2.2
end Go.Proofs.YteoappoijihomahDoor
