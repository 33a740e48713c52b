/-
  A cell that came in, its numbers' bounds.
-/
import Derived.Test.YtkdmeclbnnjdgalDoorAtArg
import Derived.Lib.SmallJoins
namespace Go.Proofs.YtkdmeclbnnjdgalDoor
open Go Go.RowKit Go.Joins

section
variable {H : Type} {enc : TypeId × Value → H} {w : World} {base : Nat} {spare : Nat → Bool} {held : Bool}
theorem int_of_trodS {P : Program} {e : TypeId} {n : Nat} {cs : List Value} {y : DataW H × List MemPlace} (he : P.underlying e = some (.int .i64)) (h : DataW.trod enc P w base spare held n e cs = some y) : ∃ b, cs = [.int .i64 b] ∧ i64B b := by
  cases n with
  | zero => simp [DataW.trod] at h
  | succ n =>
    unfold DataW.trod at h
    rw [he] at h
    split at h
    all_goals try (rename_i e1; cases e1)
    all_goals try (rename_i e1 e2; cases e1)
    all_goals try cases h
    · split at h
      · rename_i q
        have q2 := q.2
        simp only [Lit.wf, Bool.and_eq_true, decide_eq_true_eq] at q2
        have h1 : IntKind.i64.min = -9223372036854775808 := by decide
        have h2 : IntKind.i64.max = 9223372036854775807 := by decide
        exact ⟨_, rfl, by unfold i64B; omega⟩
      · cases h
set_option maxRecDepth 100000 in
theorem sq_cameW {r : Reach} {b0 : Nat} {v : Value} {d : DataW H} {p : List MemPlace} (hv : Value.okWide Tryd.prog w r b0 56 v) (h : DataW.Trod enc Tryd.prog w base spare held 56 v d p) : ∃ s : Sq, v = s.val ∧ SqOk s := by
  obtain ⟨v0, v1, v2, v3, y0, y1, y2, y3, n, rfl, rfl, rfl, h0, h1, h2, h3⟩ := open_agg4 Tryd.underlying56 (by kernel_rfl) (by kernel_rfl) hv h
  obtain ⟨f, e0, k0⟩ := int_of_trodS Tryd.underlying3 h0
  obtain ⟨l, e1, k1⟩ := int_of_trodS Tryd.underlying3 h1
  obtain ⟨c, e2, k2⟩ := int_of_trodS Tryd.underlying3 h2
  obtain ⟨q, e3, k3⟩ := int_of_trodS Tryd.underlying3 h3
  cases e0
  cases e1
  cases e2
  cases e3
  exact ⟨⟨f, l, c, q⟩, rfl, ⟨k0, k1, k2, k3⟩⟩
end
end Go.Proofs.YtkdmeclbnnjdgalDoor
