/-
  Errors by their numbers: the law's coded, by contracts.
-/
import Derived.Test.YtkdmeclbnnjdgalDoorSenA
import Derived.Test.YtkdmeclbnnjdgalDoorErrFew
import Derived.Test.YtkdmeclbnnjdgalDoorKitA
namespace Go.Proofs.YtkdmeclbnnjdgalDoor
open Go Go.RowKit

theorem coded_sent {w : World} {a : Nat → Addr} (h : Sents w a) (k : Nat) (hk : k < 10) (c : Int) :
    Calls Tryd.prog 8 #[.iface 207 (.pointer (some (a k))), .int .i64 c] w fun e w' => e = .returned (.bool ((k : Int) + 1 == c)) ∧ Below w.heap.size w w' := by
  go_enter Tryd.func8, Tryd.ntmps8
  go_wp2_with (go_at_call 31; refine (code_sent h k hk).mono ?_; rintro e w' ⟨rfl, hb⟩)
  go_ret
  exact ⟨rfl, hb⟩
theorem coded_nil (c : Int) (w : World) :
    Calls Tryd.prog 8 #[.nilIface, .int .i64 c] w fun e w' => e = .returned (.bool (0 == c)) ∧ w' = w := by
  go_enter Tryd.func8, Tryd.ntmps8
  go_wp2_with (go_at_call 31; refine (code_nil _).mono ?_; rintro e w' ⟨rfl, rfl⟩)
  go_ret
  exact ⟨rfl, rfl⟩
/-- the error of a number. -/
theorem coded_err {w : World} {a : Nat → Addr} (h : Sents w a) {E : Int} {x : Value} (hx : ErrIs a E x) :
    Calls Tryd.prog 8 #[x, .int .i64 E] w fun e w' => e = .returned (.bool true) ∧ Below w.heap.size w w' := by
  rcases hx with ⟨rfl, rfl⟩ | ⟨k, hk, rfl, rfl⟩
  · refine (coded_nil 0 w).mono ?_
    rintro e w' ⟨rfl, rfl⟩
    exact ⟨rfl, Below.refl _ _⟩
  · refine (coded_sent h k hk _).mono ?_
    rintro e w' ⟨rfl, hb⟩
    refine ⟨?_, hb⟩
    rw [show ((k : Int) + 1 == (k : Int) + 1) = true from beq_self_eq_true _]
theorem Sents.errs {w : World} {a : Nat → Addr} (h : Sents w a) : Errs w a := ⟨h.g1, h.g4, h.g5, by have := h.big; omega, by have := h.big; omega, by have := h.big; omega⟩
end Go.Proofs.YtkdmeclbnnjdgalDoor
