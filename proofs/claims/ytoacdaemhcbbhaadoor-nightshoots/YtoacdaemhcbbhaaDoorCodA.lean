/-
  Where the errors of a bound, of a wrong shape, of a limit lie. Errors by their numbers: the law's coded, by contracts.
-/
import Derived.Test.YtoacdaemhcbbhaaDoorKitA
import Derived.Test.YtoacdaemhcbbhaaDoorSenA
namespace Go.Proofs.YtoacdaemhcbbhaaDoor
open Go Go.RowKit

structure Errs (w : World) (a : Nat → Addr) : Prop where
  e1 : w.cell? ⟨0, 0, none⟩ = some (.iface 190 (.pointer (some (a 1))))
  e4 : w.cell? ⟨2, 0, none⟩ = some (.iface 190 (.pointer (some (a 4))))
  e5 : w.cell? ⟨7, 0, none⟩ = some (.iface 190 (.pointer (some (a 5))))
  b1 : 0 < w.heap.size
  b4 : 2 < w.heap.size
  b5 : 7 < w.heap.size
theorem Errs.below {w u : World} {a : Nat → Addr} (h : Errs w a) (k : Below w.heap.size w u) : Errs u a :=
  ⟨(k.cell (p := ⟨0, 0, none⟩) h.b1).trans h.e1, (k.cell (p := ⟨2, 0, none⟩) h.b4).trans h.e4, (k.cell (p := ⟨7, 0, none⟩) h.b5).trans h.e5, Nat.lt_of_lt_of_le h.b1 k.size, Nat.lt_of_lt_of_le h.b4 k.size, Nat.lt_of_lt_of_le h.b5 k.size⟩
end Go.Proofs.YtoacdaemhcbbhaaDoor
namespace Go.Proofs.YtoacdaemhcbbhaaDoor
open Go Go.RowKit

theorem coded_sent {w : World} {a : Nat → Addr} (h : Sents w a) (k : Nat) (hk : k < 10) (c : Int) :
    Calls Tryd.prog 11 #[.iface 190 (.pointer (some (a k))), .int .i64 c] w fun e w' => e = .returned (.bool ((k : Int) + 1 == c)) ∧ Below w.heap.size w w' := by
  go_enter Tryd.func11, Tryd.ntmps11
  go_wp2_with (go_at_call 29; refine (code_sent h k hk).mono ?_; rintro e w' ⟨rfl, hb⟩)
  go_ret
  exact ⟨rfl, hb⟩
theorem coded_nil (c : Int) (w : World) :
    Calls Tryd.prog 11 #[.nilIface, .int .i64 c] w fun e w' => e = .returned (.bool (0 == c)) ∧ w' = w := by
  go_enter Tryd.func11, Tryd.ntmps11
  go_wp2_with (go_at_call 29; refine (code_nil _).mono ?_; rintro e w' ⟨rfl, rfl⟩)
  go_ret
  exact ⟨rfl, rfl⟩
/-- the error of a number. -/
theorem coded_err {w : World} {a : Nat → Addr} (h : Sents w a) {E : Int} {x : Value} (hx : ErrIs a E x) :
    Calls Tryd.prog 11 #[x, .int .i64 E] w fun e w' => e = .returned (.bool true) ∧ Below w.heap.size w w' := by
  rcases hx with ⟨rfl, rfl⟩ | ⟨k, hk, rfl, rfl⟩
  · refine (coded_nil 0 w).mono ?_
    rintro e w' ⟨rfl, rfl⟩
    exact ⟨rfl, Below.refl _ _⟩
  · refine (coded_sent h k hk _).mono ?_
    rintro e w' ⟨rfl, hb⟩
    refine ⟨?_, hb⟩
    rw [show ((k : Int) + 1 == (k : Int) + 1) = true from beq_self_eq_true _]
theorem Sents.errs {w : World} {a : Nat → Addr} (h : Sents w a) : Errs w a := ⟨h.g1, h.g4, h.g5, by have := h.big; omega, by have := h.big; omega, by have := h.big; omega⟩
end Go.Proofs.YtoacdaemhcbbhaaDoor
