/-
  meridianlaw1.coded by its contracts.
-/
import Derived.Test.YtilihjjkndlihabDoorSents
namespace Go.Proofs.YtilihjjkndlihabDoor
open Go.RowKit

theorem coded_sent {w : World} {a : Nat → Addr} (h : Sents w a) (k : Nat) (hk : k < 10) (c : Int) :
    Calls Tryd.prog 6 #[.iface 78 (.pointer (some (a k))), .int .i64 c] w fun e w' => e = .returned (.bool ((k : Int) + 1 == c)) ∧ Below w.heap.size w w' := by
  go_enter Tryd.func6, Tryd.ntmps6
  go_wp2_with (go_at_call 10; refine (code_sent h k hk).mono ?_; rintro e w' ⟨rfl, hb⟩)
  go_ret
  exact ⟨rfl, hb⟩
theorem coded_nil (c : Int) (w : World) :
    Calls Tryd.prog 6 #[.nilIface, .int .i64 c] w fun e w' => e = .returned (.bool (0 == c)) ∧ w' = w := by
  go_enter Tryd.func6, Tryd.ntmps6
  go_wp2_with (go_at_call 10; refine (code_nil _).mono ?_; rintro e w' ⟨rfl, rfl⟩)
  go_ret
  exact ⟨rfl, rfl⟩
end Go.Proofs.YtilihjjkndlihabDoor
