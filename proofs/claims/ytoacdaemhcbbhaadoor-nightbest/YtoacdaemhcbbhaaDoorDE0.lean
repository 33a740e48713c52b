/-
  The program's numbers within limits, by contract.
-/
import Derived.Test.YtoacdaemhcbbhaaDoorKitA
namespace Go.Proofs.YtoacdaemhcbbhaaDoor
open Go Go.RowKit

theorem within_any (n m : Int) (w : World) (h0 : 0 ≤ m) (h1 : m ≤ 4611686018427387904) : Calls Tryd.prog 84 #[.int .i64 n, .int .i64 m] w fun e w' => e = .returned (.bool (decide (-m ≤ n) && decide (n ≤ m))) ∧ w' = w := by
  have hw : IntKind.i64.wrap (-m) = -m := iwrap (by omega) (by omega)
  by_cases a : -m ≤ n
  · by_cases b : n ≤ m
    · have ha : decide (-m ≤ n) = true := decide_eq_true a
      have hb : decide (n ≤ m) = true := decide_eq_true b
      rw [ha, hb]
      go_enter Tryd.func84, Tryd.ntmps84
      go_wp2
      go_ret
      exact ⟨rfl, rfl⟩
    · have ha : decide (-m ≤ n) = true := decide_eq_true a
      have hb : decide (n ≤ m) = false := decide_eq_false b
      rw [ha, hb]
      go_enter Tryd.func84, Tryd.ntmps84
      go_wp2
      go_ret
      exact ⟨rfl, rfl⟩
  · have ha : decide (-m ≤ n) = false := decide_eq_false a
    rw [ha, Bool.false_and]
    go_enter Tryd.func84, Tryd.ntmps84
    go_wp2
    go_ret
    exact ⟨rfl, rfl⟩
end Go.Proofs.YtoacdaemhcbbhaaDoor
