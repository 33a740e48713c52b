/-
  The program's spans: ends, what counts, by contract.
-/
import Derived.Test.YthhhomlgcefalahDoorEvSw
import Derived.Test.YthhhomlgcefalahDoorDE0
import Derived.Laws.AppendOwnNone
import Derived.Laws.Small
namespace Go.Proofs.YthhhomlgcefalahDoor
open Go Go.RowKit

theorem both_fn (x y : Bool) (w : World) : Calls Tryd.prog 31 #[.bool x, .bool y] w fun e w' => e = .returned (.bool (x && y)) ∧ w' = w := by
  cases x <;> cases y
  all_goals
    go_enter Tryd.func31, Tryd.ntmps31
    go_wp2
    go_ret
    exact ⟨rfl, rfl⟩
theorem either_fn (x y : Bool) (w : World) : Calls Tryd.prog 30 #[.bool x, .bool y] w fun e w' => e = .returned (.bool (x || y)) ∧ w' = w := by
  cases x <;> cases y
  all_goals
    go_enter Tryd.func30, Tryd.ntmps30
    go_wp2
    go_ret
    exact ⟨rfl, rfl⟩
theorem but_fn (x y : Bool) (w : World) : Calls Tryd.prog 32 #[.bool x, .bool y] w fun e w' => e = .returned (.bool (x && !y)) ∧ w' = w := by
  cases x <;> cases y
  all_goals
    go_enter Tryd.func32, Tryd.ntmps32
    go_wp2
    go_ret
    exact ⟨rfl, rfl⟩
set_option maxRecDepth 100000 in
set_option maxHeartbeats 800000 in
theorem end_any (ad : Option Addr) (c : Nat) (A : List Spn) {w : World} (hr : SpCame w ad A) (hl : A.length ≤ 4000) {i : Nat} (hi : i ≤ 2 * A.length) :
    Calls Tryd.prog 48 #[.slice ad A.length c, .int .i64 (i : Nat)] w fun e w' => e = .returned (.int .i64 (endV A i)) ∧ w' = w := by
  obtain ⟨R, HR⟩ : ∃ R, HeldR (endV A i = R) := ⟨_, rfl⟩
  rw [unhideR HR]
  have e3 := unhideR HR
  unfold endV at e3
  have wl : IntKind.i64.wrap (2 * (A.length : Int)) = 2 * (A.length : Int) := iwrap (by omega) (by omega)
  by_cases h1 : i = 2 * A.length
  · rw [if_pos h1] at e3
    subst e3
    have t1 : ((i : Int) == 2 * (A.length : Int)) = true := by simp; omega
    clear HR hr
    go_enter Tryd.func48, Tryd.ntmps48
    go_wp2
    all_goals
      go_ret
      exact ⟨rfl, rfl⟩
  · rw [if_neg h1] at e3
    have t1 : ((i : Int) == 2 * (A.length : Int)) = false := by simp; omega
    obtain ⟨m, hm⟩ : ∃ m, m = i / 2 := ⟨_, rfl⟩
    rw [← hm] at e3
    have hml : m < A.length := by omega
    obtain ⟨b, off, rfl, _, hat⟩ := hr.at_ m hml
    obtain ⟨c0, c1⟩ := hat
    have em : (i : Int) / 2 = (m : Int) := by omega
    have em2 : IntKind.i64.wrap ((i : Int) / 2) = (m : Int) := by rw [em]; exact iwrap (by omega) (by omega)
    generalize A.getD m sp0 = s at *
    rcases Nat.mod_two_eq_zero_or_one i with e | e
    · rw [if_pos e] at e3
      subst e3
      have t2 : (i : Int) % 2 = 0 := by omega
      clear HR hr hm
      go_enter Tryd.func48, Tryd.ntmps48
      go_wp2
      all_goals
        go_ret
        exact ⟨rfl, rfl⟩
    · rw [if_neg (by omega)] at e3
      subst e3
      have t2 : (i : Int) % 2 = 1 := by omega
      clear HR hr hm
      go_enter Tryd.func48, Tryd.ntmps48
      go_wp2
      all_goals
        go_ret
        exact ⟨rfl, rfl⟩
end Go.Proofs.YthhhomlgcefalahDoor
