/-
  Numbers of two words: the program's comparison, by contract.
-/
import Derived.Test.YtkdmeclbnnjdgalDoorWdP
import Derived.Test.YtkdmeclbnnjdgalDoorLooseA
namespace Go.Proofs.YtkdmeclbnnjdgalDoor
open Go Go.RowKit

def cmpN (x y : Nat) : Int := if x < y then -1 else if y < x then 1 else 0
theorem isNaNU_any (x : Nat) (w : World) : Calls Tryd.prog 121 #[.int .u64 (x : Nat)] w fun e w' => e = .returned (.bool false) ∧ w' = w := by
  go_enter Tryd.func121, Tryd.ntmps121
  go_wp2
  go_ret
  exact ⟨rfl, rfl⟩
set_option maxHeartbeats 800000 in
theorem compareU_any (x y : Nat) (w : World) : Calls Tryd.prog 113 #[.int .u64 (x : Nat), .int .u64 (y : Nat)] w fun e w' => e = .returned (.int .i64 (cmpN x y)) ∧ w' = w := by
  unfold cmpN
  by_cases h1 : x < y
  · rw [if_pos h1]
    go_enter Tryd.func113, Tryd.ntmps113
    go_wp2_with (go_at_call 121; refine (isNaNU_any _ _).mono ?_; rintro e w' ⟨rfl, rfl⟩)
    all_goals
      go_ret
      exact ⟨rfl, rfl⟩
  · rw [if_neg h1]
    by_cases h2 : y < x
    · rw [if_pos h2]
      go_enter Tryd.func113, Tryd.ntmps113
      go_wp2_with (go_at_call 121; refine (isNaNU_any _ _).mono ?_; rintro e w' ⟨rfl, rfl⟩)
      all_goals
        go_ret
        exact ⟨rfl, rfl⟩
    · rw [if_neg h2]
      go_enter Tryd.func113, Tryd.ntmps113
      go_wp2_with (go_at_call 121; refine (isNaNU_any _ _).mono ?_; rintro e w' ⟨rfl, rfl⟩)
      all_goals
        go_ret
        exact ⟨rfl, rfl⟩
def or2 (x y : Int) : Int := if x = 0 then y else x
set_option maxRecDepth 100000 in
set_option maxHeartbeats 800000 in
theorem or2_any (x y : Int) {b : Nat} {w : World} (h : w.heap[b]? = some (.cells #[.int .i64 x, .int .i64 y] 3)) : Calls Tryd.prog 112 #[.slice (some ⟨b, 0, none⟩) 2 2] w fun e w' => e = .returned (.int .i64 (or2 x y)) ∧ w' = w := by
  obtain ⟨R, HR⟩ : ∃ R, HeldR (or2 x y = R) := ⟨_, hideR rfl⟩
  rw [unhideR HR]
  have c0 := (cells_at h 0 (by simp)).1
  have c1 := (cells_at h 1 (by simp)).1
  clear h
  go_enter Tryd.func112, Tryd.ntmps112
  go_wp2
  go_loop [8] (fun kv => (kv = .int .i64 0) ∨ (kv = .int .i64 1 ∧ HeldR (x = 0)) ∨ (kv = .int .i64 2 ∧ HeldR (x = 0) ∧ HeldR (y = 0))) (fun kv => 3 - (intOf kv).toNat)
  case atStart => exact .inl rfl
  case round =>
    rcases hrel with rfl | ⟨rfl, h0⟩ | ⟨rfl, h0, h1⟩
    · by_cases hx : x = 0
      · have tx : (x == 0) = true := by simp [hx]
        go_wp2
        exact ⟨.inr (.inl ⟨rfl, hideR hx⟩), by simp [intOf]⟩
      · have tx : (x == 0) = false := by simp [hx]
        have e3 := unhideR HR
        unfold or2 at e3
        rw [if_neg hx] at e3
        subst e3
        clear HR
        go_wp2
        go_ret
        exact ⟨rfl, rfl⟩
    · by_cases hx : y = 0
      · have tx : (y == 0) = true := by simp [hx]
        go_wp2
        exact ⟨.inr (.inr ⟨rfl, h0, hideR hx⟩), by simp [intOf]⟩
      · have tx : (y == 0) = false := by simp [hx]
        have e3 := unhideR HR
        unfold or2 at e3
        rw [if_pos (unhideR h0)] at e3
        subst e3
        clear HR
        go_wp2
        go_ret
        exact ⟨rfl, rfl⟩
    · have e3 := unhideR HR
      unfold or2 at e3
      rw [if_pos (unhideR h0), unhideR h1] at e3
      subst e3
      clear HR
      go_wp2
      go_ret
      exact ⟨rfl, rfl⟩
theorem cmpN_or (m n : Nat) : or2 (cmpN (m / 18446744073709551616) (n / 18446744073709551616)) (cmpN (m % 18446744073709551616) (n % 18446744073709551616)) = cmpN m n := by
  unfold or2 cmpN
  split
  · rename_i h
    split <;> split <;> (try split) <;> (try split at h) <;> omega
  · rename_i h
    split <;> (try split) <;> (try split) <;> (try split) <;> omega
end Go.Proofs.YtkdmeclbnnjdgalDoor
