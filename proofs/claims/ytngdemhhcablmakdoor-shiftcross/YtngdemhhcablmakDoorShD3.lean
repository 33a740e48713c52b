/-
  The first of the greatest: the program's, by contract; its Best and Proved.
-/
import Derived.Test.YtngdemhhcablmakDoorShD1
namespace Go.Proofs.YtngdemhhcablmakDoor
open Go Go.RowKit

set_option maxRecDepth 100000 in
theorem firstGreatest_any {w : World} {ad : Option Addr} {cap : Nat} {L : List Int} (hr : ICame w ad L) (hl : L.length ≤ 65536) (h0 : 0 < L.length) :
    Calls Tryd.prog 38 #[.slice ad L.length cap] w fun e w' => e = .returned (.int .i64 (bestI L L.length : Nat)) ∧ w' = w := by
  have HR := hideR hr
  obtain ⟨n, hn⟩ : ∃ n, L.length = n := ⟨_, rfl⟩
  rw [hn] at hl h0 ⊢
  have HN := hideR hn
  clear hr hn
  go_enter Tryd.func38, Tryd.ntmps38
  go_wp2
  go_loop [3, 8] (fun bv iv => ∃ k : Nat, k ≤ n ∧ iv = .int .i64 (k : Nat) ∧ bv = .int .i64 (bestI L k : Nat)) (fun _ iv => n + 1 - (intOf iv).toNat)
  case atStart => exact ⟨0, by omega, rfl, rfl⟩
  case round =>
    obtain ⟨k, hk, rfl, rfl⟩ := hrel
    by_cases hlt : k < n
    · have tk : decide (k < n) = true := decide_eq_true hlt
      have tki : decide ((k : Int) < (n : Int)) = true := decide_eq_true (by omega)
      have jk : (k : Int) < (n : Int) := by omega
      have wk : IntKind.i64.wrap ((k : Int) + 1) = ((k + 1 : Nat) : Int) := by rw [show (k : Int) + 1 = ((k + 1 : Nat) : Int) by omega]; exact iwrap (by omega) (by omega)
      have hb := bestI_lt L h0 k hk
      obtain ⟨b1, o1, rfl, _, x1⟩ := (unhideR HR).at_ k (by rw [unhideR HN]; exact hlt)
      obtain ⟨b2, o2, e2, _, x2⟩ := (unhideR HR).at_ (bestI L k) (by rw [unhideR HN]; exact hb)
      injection e2 with e2
      injection e2 with e3 e4
      subst e3
      subst e4
      have HNx : HeldR (bestI L (k + 1) = if L.getD (bestI L k) 0 < L.getD k 0 then k else bestI L k) := hideR rfl
      generalize L.getD (bestI L k) 0 = y at *
      generalize bestI L k = b at *
      generalize L.getD k 0 = x at *
      have jb : (b : Int) < (n : Int) := by omega
      by_cases q : y < x
      · have tq : decide (y < x) = true := decide_eq_true q
        rw [if_pos q] at HNx
        go_wp2
        exact ⟨⟨k + 1, by omega, by first | rfl | go_num, by rw [unhideR HNx]⟩, by simp [intOf]; omega⟩
      · have tq : decide (y < x) = false := decide_eq_false q
        rw [if_neg q] at HNx
        go_wp2
        exact ⟨⟨k + 1, by omega, by first | rfl | go_num, by rw [unhideR HNx]⟩, by simp [intOf]; omega⟩
    · obtain rfl : k = n := by omega
      have tk : decide (k < k) = false := decide_eq_false hlt
      go_wp2
      go_ret
      exact ⟨rfl, rfl⟩
theorem bestI_up (L : List Int) (k : Nat) : L.getD (bestI L (k + 1)) 0 = if L.getD (bestI L k) 0 < L.getD k 0 then L.getD k 0 else L.getD (bestI L k) 0 := by
  show L.getD (if L.getD (bestI L k) 0 < L.getD k 0 then k else bestI L k) 0 = _
  split <;> rfl
set_option maxRecDepth 100000 in
theorem max_any {w : World} {ad : Option Addr} {cap : Nat} {L : List Int} (hr : ICame w ad L) (hl : L.length ≤ 65536) (h0 : 0 < L.length) :
    Calls Tryd.prog 40 #[.slice ad L.length cap] w fun e w' => e = .returned (.int .i64 (L.getD (bestI L L.length) 0)) ∧ w' = w := by
  have HR := hideR hr
  obtain ⟨n, hn⟩ : ∃ n, L.length = n := ⟨_, rfl⟩
  rw [hn] at hl h0 ⊢
  have HN := hideR hn
  have t1 : decide (n < 1) = false := decide_eq_false (by omega)
  have t1i : decide ((n : Int) < 1) = false := decide_eq_false (by omega)
  obtain ⟨b1, o1, rfl, _, x1⟩ := hr.at_ 0 (by rw [hn]; exact h0)
  rw [Nat.add_zero] at x1
  have hb1 : bestI L 1 = 0 := by show (if _ then 0 else 0) = 0; split <;> rfl
  have j0 : (0 : Int) < (n : Int) := by omega
  have HS : HeldR (L.getD (bestI L 1) 0 = L.getD 0 0) := hideR (by rw [hb1])
  clear hr hn hb1
  generalize L.getD 0 0 = z0 at *
  go_enter Tryd.func40, Tryd.ntmps40
  go_wp2
  go_loop [3, 4] (fun mv iv => ∃ k : Nat, 1 ≤ k ∧ k ≤ n ∧ iv = .int .i64 (k : Nat) ∧ mv = .int .i64 (L.getD (bestI L k) 0)) (fun _ iv => n + 1 - (intOf iv).toNat)
  case atStart => exact ⟨1, by omega, by omega, rfl, by rw [unhideR HS]⟩
  case round =>
    clear x1
    obtain ⟨k, hk0, hk, rfl, rfl⟩ := hrel
    by_cases hlt : k < n
    · have tk : decide (k < n) = true := decide_eq_true hlt
      have tki : decide ((k : Int) < (n : Int)) = true := decide_eq_true (by omega)
      have jk : (k : Int) < (n : Int) := by omega
      have wk : IntKind.i64.wrap ((k : Int) + 1) = ((k + 1 : Nat) : Int) := by rw [show (k : Int) + 1 = ((k + 1 : Nat) : Int) by omega]; exact iwrap (by omega) (by omega)
      obtain ⟨b2, o2, e2, _, x2⟩ := (unhideR HR).at_ k (by rw [unhideR HN]; exact hlt)
      injection e2 with e2
      injection e2 with e3 e4
      subst e3
      subst e4
      have HNx := hideR (bestI_up L k)
      generalize L.getD (bestI L k) 0 = y at *
      generalize L.getD k 0 = x at *
      go_wp2
      exact ⟨⟨k + 1, by omega, by omega, by first | rfl | go_num, by rw [unhideR HNx]⟩, by simp [intOf]; omega⟩
    · obtain rfl : k = n := by omega
      have tk : decide (k < k) = false := decide_eq_false hlt
      go_wp2
      go_ret
      exact ⟨rfl, rfl⟩
end Go.Proofs.YtngdemhhcablmakDoor
