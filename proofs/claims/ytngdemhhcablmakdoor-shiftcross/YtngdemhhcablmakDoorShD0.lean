/-
  What is too great for a row: the program's tests, by contract.
-/
import Derived.Test.YtngdemhhcablmakDoorShCl
import Derived.Deep.CutRange
namespace Go.Proofs.YtngdemhhcablmakDoor
open Go Go.RowKit

set_option maxRecDepth 100000 in
theorem tooGreat_any (n : Int) (w : World) : Calls Tryd.prog 51 #[.int .i64 n] w fun e w' => e = .returned (.bool (bigB n)) ∧ w' = w := by
  by_cases h1 : n < -1048576
  · have t1 : decide (n < -1048576) = true := decide_eq_true h1
    have e : bigB n = true := decide_eq_true (.inr h1)
    rw [e]
    go_enter Tryd.func51, Tryd.ntmps51
    go_wp2
    go_ret
    exact ⟨rfl, rfl⟩
  · have t1 : decide (n < -1048576) = false := decide_eq_false h1
    by_cases h2 : 1048576 < n
    · have t2 : decide (1048576 < n) = true := decide_eq_true h2
      have e : bigB n = true := decide_eq_true (.inl h2)
      rw [e]
      go_enter Tryd.func51, Tryd.ntmps51
      go_wp2
      go_ret
      exact ⟨rfl, rfl⟩
    · have t2 : decide (1048576 < n) = false := decide_eq_false h2
      have e : bigB n = false := decide_eq_false (by omega)
      rw [e]
      go_enter Tryd.func51, Tryd.ntmps51
      go_wp2
      go_ret
      exact ⟨rfl, rfl⟩
/-- is one of the first k of a row too great? -/
def badR (a : List Int) : Nat → Bool
  | 0 => false
  | k + 1 => badR a k || bigB (a.getD k 0)
theorem badR_no {a : List Int} : ∀ {n : Nat}, badR a n = false → ∀ k, k < n → bigB (a.getD k 0) = false
  | 0, _, k, hk => absurd hk (Nat.not_lt_zero k)
  | n + 1, h, k, hk => by
    unfold badR at h
    rw [Bool.or_eq_false_iff] at h
    by_cases e : k = n
    · rw [e]; exact h.2
    · exact badR_no h.1 k (by omega)
theorem badR_none {T : List Int} : ∀ {n : Nat}, (∀ k, k < n → bigB (T.getD k 0) = false) → badR T n = false
  | 0, _ => rfl
  | n + 1, h => by
    unfold badR
    rw [badR_none (fun k hk => h k (by omega)), h n (by omega)]
    rfl
theorem badR_some {T : List Int} {n k : Nat} (hk : k < n) (h : bigB (T.getD k 0) = true) : badR T n = true := by
  cases q : badR T n with
  | true => rfl
  | false =>
    have := badR_no q k hk
    rw [h] at this
    cases this
theorem badAB_two (a b : List Int) : ∀ n, badAB a b n = (badR a n || badR b n)
  | 0 => rfl
  | n + 1 => by
    unfold badAB badR
    rw [badAB_two a b n]
    cases badR a n <;> cases badR b n <;> cases bigB (a.getD n 0) <;> rfl
def GxPost (T : List Int) (w : World) (e : Ending) (w' : World) : Prop := ∃ i : Int, e = .returned (.int .i64 i) ∧ w' = w ∧ (badR T T.length = true → 0 ≤ i) ∧ (badR T T.length = false → i = -1)
set_option maxRecDepth 100000 in
set_option maxHeartbeats 1600000 in
theorem indexGreat_any {w : World} {ad : Option Addr} {cap : Nat} {L : List Int} (hr : ICame w ad L) (hl : L.length ≤ 9223372036854775806) :
    Calls Tryd.prog 64 #[.slice ad L.length cap, .func (.func 51) #[] #[]] w (GxPost L w) := by
  have HR := hideR hr
  have HF : HeldR (∀ k, k < L.length → bigB (L.getD k 0) = true → GxPost L w (.returned (.int .i64 (k : Nat))) w) := hideR (fun k hk h => ⟨_, rfl, rfl, (fun _ => by omega), (fun q => by rw [badR_some hk h] at q; cases q)⟩)
  have HE : HeldR ((∀ k, k < L.length → bigB (L.getD k 0) = false) → GxPost L w (.returned (.int .i64 (-1))) w) := hideR (fun h => ⟨_, rfl, rfl, (fun q => by rw [badR_none h] at q; cases q), (fun _ => rfl)⟩)
  clear hr
  go_enter Tryd.func64, Tryd.ntmps64
  go_wp2
  go_loop [8] (fun kv => ∃ k : Nat, k ≤ L.length ∧ kv = .int .i64 (k : Nat) ∧ HeldR (∀ j, j < k → bigB (L.getD j 0) = false)) (fun kv => L.length + 1 - (intOf kv).toNat)
  case atStart => exact ⟨0, by omega, rfl, fun j hj => absurd hj (Nat.not_lt_zero j)⟩
  case round =>
    obtain ⟨k, hk, rfl, HK⟩ := hrel
    by_cases hlt : k < L.length
    · obtain ⟨b1, o1, rfl, _, x1⟩ := (unhideR HR).at_ k hlt
      have HF' := hideR (unhideR HF k hlt)
      have HK' : HeldR (bigB (L.getD k 0) = false → ∀ j, j < k + 1 → bigB (L.getD j 0) = false) := hideR (fun h j hj => by
        by_cases e : j = k
        · rw [e]; exact h
        · exact (unhideR HK) j (by omega))
      have hn := tooGreat_any (L.getD k 0) w
      generalize L.getD k 0 = x at x1 hn HF' HK'
      generalize hcx : bigB x = c at hn HF' HK'
      clear hcx HK
      go_wp2_with fail
      refine hn.mono ?_
      rintro e u ⟨rfl, rfl⟩
      clear hn
      cases c
      · go_wp2
        exact ⟨⟨k + 1, by omega, by go_num, hideR (unhideR HK' (by first | rfl | trivial))⟩, by simp [intOf]; omega⟩
      · go_wp2
        go_ret
        exact unhideR HF' (by first | rfl | trivial)
    · obtain rfl : k = L.length := by omega
      go_wp2
      go_ret
      exact unhideR HE (unhideR HK)
set_option maxRecDepth 100000 in
theorem containsGreat_any {w : World} {ad : Option Addr} {cap : Nat} {L : List Int} (hr : ICame w ad L) (hl : L.length ≤ 9223372036854775806) :
    Calls Tryd.prog 50 #[.slice ad L.length cap, .func (.func 51) #[] #[]] w fun e w' => e = .returned (.bool (badR L L.length)) ∧ w' = w := by
  have h := indexGreat_any (cap := cap) hr hl
  unfold GxPost at h
  generalize badR L L.length = q at *
  clear hr
  go_enter Tryd.func50, Tryd.ntmps50
  go_wp2_with fail
  refine h.mono ?_
  rintro e u ⟨i, rfl, rfl, h1, h2⟩
  clear h
  cases q with
  | true =>
    have hi := h1 rfl
    have t : decide (0 ≤ i) = true := decide_eq_true hi
    clear h1 h2
    go_wp2
    go_ret
    exact ⟨rfl, rfl⟩
  | false =>
    obtain rfl := h2 rfl
    clear h1 h2
    go_wp2
    go_ret
    exact ⟨rfl, rfl⟩
end Go.Proofs.YtngdemhhcablmakDoor
