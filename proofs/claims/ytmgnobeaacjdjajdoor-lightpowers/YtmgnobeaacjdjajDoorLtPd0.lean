/-
  What is too great for a wave: the program's tests, by contract.
-/
import Derived.Test.YtmgnobeaacjdjajDoorLtPl0
import Derived.Deep.CutRange
namespace Go.Proofs.YtmgnobeaacjdjajDoor
open Go Go.RowKit

set_option maxRecDepth 100000 in
theorem isFast_any (n : Int) (w : World) : Calls Tryd.prog 34 #[.int .i64 n] w fun e w' => e = .returned (.bool (largeB n)) ∧ w' = w := by
  by_cases h1 : n < -1099511627776
  · have t1 : decide (n < -1099511627776) = true := decide_eq_true h1
    have e : largeB n = true := decide_eq_true (.inr h1)
    rw [e]
    go_enter Tryd.func34, Tryd.ntmps34
    go_wp2
    go_ret
    exact ⟨rfl, rfl⟩
  · have t1 : decide (n < -1099511627776) = false := decide_eq_false h1
    by_cases h2 : 1099511627776 < n
    · have t2 : decide (1099511627776 < n) = true := decide_eq_true h2
      have e : largeB n = true := decide_eq_true (.inl h2)
      rw [e]
      go_enter Tryd.func34, Tryd.ntmps34
      go_wp2
      go_ret
      exact ⟨rfl, rfl⟩
    · have t2 : decide (1099511627776 < n) = false := decide_eq_false h2
      have e : largeB n = false := decide_eq_false (by omega)
      rw [e]
      go_enter Tryd.func34, Tryd.ntmps34
      go_wp2
      go_ret
      exact ⟨rfl, rfl⟩
theorem badT_none {T : List Int} : ∀ {n : Nat}, (∀ k, k < n → largeB (T.getD k 0) = false) → badT T n = false
  | 0, _ => rfl
  | n + 1, h => by
    unfold badT
    rw [badT_none (fun k hk => h k (by omega)), h n (by omega)]
    rfl
theorem badT_some {T : List Int} {n k : Nat} (hk : k < n) (h : largeB (T.getD k 0) = true) : badT T n = true := by
  cases q : badT T n with
  | true => rfl
  | false =>
    have := badT_no q k hk
    rw [h] at this
    cases this
def FxPost (T : List Int) (w : World) (e : Ending) (w' : World) : Prop := ∃ i : Int, e = .returned (.int .i64 i) ∧ w' = w ∧ (badT T T.length = true → 0 ≤ i) ∧ (badT T T.length = false → i = -1)
set_option maxRecDepth 100000 in
set_option maxHeartbeats 1600000 in
theorem indexFast_any {w : World} {ad : Option Addr} {cap : Nat} {L : List Int} (hr : ICame w ad L) (hl : L.length ≤ 9223372036854775806) :
    Calls Tryd.prog 55 #[.slice ad L.length cap, .func (.func 34) #[] #[]] w (FxPost L w) := by
  have HR := hideR hr
  have HF : HeldR (∀ k, k < L.length → largeB (L.getD k 0) = true → FxPost L w (.returned (.int .i64 (k : Nat))) w) := hideR (fun k hk h => ⟨_, rfl, rfl, (fun _ => by omega), (fun q => by rw [badT_some hk h] at q; cases q)⟩)
  have HE : HeldR ((∀ k, k < L.length → largeB (L.getD k 0) = false) → FxPost L w (.returned (.int .i64 (-1))) w) := hideR (fun h => ⟨_, rfl, rfl, (fun q => by rw [badT_none h] at q; cases q), (fun _ => rfl)⟩)
  clear hr
  go_enter Tryd.func55, Tryd.ntmps55
  go_wp2
  go_loop [8] (fun kv => ∃ k : Nat, k ≤ L.length ∧ kv = .int .i64 (k : Nat) ∧ HeldR (∀ j, j < k → largeB (L.getD j 0) = false)) (fun kv => L.length + 1 - (intOf kv).toNat)
  case atStart => exact ⟨0, by omega, rfl, fun j hj => absurd hj (Nat.not_lt_zero j)⟩
  case round =>
    obtain ⟨k, hk, rfl, HK⟩ := hrel
    by_cases hlt : k < L.length
    · obtain ⟨b1, o1, rfl, _, x1⟩ := (unhideR HR).at_ k hlt
      have HF' := hideR (unhideR HF k hlt)
      have HK' : HeldR (largeB (L.getD k 0) = false → ∀ j, j < k + 1 → largeB (L.getD j 0) = false) := hideR (fun h j hj => by
        by_cases e : j = k
        · rw [e]; exact h
        · exact (unhideR HK) j (by omega))
      have hn := isFast_any (L.getD k 0) w
      generalize L.getD k 0 = x at x1 hn HF' HK'
      generalize hcx : largeB x = c at hn HF' HK'
      clear hcx HK
      go_wp2_with fail
      refine hn.mono ?_
      rintro e u ⟨rfl, rfl⟩
      clear hn
      cases c
      · go_wp2
        exact ⟨⟨k + 1, by omega, by go_num, hideR (unhideR HK' (by first | rfl | trivial))⟩, by simp [intOf]; omega⟩
      · go_wp2
        go_ret
        exact unhideR HF' (by first | rfl | trivial)
    · obtain rfl : k = L.length := by omega
      go_wp2
      go_ret
      exact unhideR HE (unhideR HK)
set_option maxRecDepth 100000 in
theorem containsFast_any {w : World} {ad : Option Addr} {cap : Nat} {L : List Int} (hr : ICame w ad L) (hl : L.length ≤ 9223372036854775806) :
    Calls Tryd.prog 35 #[.slice ad L.length cap, .func (.func 34) #[] #[]] w fun e w' => e = .returned (.bool (badT L L.length)) ∧ w' = w := by
  have h := indexFast_any (cap := cap) hr hl
  unfold FxPost at h
  generalize badT L L.length = q at *
  clear hr
  go_enter Tryd.func35, Tryd.ntmps35
  go_wp2_with fail
  refine h.mono ?_
  rintro e u ⟨i, rfl, rfl, h1, h2⟩
  clear h
  cases q with
  | true =>
    have hi := h1 rfl
    have t : decide (0 ≤ i) = true := decide_eq_true hi
    clear h1 h2
    go_wp2
    go_ret
    exact ⟨rfl, rfl⟩
  | false =>
    obtain rfl := h2 rfl
    clear h1 h2
    go_wp2
    go_ret
    exact ⟨rfl, rfl⟩
end Go.Proofs.YtmgnobeaacjdjajDoor
