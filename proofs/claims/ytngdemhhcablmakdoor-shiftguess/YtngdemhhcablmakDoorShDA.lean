/-
  What is too great for a row: the program's tests, by contract. What is wrong with two rows: the program's, by contract.
-/
import Derived.Test.YtngdemhhcablmakDoorShCA
import Derived.Deep.CutRange
namespace Go.Proofs.YtngdemhhcablmakDoor
open Go Go.RowKit

set_option maxRecDepth 100000 in
theorem tooGreat_any (n : Int) (w : World) : Calls Tryd.prog 51 #[.int .i64 n] w fun e w' => e = .returned (.bool (bigB n)) ∧ w' = w := by
  by_cases h1 : n < -1048576
  · have t1 : decide (n < -1048576) = true := decide_eq_true h1
    have e : bigB n = true := decide_eq_true (.inr h1)
    rw [e]
    go_enter Tryd.func51, Tryd.ntmps51
    go_wp2
    go_ret
    exact ⟨rfl, rfl⟩
  · have t1 : decide (n < -1048576) = false := decide_eq_false h1
    by_cases h2 : 1048576 < n
    · have t2 : decide (1048576 < n) = true := decide_eq_true h2
      have e : bigB n = true := decide_eq_true (.inl h2)
      rw [e]
      go_enter Tryd.func51, Tryd.ntmps51
      go_wp2
      go_ret
      exact ⟨rfl, rfl⟩
    · have t2 : decide (1048576 < n) = false := decide_eq_false h2
      have e : bigB n = false := decide_eq_false (by omega)
      rw [e]
      go_enter Tryd.func51, Tryd.ntmps51
      go_wp2
      go_ret
      exact ⟨rfl, rfl⟩
/-- is one of the first k of a row too great? -/
def badR (a : List Int) : Nat → Bool
  | 0 => false
  | k + 1 => badR a k || bigB (a.getD k 0)
theorem badR_no {a : List Int} : ∀ {n : Nat}, badR a n = false → ∀ k, k < n → bigB (a.getD k 0) = false
  | 0, _, k, hk => absurd hk (Nat.not_lt_zero k)
  | n + 1, h, k, hk => by
    unfold badR at h
    rw [Bool.or_eq_false_iff] at h
    by_cases e : k = n
    · rw [e]; exact h.2
    · exact badR_no h.1 k (by omega)
theorem badR_none {T : List Int} : ∀ {n : Nat}, (∀ k, k < n → bigB (T.getD k 0) = false) → badR T n = false
  | 0, _ => rfl
  | n + 1, h => by
    unfold badR
    rw [badR_none (fun k hk => h k (by omega)), h n (by omega)]
    rfl
theorem badR_some {T : List Int} {n k : Nat} (hk : k < n) (h : bigB (T.getD k 0) = true) : badR T n = true := by
  cases q : badR T n with
  | true => rfl
  | false =>
    have := badR_no q k hk
    rw [h] at this
    cases this
theorem badAB_two (a b : List Int) : ∀ n, badAB a b n = (badR a n || badR b n)
  | 0 => rfl
  | n + 1 => by
    unfold badAB badR
    rw [badAB_two a b n]
    cases badR a n <;> cases badR b n <;> cases bigB (a.getD n 0) <;> rfl
def GxPost (T : List Int) (w : World) (e : Ending) (w' : World) : Prop := ∃ i : Int, e = .returned (.int .i64 i) ∧ w' = w ∧ (badR T T.length = true → 0 ≤ i) ∧ (badR T T.length = false → i = -1)
set_option maxRecDepth 100000 in
set_option maxHeartbeats 1600000 in
theorem indexGreat_any {w : World} {ad : Option Addr} {cap : Nat} {L : List Int} (hr : ICame w ad L) (hl : L.length ≤ 9223372036854775806) :
    Calls Tryd.prog 64 #[.slice ad L.length cap, .func (.func 51) #[] #[]] w (GxPost L w) := by
  have HR := hideR hr
  have HF : HeldR (∀ k, k < L.length → bigB (L.getD k 0) = true → GxPost L w (.returned (.int .i64 (k : Nat))) w) := hideR (fun k hk h => ⟨_, rfl, rfl, (fun _ => by omega), (fun q => by rw [badR_some hk h] at q; cases q)⟩)
  have HE : HeldR ((∀ k, k < L.length → bigB (L.getD k 0) = false) → GxPost L w (.returned (.int .i64 (-1))) w) := hideR (fun h => ⟨_, rfl, rfl, (fun q => by rw [badR_none h] at q; cases q), (fun _ => rfl)⟩)
  clear hr
  go_enter Tryd.func64, Tryd.ntmps64
  go_wp2
  go_loop [8] (fun kv => ∃ k : Nat, k ≤ L.length ∧ kv = .int .i64 (k : Nat) ∧ HeldR (∀ j, j < k → bigB (L.getD j 0) = false)) (fun kv => L.length + 1 - (intOf kv).toNat)
  case atStart => exact ⟨0, by omega, rfl, fun j hj => absurd hj (Nat.not_lt_zero j)⟩
  case round =>
    obtain ⟨k, hk, rfl, HK⟩ := hrel
    by_cases hlt : k < L.length
    · obtain ⟨b1, o1, rfl, _, x1⟩ := (unhideR HR).at_ k hlt
      have HF' := hideR (unhideR HF k hlt)
      have HK' : HeldR (bigB (L.getD k 0) = false → ∀ j, j < k + 1 → bigB (L.getD j 0) = false) := hideR (fun h j hj => by
        by_cases e : j = k
        · rw [e]; exact h
        · exact (unhideR HK) j (by omega))
      have hn := tooGreat_any (L.getD k 0) w
      generalize L.getD k 0 = x at x1 hn HF' HK'
      generalize hcx : bigB x = c at hn HF' HK'
      clear hcx HK
      go_wp2_with fail
      refine hn.mono ?_
      rintro e u ⟨rfl, rfl⟩
      clear hn
      cases c
      · go_wp2
        exact ⟨⟨k + 1, by omega, by go_num, hideR (unhideR HK' (by first | rfl | trivial))⟩, by simp [intOf]; omega⟩
      · go_wp2
        go_ret
        exact unhideR HF' (by first | rfl | trivial)
    · obtain rfl : k = L.length := by omega
      go_wp2
      go_ret
      exact unhideR HE (unhideR HK)
set_option maxRecDepth 100000 in
theorem containsGreat_any {w : World} {ad : Option Addr} {cap : Nat} {L : List Int} (hr : ICame w ad L) (hl : L.length ≤ 9223372036854775806) :
    Calls Tryd.prog 50 #[.slice ad L.length cap, .func (.func 51) #[] #[]] w fun e w' => e = .returned (.bool (badR L L.length)) ∧ w' = w := by
  have h := indexGreat_any (cap := cap) hr hl
  unfold GxPost at h
  generalize badR L L.length = q at *
  clear hr
  go_enter Tryd.func50, Tryd.ntmps50
  go_wp2_with fail
  refine h.mono ?_
  rintro e u ⟨i, rfl, rfl, h1, h2⟩
  clear h
  cases q with
  | true =>
    have hi := h1 rfl
    have t : decide (0 ≤ i) = true := decide_eq_true hi
    clear h1 h2
    go_wp2
    go_ret
    exact ⟨rfl, rfl⟩
  | false =>
    obtain rfl := h2 rfl
    clear h1 h2
    go_wp2
    go_ret
    exact ⟨rfl, rfl⟩
end Go.Proofs.YtngdemhhcablmakDoor
namespace Go.Proofs.YtngdemhhcablmakDoor
open Go Go.RowKit

def WrPost (a : Nat → Addr) (A B : List Int) (w : World) (e : Ending) (w' : World) : Prop := ∃ er : Value, e = .returned er ∧ ErrIs a (rowsE A B) er ∧ w' = w
set_option maxRecDepth 100000 in
set_option maxHeartbeats 1600000 in
theorem wrongRows_any {a : Nat → Addr} {w : World} {a1 a2 : Option Addr} {c1 c2 : Nat} {A B : List Int} (hS : Sents w a) (hA : ICame w a1 A) (hB : ICame w a2 B) (l1 : A.length ≤ 9223372036854775807) (l2 : B.length ≤ 9223372036854775807) :
    Calls Tryd.prog 39 #[.slice a1 A.length c1, .slice a2 B.length c2] w (WrPost a A B w) := by
  have x1 := hS.g1
  have x4 := hS.g4
  have hcA := fun (q : A.length ≤ 9223372036854775806) => containsGreat_any (cap := c1) hA q
  have hcB := fun (q : B.length ≤ 9223372036854775806) => containsGreat_any (cap := c2) hB q
  have H2 : HeldR (rowsE A B = 2 → WrPost a A B w (.returned (.iface 120 (.pointer (some (a 1))))) w) := hideR (fun q => ⟨_, rfl, by rw [q]; exact err_at 1 (by decide), rfl⟩)
  have H5 : HeldR (rowsE A B = 5 → WrPost a A B w (.returned (.iface 120 (.pointer (some (a 4))))) w) := hideR (fun q => ⟨_, rfl, by rw [q]; exact err_at 4 (by decide), rfl⟩)
  have H0 : HeldR (rowsE A B = 0 → WrPost a A B w (.returned .nilIface) w) := hideR (fun q => ⟨_, rfl, .inl ⟨q, rfl⟩, rfl⟩)
  have hE : rowsE A B = if 256 < A.length ∨ 256 < B.length then 2 else if A.length = 0 ∨ A.length ≠ B.length then 5 else if badAB A B A.length = true then 2 else 0 := rfl
  rw [badAB_two] at hE
  have HBl : HeldR (A.length = B.length → badR B A.length = badR B B.length) := hideR (fun q => by rw [q])
  obtain ⟨nA, hnA⟩ : ∃ n, A.length = n := ⟨_, rfl⟩
  obtain ⟨nB, hnB⟩ : ∃ n, B.length = n := ⟨_, rfl⟩
  rw [hnA] at l1 hcA hE HBl ⊢
  rw [hnB] at l2 hcB hE HBl ⊢
  clear hS hA hB hnA hnB
  by_cases q1 : 256 < nA
  · have t1 : decide ((256 : Int) < (nA : Int)) = true := decide_eq_true (by omega)
    have t1n : decide (256 < nA) = true := decide_eq_true q1
    have HR := hideR (unhideR H2 (by rw [hE, if_pos (.inl q1)]))
    clear H2 H5 H0 hE hcA hcB
    go_enter Tryd.func39, Tryd.ntmps39
    go_wp2
    go_ret
    exact unhideR HR
  have t1 : decide ((256 : Int) < (nA : Int)) = false := decide_eq_false (by omega)
  have t1n : decide (256 < nA) = false := decide_eq_false q1
  by_cases q2 : 256 < nB
  · have t2 : decide ((256 : Int) < (nB : Int)) = true := decide_eq_true (by omega)
    have t2n : decide (256 < nB) = true := decide_eq_true q2
    have HR := hideR (unhideR H2 (by rw [hE, if_pos (.inr q2)]))
    clear H2 H5 H0 hE hcA hcB
    go_enter Tryd.func39, Tryd.ntmps39
    go_wp2
    go_ret
    exact unhideR HR
  have t2 : decide ((256 : Int) < (nB : Int)) = false := decide_eq_false (by omega)
  have t2n : decide (256 < nB) = false := decide_eq_false q2
  rw [if_neg (fun q => q.elim q1 q2)] at hE
  by_cases q3 : nA = 0
  · have t3 : ((nA : Int) == 0) = true := by simp; omega
    have t3n : (nA == 0) = true := by simp; omega
    have HR := hideR (unhideR H5 (by rw [hE, if_pos (.inl q3)]))
    clear H2 H5 H0 hE hcA hcB q3
    go_enter Tryd.func39, Tryd.ntmps39
    go_wp2
    go_ret
    exact unhideR HR
  have t3 : ((nA : Int) == 0) = false := by simp; omega
  have t3n : (nA == 0) = false := by simp; omega
  by_cases q4 : nA = nB
  case neg =>
    have t4 : ((nA : Int) != (nB : Int)) = true := by simp; omega
    have t4n : (nA != nB) = true := by simp; omega
    have HR := hideR (unhideR H5 (by rw [hE, if_pos (.inr q4)]))
    clear H2 H5 H0 hE hcA hcB q4
    go_enter Tryd.func39, Tryd.ntmps39
    go_wp2
    go_ret
    exact unhideR HR
  case pos =>
  subst q4
  have t4 : ((nA : Int) != (nA : Int)) = false := by simp
  have t4n : (nA != nA) = false := by simp
  rw [if_neg (fun q => q.elim q3 (fun q => q rfl))] at hE
  have hcA' := hcA (by omega)
  have hcB' := hcB (by omega)
  clear hcA hcB HBl q3
  generalize badR A nA = bA at *
  generalize badR B nA = bB at *
  cases bA with
  | true =>
    have HR := hideR (unhideR H2 (by rw [hE]; rfl))
    clear H2 H5 H0 hE hcB'
    go_enter Tryd.func39, Tryd.ntmps39
    go_wp2_with fail
    refine hcA'.mono ?_
    rintro e u ⟨rfl, rfl⟩
    go_wp2
    go_ret
    exact unhideR HR
  | false =>
  cases bB with
  | true =>
    have HR := hideR (unhideR H2 (by rw [hE]; rfl))
    clear H2 H5 H0 hE
    go_enter Tryd.func39, Tryd.ntmps39
    go_wp2_with fail
    refine hcA'.mono ?_
    rintro e u ⟨rfl, rfl⟩
    go_wp2_with fail
    refine hcB'.mono ?_
    rintro e u ⟨rfl, rfl⟩
    go_wp2
    go_ret
    exact unhideR HR
  | false =>
    have HR := hideR (unhideR H0 (by rw [hE]; rfl))
    clear H2 H5 H0 hE
    go_enter Tryd.func39, Tryd.ntmps39
    go_wp2_with fail
    refine hcA'.mono ?_
    rintro e u ⟨rfl, rfl⟩
    go_wp2_with fail
    refine hcB'.mono ?_
    rintro e u ⟨rfl, rfl⟩
    go_wp2
    go_ret
    exact unhideR HR
end Go.Proofs.YtngdemhhcablmakDoor
