/-
  The program's cards: which names and values are right.
-/
import Derived.Test.YtncbmkflilcdgaiGreatDoorFfCar
import Derived.Test.YtncbmkflilcdgaiGreatDoorDG0
namespace Go.Proofs.YtncbmkflilcdgaiGreatDoor
open Go Go.RowKit

set_option maxHeartbeats 800000 in
theorem ofNames_any (c : UInt8) (w : World) : Calls Tryz.prog 47 #[.int .u8 c.toNat] w fun e w' => e = .returned (.bool (nameC c)) ∧ w' = w := by
  obtain ⟨q, hq⟩ : ∃ q, nameC c = q := ⟨_, rfl⟩
  have hiff := nameC_iff c
  rw [hq] at hiff ⊢
  clear hq
  generalize c.toNat = z at *
  by_cases h1 : 65 ≤ z ∧ z ≤ 90
  · obtain rfl : q = true := hiff.2 (by omega)
    clear hiff
    obtain ⟨_, _⟩ := h1
    go_enter Tryz.func47, Tryz.ntmps47
    go_wp2
    go_ret
    exact ⟨rfl, rfl⟩
  by_cases h2 : 48 ≤ z ∧ z ≤ 57
  · obtain rfl : q = true := hiff.2 (by omega)
    clear hiff h1
    obtain ⟨_, _⟩ := h2
    go_enter Tryz.func47, Tryz.ntmps47
    go_wp2
    go_ret
    exact ⟨rfl, rfl⟩
  by_cases h3 : z = 45
  · obtain rfl : q = true := hiff.2 (by omega)
    subst h3
    clear hiff h1 h2
    go_enter Tryz.func47, Tryz.ntmps47
    go_wp2
    go_ret
    exact ⟨rfl, rfl⟩
  by_cases h4 : z = 95
  · obtain rfl : q = true := hiff.2 (by omega)
    subst h4
    clear hiff h1 h2 h3
    go_enter Tryz.func47, Tryz.ntmps47
    go_wp2
    go_ret
    exact ⟨rfl, rfl⟩
  obtain rfl : q = false := by
    cases q
    · rfl
    · have := hiff.1 rfl
      omega
  have t3 : ((z : Int) == 45) = false := beq_eq_false_iff_ne.2 (by omega)
  have t4 : ((z : Int) == 95) = false := beq_eq_false_iff_ne.2 (by omega)
  clear hiff
  rcases (show z < 48 ∨ (58 ≤ z ∧ z < 65) ∨ 90 < z by omega) with h | ⟨h, h'⟩ | h
  · clear h1 h2 h3 h4
    go_enter Tryz.func47, Tryz.ntmps47
    go_wp2
    go_ret
    exact ⟨rfl, rfl⟩
  · have t5 : decide ((z : Int) ≤ 57) = false := decide_eq_false (by omega)
    clear h1 h2 h3 h4
    go_enter Tryz.func47, Tryz.ntmps47
    go_wp2
    go_ret
    exact ⟨rfl, rfl⟩
  · have t5 : decide ((z : Int) ≤ 57) = false := decide_eq_false (by omega)
    have t6 : decide ((z : Int) ≤ 90) = false := decide_eq_false (by omega)
    clear h1 h2 h3 h4
    go_enter Tryz.func47, Tryz.ntmps47
    go_wp2
    go_ret
    exact ⟨rfl, rfl⟩
def nameB (n : Bs) : Bool := decide (1 ≤ n.length) && decide (n.length ≤ 8) && n.all nameC
theorem bs_at {l : Bs} {f : UInt8 → Bool} {k : Nat} (hk : k < l.length) (h : f (l.getD k 0) = false) : l.all f = false := by
  refine (Bool.not_eq_true _).mp (fun q => ?_)
  have := List.all_eq_true.1 q _ (List.getElem_mem hk)
  rw [List.getD_eq_getElem?_getD, List.getElem?_eq_getElem hk, Option.getD_some, this] at h
  cases h
theorem bs_all {l : Bs} {f : UInt8 → Bool} (h : ∀ k, k < l.length → f (l.getD k 0) = true) : l.all f = true := by
  rw [List.all_eq_true]
  intro x hx
  obtain ⟨k, hk, rfl⟩ := List.getElem_of_mem hx
  have := h k hk
  rwa [List.getD_eq_getElem?_getD, List.getElem?_eq_getElem hk] at this
set_option maxRecDepth 100000 in
set_option maxHeartbeats 800000 in
theorem isName_any (s : ByteArray) (hs : s.size ≤ 140737488355328) (w : World) : Calls Tryz.prog 34 #[.string s] w fun e w' => e = .returned (.bool (nameB s.data.toList)) ∧ w' = w := by
  have hl : s.data.toList.length = s.size := Array.length_toList
  by_cases h1 : s.size < 1
  · have e : nameB s.data.toList = false := by unfold nameB; rw [hl, decide_eq_false (by omega)]; rfl
    rw [e]
    clear e hl
    go_enter Tryz.func34, Tryz.ntmps34
    go_wp2
    go_ret
    exact ⟨rfl, rfl⟩
  by_cases h2 : 8 < s.size
  · have e : nameB s.data.toList = false := by unfold nameB; rw [hl, decide_eq_false (show ¬ s.size ≤ 8 by omega), Bool.and_false]; rfl
    rw [e]
    clear e hl
    go_enter Tryz.func34, Tryz.ntmps34
    go_wp2
    go_ret
    exact ⟨rfl, rfl⟩
  have e : nameB s.data.toList = s.data.toList.all nameC := by unfold nameB; rw [hl, decide_eq_true (show 1 ≤ s.size by omega), decide_eq_true (show s.size ≤ 8 by omega)]; rfl
  rw [e]
  have HL := hideR hl
  clear e hl
  generalize hq : s.data.toList.all nameC = q
  have HQ := hideR hq
  clear hq
  go_enter Tryz.func34, Tryz.ntmps34
  go_wp2
  go_loop [14] (fun kv => ∃ k : Nat, k ≤ s.size ∧ kv = .int .i64 (k : Nat) ∧ HeldR (∀ j, j < k → nameC (s.data.toList.getD j 0) = true)) (fun kv => s.size + 1 - (intOf kv).toNat)
  case atStart => exact ⟨0, by omega, rfl, hideR (fun j hj => absurd hj (Nat.not_lt_zero j))⟩
  case round =>
    obtain ⟨k, hk, rfl, HK⟩ := hrel
    by_cases hlt : k < s.size
    · have hx := str_at s hlt
      obtain ⟨c, hc⟩ : ∃ c, s.data.toList.getD k 0 = c := ⟨_, rfl⟩
      rw [hc] at hx
      have HC := hideR hc
      clear hc
      have hn := ofNames_any c w
      generalize hnc : nameC c = b at hn
      have HN := hideR hnc
      clear hnc
      go_wp2_with fail
      refine hn.mono ?_
      rintro e u ⟨rfl, rfl⟩
      clear hn hx
      cases b
      · obtain rfl : false = q := by rw [← unhideR HQ]; exact (bs_at (by rw [unhideR HL]; exact hlt) (by rw [unhideR HC]; exact unhideR HN)).symm
        go_wp2
        go_ret
        exact ⟨rfl, rfl⟩
      · go_wp2
        refine ⟨⟨k + 1, by omega, by go_num, hideR (fun j hj => ?_)⟩, by simp [intOf]; omega⟩
        by_cases ej : j = k
        · rw [ej, unhideR HC]; exact unhideR HN
        · exact (unhideR HK) j (by omega)
    · obtain rfl : k = s.size := by omega
      obtain rfl : true = q := by rw [← unhideR HQ]; exact (bs_all (fun j hj => (unhideR HK) j (by rw [unhideR HL] at hj; exact hj))).symm
      go_wp2
      go_ret
      exact ⟨rfl, rfl⟩
theorem pre_blank (l : Bs) : Lib.hasPrefix l [32] = (l.head? == some 32) := by
  unfold Lib.hasPrefix
  cases l with
  | nil => rfl
  | cons x l => simp [List.isPrefixOf, Bool.beq_comm]
theorem suf_blank (l : Bs) : Lib.hasSuffix l [32] = (l.getLast? == some 32) := by
  unfold Lib.hasSuffix List.isSuffixOf
  rw [List.getLast?_eq_head?_reverse]
  generalize l.reverse = r
  cases r with
  | nil => rfl
  | cons x l => simp [List.isPrefixOf, Bool.beq_comm]
set_option maxRecDepth 100000 in
set_option maxHeartbeats 800000 in
theorem isValue_any (s : ByteArray) (hs : s.size ≤ 140737488355328) (w : World) : Calls Tryz.prog 37 #[.string s] w fun e w' => e = .returned (.bool (valOk s.data.toList)) ∧ w' = w := by
  have hl : s.data.toList.length = s.size := Array.length_toList
  have hp := fun u => Tryz.strings_HasPrefix s ⟨#[32]⟩ u
  have hsf := fun u => Tryz.strings_HasSuffix s ⟨#[32]⟩ u (by omega)
  rw [show (⟨#[32]⟩ : ByteArray).data.toList = [32] from rfl, pre_blank] at hp
  rw [show (⟨#[32]⟩ : ByteArray).data.toList = [32] from rfl, suf_blank] at hsf
  have hv : valOk s.data.toList = (decide (s.size ≤ 70) && !(s.data.toList.head? == some 32) && !(s.data.toList.getLast? == some 32) && s.data.toList.all valC) := by
    unfold valOk
    rw [hl]
    rfl
  rw [hv]
  clear hv
  have HL := hideR hl
  clear hl
  generalize (s.data.toList.head? == some 32) = b1 at *
  generalize (s.data.toList.getLast? == some 32) = b2 at *
  by_cases h1 : 70 < s.size
  · rw [decide_eq_false (by omega)]
    go_enter Tryz.func37, Tryz.ntmps37
    go_wp2
    go_ret
    exact ⟨rfl, rfl⟩
  rw [decide_eq_true (by omega), Bool.true_and]
  generalize hq : s.data.toList.all valC = q
  have HQ := hideR hq
  clear hq
  go_enter Tryz.func37, Tryz.ntmps37
  go_wp2_with fail
  refine (hp _).mono ?_
  rintro e u ⟨rfl, rfl⟩
  cases b1
  case true =>
    go_wp2
    go_ret
    exact ⟨rfl, rfl⟩
  go_wp2_with fail
  refine (hsf _).mono ?_
  rintro e u ⟨rfl, rfl⟩
  cases b2
  case true =>
    go_wp2
    go_ret
    exact ⟨rfl, rfl⟩
  clear hp hsf
  go_wp2
  go_loop [17] (fun kv => ∃ k : Nat, k ≤ s.size ∧ kv = .int .i64 (k : Nat) ∧ HeldR (∀ j, j < k → valC (s.data.toList.getD j 0) = true)) (fun kv => s.size + 1 - (intOf kv).toNat)
  case atStart => exact ⟨0, by omega, rfl, hideR (fun j hj => absurd hj (Nat.not_lt_zero j))⟩
  case round =>
    obtain ⟨k, hk, rfl, HK⟩ := hrel
    by_cases hlt : k < s.size
    · have hx := str_at s hlt
      obtain ⟨c, hc⟩ : ∃ c, s.data.toList.getD k 0 = c := ⟨_, rfl⟩
      rw [hc] at hx
      have HC := hideR hc
      clear hc
      by_cases hb : c.toNat < 32 ∨ 126 < c.toNat
      · obtain rfl : false = q := by rw [← unhideR HQ]; exact (bs_at (by rw [unhideR HL]; exact hlt) (by rw [unhideR HC]; exact valC_out hb)).symm
        rcases hb with hb | hb
        · go_wp2
          go_ret
          exact ⟨rfl, rfl⟩
        · go_wp2
          go_ret
          exact ⟨rfl, rfl⟩
      · have HN := hideR (valC_in (c := c) (by omega) (by omega))
        have b1 : 32 ≤ c.toNat := by omega
        have b2 : c.toNat ≤ 126 := by omega
        clear hb
        go_wp2
        refine ⟨⟨k + 1, by omega, by go_num, hideR (fun j hj => ?_)⟩, by simp [intOf]; omega⟩
        by_cases ej : j = k
        · rw [ej, unhideR HC]; exact unhideR HN
        · exact (unhideR HK) j (by omega)
    · obtain rfl : k = s.size := by omega
      obtain rfl : true = q := by rw [← unhideR HQ]; exact (bs_all (fun j hj => (unhideR HK) j (by rw [unhideR HL] at hj; exact hj))).symm
      go_wp2
      go_ret
      exact ⟨rfl, rfl⟩
end Go.Proofs.YtncbmkflilcdgaiGreatDoor
