/-
  The document's files: the number of a card's value, and a side's decimal digits, by contract.
-/
import Derived.Test.YtncbmkflilcdgaiGreatDoorFfCar
import Derived.Laws.Strings
import Derived.Lib.AppendStr
import Derived.BigRegion
import Derived.Deep.RegionWith
namespace Go.Proofs.YtncbmkflilcdgaiGreatDoor
open Go Go.RowKit

theorem num_step (s : ByteArray) {i : Nat} (hi : i < s.size) (n : Nat) : numV (s.data.toList.drop i) n = if (s.data.toList.getD i 0) < 48 ∨ 57 < (s.data.toList.getD i 0) ∨ 100000 < n then 0 else numV (s.data.toList.drop (i + 1)) (n * 10 + ((s.data.toList.getD i 0).toNat - 48)) := by
  have hl : i < s.data.toList.length := by rw [Array.length_toList]; exact hi
  rw [List.drop_eq_getElem_cons hl, List.getD_eq_getElem?_getD, List.getElem?_eq_getElem hl]
  rfl
set_option maxRecDepth 100000 in
set_option maxHeartbeats 1600000 in
theorem number_any (s : ByteArray) (hs : s.size ≤ 140737488355328) (w : World) : Calls Tryz.prog 31 #[.string s] w fun e w' => e = .returned (.int .i64 (numV s.data.toList 0 : Nat)) ∧ w' = w := by
  obtain ⟨R, hR⟩ : ∃ R, numV s.data.toList 0 = R := ⟨_, rfl⟩
  rw [hR]
  have HR := hideR hR
  clear hR
  go_enter Tryz.func31, Tryz.ntmps31
  go_wp2
  go_loop [3, 4] (fun nv iv => ∃ (n i : Nat), i ≤ s.size ∧ n ≤ 1000009 ∧ nv = .int .i64 (n : Nat) ∧ iv = .int .i64 (i : Nat) ∧ HeldR (numV (s.data.toList.drop i) n = R)) (fun _ iv => s.size + 1 - (intOf iv).toNat)
  case atStart => exact ⟨0, 0, by omega, by omega, rfl, rfl, by rw [List.drop_zero]; exact HR⟩
  case round =>
    obtain ⟨n, i, hi, hn, rfl, rfl, HQ⟩ := hrel
    by_cases hil : i < s.size
    · have hii : decide ((i : Int) < (s.size : Nat)) = true := decide_eq_true (by omega)
      have hx := str_at s hil
      have HS := hideR (num_step s hil n)
      have hlt := (s.data.toList.getD i 0).toNat_lt
      generalize s.data.toList.getD i 0 = c at *
      have HC : HeldR ((c < 48 ∨ 57 < c ∨ 100000 < n) ↔ (c.toNat < 48 ∨ 57 < c.toNat ∨ 100000 < n)) := by
        unfold HeldR
        rw [UInt8.lt_iff_toNat_lt, UInt8.lt_iff_toNat_lt]
        rfl
      by_cases c1 : c.toNat < 48
      · have t1 : decide ((c.toNat : Int) < 48) = true := decide_eq_true (by omega)
        have h0 : R = 0 := by rw [← unhideR HQ, unhideR HS, if_pos ((unhideR HC).2 (.inl c1))]
        subst h0
        clear c1
        go_wp2
        go_ret
        exact ⟨rfl, rfl⟩
      · have t1 : decide ((c.toNat : Int) < 48) = false := decide_eq_false (by omega)
        by_cases c2 : 57 < c.toNat
        · have t2 : decide ((57 : Int) < (c.toNat : Int)) = true := decide_eq_true (by omega)
          have h0 : R = 0 := by rw [← unhideR HQ, unhideR HS, if_pos ((unhideR HC).2 (.inr (.inl c2)))]
          subst h0
          clear c1 c2
          go_wp2
          go_ret
          exact ⟨rfl, rfl⟩
        · have t2 : decide ((57 : Int) < (c.toNat : Int)) = false := decide_eq_false (by omega)
          by_cases c3 : 100000 < n
          · have t3 : decide ((100000 : Int) < (n : Int)) = true := decide_eq_true (by omega)
            have h0 : R = 0 := by rw [← unhideR HQ, unhideR HS, if_pos ((unhideR HC).2 (.inr (.inr c3)))]
            subst h0
            clear c1 c2 c3
            go_wp2
            go_ret
            exact ⟨rfl, rfl⟩
          · have t3 : decide ((100000 : Int) < (n : Int)) = false := decide_eq_false (by omega)
            have HG : HeldR (numV (s.data.toList.drop (i + 1)) (n * 10 + (c.toNat - 48)) = R) := by
              unfold HeldR
              rw [← unhideR HQ, unhideR HS, if_neg (fun k => by have := (unhideR HC).1 k; omega)]
            have hw1 : IntKind.u8.wrap ((c.toNat : Int) - 48) = (c.toNat : Int) - 48 := by rw [IntKind.wrap_u8]; omega
            have hw2 : IntKind.i64.wrap ((n : Int) * 10) = (n : Int) * 10 := iwrap (by omega) (by omega)
            have hw3 : IntKind.i64.wrap ((c.toNat : Int) - 48) = (c.toNat : Int) - 48 := iwrap (by omega) (by omega)
            have hw4 : IntKind.i64.wrap ((n : Int) * 10 + ((c.toNat : Int) - 48)) = (n : Int) * 10 + ((c.toNat : Int) - 48) := iwrap (by omega) (by omega)
            have hN : n * 10 + (c.toNat - 48) ≤ 1000009 := by omega
            have hE : (((n * 10 + (c.toNat - 48) : Nat)) : Int) = (n : Int) * 10 + ((c.toNat : Int) - 48) := by omega
            have HN := hideR hN
            have HE := hideR hE
            clear c1 c2 c3 hN hE
            go_wp2
            exact ⟨⟨n * 10 + (c.toNat - 48), i + 1, by omega, unhideR HN, by rw [unhideR HE], by go_num, HG⟩, by simp [intOf]; omega⟩
    · obtain rfl : i = s.size := by omega
      have hii : decide ((s.size : Int) < (s.size : Nat)) = false := decide_eq_false (by omega)
      have h0 : R = n := by
        rw [← unhideR HQ, List.drop_of_length_le (by rw [Array.length_toList]; exact Nat.le_refl _)]
        rfl
      subst h0
      go_wp2
      go_ret
      exact ⟨rfl, rfl⟩
end Go.Proofs.YtncbmkflilcdgaiGreatDoor
