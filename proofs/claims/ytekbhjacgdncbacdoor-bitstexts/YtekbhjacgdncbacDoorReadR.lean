/-
  The document's number of a text of bits, by its contract.
-/
import Derived.Test.YtekbhjacgdncbacDoorReadW
namespace Go.Proofs.YtekbhjacgdncbacDoor
open Go Go.RowKit

def codeOf (p : Int) : Int := if p = -1 then 0 else 1
set_option maxHeartbeats 4000000 in
theorem readBits_any (s : ByteArray) (w : World) (hs : s.size ≤ 9223372036854775807) :
    Calls Tryd.prog 6 #[.string s] w fun e w' => e = .returned (.tuple #[.float .f64 (rdV s).1, .agg #[.int .i64 (codeOf (rdV s).2), .int .i64 (rdV s).2]]) ∧ Below w.heap.size w w' := by
  generalize hr : rdV s = r
  have HR := hideT hr
  clear hr
  have hfb := run_frombits
  go_enter Tryd.func6, Tryd.ntmps6
  go_wp2
  go_loop [4, 5] (fun n i => ∃ k m : Nat, k ≤ 16 ∧ n = .int .u64 m ∧ i = .int .i64 k ∧ HeldT (m < 16 ^ k) ∧ HeldT (rdFrom s (16 - k) k m = r)) (fun _ i => 16 - (intOf i).toNat)
  case atStart => exact ⟨0, 0, by omega, rfl, rfl, (show 0 < 16 ^ 0 by decide), HR⟩
  case round =>
    obtain ⟨k, m, hk, rfl, rfl, HM, HV⟩ := hrel
    by_cases hlt : k < 16
    · by_cases hsz : k < s.size
      · have hby := byte_is s k hsz
        have hbl := byte_lt s k
        have hml := pow_le15 (unhideT HM) hlt
        rcases (show (48 ≤ byteAt s k ∧ byteAt s k ≤ 57) ∨ (97 ≤ byteAt s k ∧ byteAt s k ≤ 102) ∨ (65 ≤ byteAt s k ∧ byteAt s k ≤ 70) ∨ (¬ (48 ≤ byteAt s k ∧ byteAt s k ≤ 57) ∧ ¬ (97 ≤ byteAt s k ∧ byteAt s k ≤ 102) ∧ ¬ (65 ≤ byteAt s k ∧ byteAt s k ≤ 70)) by omega) with hc | hc | hc | hc
        · have hd : digB (byteAt s k) = some (byteAt s k - 48) := by unfold digB; rw [if_pos hc]
          have HV2 : HeldT (rdFrom s (16 - (k + 1)) (k + 1) (m * 16 + (byteAt s k - 48)) = r) := by
            have h1 := unhideT HV
            rw [show 16 - k = (15 - k) + 1 by omega, rd_some hsz hd] at h1
            rw [show 16 - (k + 1) = 15 - k by omega]
            exact h1
          have hm2 := hideT (pow_step (unhideT HM) (show byteAt s k - 48 < 16 by omega))
          clear HV HM hd
          generalize byteAt s k = b at *
          have hu : IntKind.u64.wrap ((b : Int) - 48) = (b : Int) - 48 := by rw [IntKind.wrap_u64]; omega
          have hm16 : IntKind.u64.wrap ((m : Int) * 16) = (m : Int) * 16 := by rw [IntKind.wrap_u64]; omega
          have hs16 : IntKind.u64.wrap ((m : Int) * 16 + ((b : Int) - 48)) = (m : Int) * 16 + ((b : Int) - 48) := by rw [IntKind.wrap_u64]; omega
          go_wp2
          all_goals
            exact ⟨⟨k + 1, m * 16 + (b - 48), by omega, by congr 1; omega, by go_num, hm2, HV2⟩, by simp [intOf]; omega⟩
        · have hd : digB (byteAt s k) = some (byteAt s k - 87) := by unfold digB; rw [if_neg (by omega), if_pos hc]
          have HV2 : HeldT (rdFrom s (16 - (k + 1)) (k + 1) (m * 16 + (byteAt s k - 87)) = r) := by
            have h1 := unhideT HV
            rw [show 16 - k = (15 - k) + 1 by omega, rd_some hsz hd] at h1
            rw [show 16 - (k + 1) = 15 - k by omega]
            exact h1
          have hm2 := hideT (pow_step (unhideT HM) (show byteAt s k - 87 < 16 by omega))
          clear HV HM hd
          generalize byteAt s k = b at *
          have hu : IntKind.u64.wrap ((b : Int) - 87) = (b : Int) - 87 := by rw [IntKind.wrap_u64]; omega
          have hm16 : IntKind.u64.wrap ((m : Int) * 16) = (m : Int) * 16 := by rw [IntKind.wrap_u64]; omega
          have hs16 : IntKind.u64.wrap ((m : Int) * 16 + ((b : Int) - 87)) = (m : Int) * 16 + ((b : Int) - 87) := by rw [IntKind.wrap_u64]; omega
          go_wp2
          all_goals
            exact ⟨⟨k + 1, m * 16 + (b - 87), by omega, by congr 1; omega, by go_num, hm2, HV2⟩, by simp [intOf]; omega⟩
        · have hd : digB (byteAt s k) = some (byteAt s k - 55) := by unfold digB; rw [if_neg (by omega), if_neg (by omega), if_pos hc]
          have HV2 : HeldT (rdFrom s (16 - (k + 1)) (k + 1) (m * 16 + (byteAt s k - 55)) = r) := by
            have h1 := unhideT HV
            rw [show 16 - k = (15 - k) + 1 by omega, rd_some hsz hd] at h1
            rw [show 16 - (k + 1) = 15 - k by omega]
            exact h1
          have hm2 := hideT (pow_step (unhideT HM) (show byteAt s k - 55 < 16 by omega))
          clear HV HM hd
          generalize byteAt s k = b at *
          have hu : IntKind.u64.wrap ((b : Int) - 55) = (b : Int) - 55 := by rw [IntKind.wrap_u64]; omega
          have hm16 : IntKind.u64.wrap ((m : Int) * 16) = (m : Int) * 16 := by rw [IntKind.wrap_u64]; omega
          have hs16 : IntKind.u64.wrap ((m : Int) * 16 + ((b : Int) - 55)) = (m : Int) * 16 + ((b : Int) - 55) := by rw [IntKind.wrap_u64]; omega
          go_wp2
          all_goals
            exact ⟨⟨k + 1, m * 16 + (b - 55), by omega, by congr 1; omega, by go_num, hm2, HV2⟩, by simp [intOf]; omega⟩
        · have hd : digB (byteAt s k) = none := by unfold digB; rw [if_neg hc.1, if_neg hc.2.1, if_neg hc.2.2]
          have hval : r = (0, (k : Int)) := by
            rw [← unhideT HV, show 16 - k = (15 - k) + 1 by omega]
            exact rd_none hsz hd
          have HVAL := hideT hval
          clear hval HV HM hd
          generalize byteAt s k = b at *
          have c1 : ¬ (48 ≤ (b : Int) ∧ (b : Int) ≤ 57) := by omega
          have c2 : ¬ (97 ≤ (b : Int) ∧ (b : Int) ≤ 102) := by omega
          have c3 : ¬ (65 ≤ (b : Int) ∧ (b : Int) ≤ 70) := by omega
          clear hc
          go_wp2
          try go_region
          all_goals
            try go_wp2
            rw [unhideT HVAL]
            simp [bodyPost, results, Tryd.results6, go_sem, codeOf]
            first | exact (Below.refl w.heap.size w).alloc (Nat.le_refl _) _ | exact Below.drew ((Below.refl w.heap.size w).alloc (Nat.le_refl _) _)
      · have hval : r = (0, (s.size : Int)) := by
          rw [← unhideT HV, show 16 - k = (15 - k) + 1 by omega]
          exact rd_end (by omega)
        have HVAL := hideT hval
        clear hval HV HM
        go_wp2
        try go_region
        all_goals
          try go_wp2
          rw [unhideT HVAL]
          simp [bodyPost, results, Tryd.results6, go_sem, codeOf]
          first | exact (Below.refl w.heap.size w).alloc (Nat.le_refl _) _ | exact Below.drew ((Below.refl w.heap.size w).alloc (Nat.le_refl _) _)
    · obtain rfl : k = 16 := by omega
      rcases (show s.size ≤ 16 ∨ 16 < s.size by omega) with hsz | hsz
      · have hval : r = (m, -1) := by
          rw [← unhideT HV]
          show rdFrom s 0 16 m = _
          rw [rdFrom, if_neg (by omega)]
        have HVAL := hideT hval
        clear hval HV HM hlt
        go_wp2
        try go_region
        all_goals
          try go_wp2
          rw [unhideT HVAL]
          simp [bodyPost, results, Tryd.results6, go_sem, codeOf]
          first | exact (Below.refl w.heap.size w).alloc (Nat.le_refl _) _ | exact Below.drew ((Below.refl w.heap.size w).alloc (Nat.le_refl _) _)
      · have hval : r = (0, 16) := by
          rw [← unhideT HV]
          show rdFrom s 0 16 m = _
          rw [rdFrom, if_pos hsz]
        have HVAL := hideT hval
        clear hval HV HM hlt
        go_wp2
        try go_region
        all_goals
          try go_wp2
          rw [unhideT HVAL]
          simp [bodyPost, results, Tryd.results6, go_sem, codeOf]
          first | exact (Below.refl w.heap.size w).alloc (Nat.le_refl _) _ | exact Below.drew ((Below.refl w.heap.size w).alloc (Nat.le_refl _) _)
end Go.Proofs.YtekbhjacgdncbacDoor
