/-
  The number of a text of bits: the program's and the document's, by their contracts.
-/
import Derived.Test.YtekbhjacgdncbacDoorTextR
import Derived.Laws.BitsAll
namespace Go.Proofs.YtekbhjacgdncbacDoor
open Go Go.RowKit

theorem four_any (c : Nat) (w : World) (h : c < 256) :
    Calls Tryd.prog 13 #[.int .u8 c] w fun e w' => e = .returned (.tuple #[.int .u64 ((digB c).getD 0 : Nat), .bool (digB c).isSome]) ∧ w' = w := by
  unfold digB
  by_cases h1 : 48 ≤ c ∧ c ≤ 57
  · rw [if_pos h1]
    obtain ⟨h1, h2⟩ := h1
    have e : IntKind.u8.wrap ((c : Int) - 48) = ((c - 48 : Nat) : Int) := by rw [IntKind.wrap_u8']; omega
    simp only [Option.getD_some, Option.isSome_some]
    go_enter Tryd.func13, Tryd.ntmps13
    go_wp2
    go_ret2
    exact ⟨rfl, rfl⟩
  · rw [if_neg h1]
    by_cases h2 : 97 ≤ c ∧ c ≤ 102
    · rw [if_pos h2]
      obtain ⟨h2, h3⟩ := h2
      have e : IntKind.u8.wrap ((c : Int) - 97) = ((c - 97 : Nat) : Int) := by rw [IntKind.wrap_u8']; omega
      have e2 : IntKind.u64.wrap (((c - 97 : Nat) : Int) + 10) = ((c - 87 : Nat) : Int) := by rw [IntKind.wrap_u64]; omega
      have g1 : decide ((c : Int) ≤ 57) = false := by simp; omega
      clear h1
      simp only [Option.getD_some, Option.isSome_some]
      go_enter Tryd.func13, Tryd.ntmps13
      go_wp2
      all_goals
        go_ret2
        exact ⟨rfl, rfl⟩
    · rw [if_neg h2]
      by_cases h3 : 65 ≤ c ∧ c ≤ 70
      · rw [if_pos h3]
        obtain ⟨h3, h4⟩ := h3
        have e : IntKind.u8.wrap ((c : Int) - 65) = ((c - 65 : Nat) : Int) := by rw [IntKind.wrap_u8']; omega
        have e2 : IntKind.u64.wrap (((c - 65 : Nat) : Int) + 10) = ((c - 55 : Nat) : Int) := by rw [IntKind.wrap_u64]; omega
        have g1 : decide ((c : Int) ≤ 57) = false := by simp; omega
        clear h1 h2
        simp only [Option.getD_some, Option.isSome_some]
        go_enter Tryd.func13, Tryd.ntmps13
        go_wp2
        all_goals
          go_ret2
          exact ⟨rfl, rfl⟩
      · rw [if_neg h3]
        have g1 : ¬ (48 ≤ (c : Int) ∧ (c : Int) ≤ 57) := by omega
        have g2 : ¬ (97 ≤ (c : Int) ∧ (c : Int) ≤ 102) := by omega
        have g3 : ¬ (65 ≤ (c : Int) ∧ (c : Int) ≤ 70) := by omega
        clear h1 h2 h3
        simp only [Option.getD_none, Option.isSome_none]
        go_enter Tryd.func13, Tryd.ntmps13
        go_wp2
        all_goals
          go_ret2
          exact ⟨rfl, rfl⟩
theorem byte_is (s : ByteArray) (k : Nat) (h : k < s.size) : (s[k]'h).toNat = byteAt s k := by
  unfold byteAt
  have hd : k < s.data.toList.length := by simpa using h
  simp only [List.getD, List.getElem?_eq_getElem hd, Option.getD_some]
  rfl
theorem byte_lt (s : ByteArray) (k : Nat) : byteAt s k < 256 := UInt8.toNat_lt _

/-- what Read hands back: the number and no fault, or 0 and a fault at p. -/
def ReadOut (g0 : Addr) (w : World) (r : Nat × Int) (e : Ending) (w' : World) : Prop :=
  (r.2 = -1 ∧ e = .returned (.tuple #[.float .f64 r.1, .nilIface]) ∧ Below w.heap.size w w') ∨
  (r.2 ≠ -1 ∧ ∃ fb, e = .returned (.tuple #[.float .f64 0, .iface 43 (.pointer (some ⟨fb, 0, none⟩))]) ∧ w'.cell? ⟨fb, 0, none⟩ = some (.int .i64 r.2) ∧ w'.cell? ⟨fb, 1, none⟩ = some (.iface 83 (.pointer (some g0))) ∧ Below w.heap.size w w')

theorem or_digit (n d : Nat) (hn : n < 1152921504606846976) (hd : d < 16) : bits .or .u64 ((n * 16 : Nat) : Int) (d : Int) = ((n * 16 + d : Nat) : Int) := by
  rw [u64_or_nat (n * 16) d (by omega) (by omega)]
  congr 1
  have h := Nat.two_pow_add_eq_or_of_lt (i := 4) (show d < 2 ^ 4 by omega) n
  rw [show n * 16 = 2 ^ 4 * n by omega]
  exact h.symm
theorem rd_end {s : ByteArray} {k i n : Nat} (h : s.size ≤ i) : rdFrom s (k + 1) i n = (0, (s.size : Int)) := by rw [rdFrom, if_pos h]
theorem rd_none {s : ByteArray} {k i n : Nat} (h : i < s.size) (hd : digB (byteAt s i) = none) : rdFrom s (k + 1) i n = (0, (i : Int)) := by
  rw [rdFrom, if_neg (by omega), hd]
theorem rd_some {s : ByteArray} {k i n d : Nat} (h : i < s.size) (hd : digB (byteAt s i) = some d) : rdFrom s (k + 1) i n = rdFrom s k (i + 1) (n * 16 + d) := by
  rw [rdFrom, if_neg (by omega), hd]
theorem pow_step {n d k : Nat} (hn : n < 16 ^ k) (hd : d < 16) : n * 16 + d < 16 ^ (k + 1) := by
  rw [Nat.pow_succ]
  omega
theorem pow_le15 {n k : Nat} (hn : n < 16 ^ k) (hk : k < 16) : n < 1152921504606846976 := by
  have : (16 : Nat) ^ k ≤ 16 ^ 15 := Nat.pow_le_pow_right (by decide) (by omega)
  rw [show (16 : Nat) ^ 15 = 1152921504606846976 by decide] at this
  omega
theorem fault_out2 {w w' : World} {g0 : Addr} {p : Int} {e : Ending} {fb : Nat} (hp : p ≠ -1) (he : e = .returned (.tuple #[.float .f64 0, .iface 43 (.pointer (some ⟨fb, 0, none⟩))]))
    (h0 : w'.cell? ⟨fb, 0, none⟩ = some (.int .i64 p)) (h1 : w'.cell? ⟨fb, 1, none⟩ = some (.iface 83 (.pointer (some g0)))) (hb : Below w.heap.size w w') : ReadOut g0 w (0, p) e w' :=
  .inr ⟨hp, fb, he, h0, h1, hb⟩

set_option maxHeartbeats 4000000 in
theorem read_any (s : ByteArray) (g0 : Addr) (w : World) (hs : s.size ≤ 9223372036854775807) (hg : w.cell? ⟨0, 0, none⟩ = some (.iface 83 (.pointer (some g0)))) :
    Calls Tryd.prog 5 #[.string s] w (ReadOut g0 w (rdV s)) := by
  generalize hr : rdV s = r
  have HR := hideT hr
  clear hr
  have hfb := run_frombits
  rcases (show s.size < 16 ∨ s.size = 16 ∨ 16 < s.size by omega) with hsz | hsz | hsz
  · go_enter Tryd.func5, Tryd.ntmps5
    go_wp2
    go_loop [4, 11] (fun n i => ∃ k m : Nat, k ≤ s.size ∧ n = .int .u64 m ∧ i = .int .i64 k ∧ HeldT (m < 16 ^ k) ∧ HeldT (rdFrom s (16 - k) k m = r)) (fun _ i => 16 - (intOf i).toNat)
    case atStart => exact ⟨0, 0, by omega, rfl, rfl, (show 0 < 16 ^ 0 by decide), HR⟩
    case round =>
      obtain ⟨k, m, hk, rfl, rfl, HM, HV⟩ := hrel
      by_cases hlt : k < s.size
      · have hlt2 : k < s.size := by omega
        have hbl := byte_lt s k
        have hfour := fun v => four_any (byteAt s k) v hbl
        have hby := byte_is s k hlt2
        cases hd : digB (byteAt s k) with
        | none =>
          have hval : r = (0, (k : Int)) := by
            rw [← unhideT HV, show 16 - k = (15 - k) + 1 by omega]
            exact rd_none hlt2 hd
          rw [hd] at hfour
          have HVAL := hideT hval
          clear hval hd HV HM
          go_wp2_with fail
          refine (hfour _).mono ?_
          rintro e w1 ⟨rfl, rfl⟩
          go_wp2
          go_region
          all_goals
            go_wp2
            rw [unhideT HVAL]
            go_ret2
            exact fault_out2 (by omega) rfl (by simp [go_sem]) (by simp [go_sem]) (by first | exact Below.drew ((Below.refl _ _).alloc (Nat.le_refl _) _) | exact (Below.drew (Below.refl _ _)).alloc (Nat.le_refl _) _)
        | some d =>
          have hdl := digB_lt hd
          have hml := pow_le15 (unhideT HM) (by omega)
          have HOR := hideT (or_digit m d hml hdl)
          have hval : HeldT (rdFrom s (16 - (k + 1)) (k + 1) (m * 16 + d) = r) := by
            have h1 := unhideT HV
            rw [show 16 - k = (15 - k) + 1 by omega, rd_some hlt2 hd] at h1
            rw [show 16 - (k + 1) = 15 - k by omega]
            exact h1
          have hm2 := hideT (pow_step (unhideT HM) hdl)
          rw [hd] at hfour
          have hw : IntKind.u64.wrap ((m : Int) * 16) = (m : Int) * 16 := by rw [IntKind.wrap_u64]; omega
          clear hd HV HM
          go_wp2_with fail
          refine (hfour _).mono ?_
          rintro e w1 ⟨rfl, rfl⟩
          go_wp2
          refine ⟨⟨k + 1, m * 16 + d, by omega, ?_, by go_num, hm2, hval⟩, by simp [intOf]; omega⟩
          have h1 := unhideT HOR
          rw [show ((m * 16 : Nat) : Int) = (m : Int) * 16 by omega] at h1
          rw [h1]
      · obtain rfl : k = s.size := by omega
        have hval : r = (0, (s.size : Int)) := by
          rw [← unhideT HV, show 16 - s.size = (15 - s.size) + 1 by omega]
          exact rd_end (Nat.le_refl _)
        have HVAL := hideT hval
        clear hval HV HM hlt
        have hne : ((s.size : Int) == 16) = false := by rw [beq_eq_false_iff_ne]; omega
        go_wp2
        go_region
        all_goals
          go_wp2
          rw [unhideT HVAL]
          go_ret2
          exact fault_out2 (by omega) rfl (by simp [go_sem]) (by simp [go_sem]) (by first | exact Below.drew ((Below.refl _ _).alloc (Nat.le_refl _) _) | exact (Below.drew (Below.refl _ _)).alloc (Nat.le_refl _) _)
  · go_enter Tryd.func5, Tryd.ntmps5
    go_wp2
    go_loop [4, 11] (fun n i => ∃ k m : Nat, k ≤ 16 ∧ n = .int .u64 m ∧ i = .int .i64 k ∧ HeldT (m < 16 ^ k) ∧ HeldT (rdFrom s (16 - k) k m = r)) (fun _ i => 16 - (intOf i).toNat)
    case atStart => exact ⟨0, 0, by omega, rfl, rfl, (show 0 < 16 ^ 0 by decide), HR⟩
    case round =>
      obtain ⟨k, m, hk, rfl, rfl, HM, HV⟩ := hrel
      by_cases hlt : k < 16
      · have hlt2 : k < s.size := by omega
        have hbl := byte_lt s k
        have hfour := fun v => four_any (byteAt s k) v hbl
        have hby := byte_is s k hlt2
        cases hd : digB (byteAt s k) with
        | none =>
          have hval : r = (0, (k : Int)) := by
            rw [← unhideT HV, show 16 - k = (15 - k) + 1 by omega]
            exact rd_none hlt2 hd
          rw [hd] at hfour
          have HVAL := hideT hval
          clear hval hd HV HM
          go_wp2_with fail
          refine (hfour _).mono ?_
          rintro e w1 ⟨rfl, rfl⟩
          go_wp2
          go_region
          all_goals
            go_wp2
            rw [unhideT HVAL]
            go_ret2
            exact fault_out2 (by omega) rfl (by simp [go_sem]) (by simp [go_sem]) (by first | exact Below.drew ((Below.refl _ _).alloc (Nat.le_refl _) _) | exact (Below.drew (Below.refl _ _)).alloc (Nat.le_refl _) _)
        | some d =>
          have hdl := digB_lt hd
          have hml := pow_le15 (unhideT HM) (by omega)
          have HOR := hideT (or_digit m d hml hdl)
          have hval : HeldT (rdFrom s (16 - (k + 1)) (k + 1) (m * 16 + d) = r) := by
            have h1 := unhideT HV
            rw [show 16 - k = (15 - k) + 1 by omega, rd_some hlt2 hd] at h1
            rw [show 16 - (k + 1) = 15 - k by omega]
            exact h1
          have hm2 := hideT (pow_step (unhideT HM) hdl)
          rw [hd] at hfour
          have hw : IntKind.u64.wrap ((m : Int) * 16) = (m : Int) * 16 := by rw [IntKind.wrap_u64]; omega
          clear hd HV HM
          go_wp2_with fail
          refine (hfour _).mono ?_
          rintro e w1 ⟨rfl, rfl⟩
          go_wp2
          refine ⟨⟨k + 1, m * 16 + d, by omega, ?_, by go_num, hm2, hval⟩, by simp [intOf]; omega⟩
          have h1 := unhideT HOR
          rw [show ((m * 16 : Nat) : Int) = (m : Int) * 16 by omega] at h1
          rw [h1]
      · obtain rfl : k = 16 := by omega
        have hval : r = (m, -1) := by
          rw [← unhideT HV]
          show rdFrom s 0 16 m = _
          rw [rdFrom, if_neg (by omega)]
        have HVAL := hideT hval
        clear hval HV HM hlt
        go_wp2
        rw [unhideT HVAL]
        go_ret2
        exact .inl ⟨rfl, rfl, Below.refl _ _⟩
  · go_enter Tryd.func5, Tryd.ntmps5
    go_wp2
    go_loop [4, 11] (fun n i => ∃ k m : Nat, k ≤ 16 ∧ n = .int .u64 m ∧ i = .int .i64 k ∧ HeldT (m < 16 ^ k) ∧ HeldT (rdFrom s (16 - k) k m = r)) (fun _ i => 16 - (intOf i).toNat)
    case atStart => exact ⟨0, 0, by omega, rfl, rfl, (show 0 < 16 ^ 0 by decide), HR⟩
    case round =>
      obtain ⟨k, m, hk, rfl, rfl, HM, HV⟩ := hrel
      by_cases hlt : k < 16
      · have hlt2 : k < s.size := by omega
        have hbl := byte_lt s k
        have hfour := fun v => four_any (byteAt s k) v hbl
        have hby := byte_is s k hlt2
        cases hd : digB (byteAt s k) with
        | none =>
          have hval : r = (0, (k : Int)) := by
            rw [← unhideT HV, show 16 - k = (15 - k) + 1 by omega]
            exact rd_none hlt2 hd
          rw [hd] at hfour
          have HVAL := hideT hval
          clear hval hd HV HM
          go_wp2_with fail
          refine (hfour _).mono ?_
          rintro e w1 ⟨rfl, rfl⟩
          go_wp2
          go_region
          all_goals
            go_wp2
            rw [unhideT HVAL]
            go_ret2
            exact fault_out2 (by omega) rfl (by simp [go_sem]) (by simp [go_sem]) (by first | exact Below.drew ((Below.refl _ _).alloc (Nat.le_refl _) _) | exact (Below.drew (Below.refl _ _)).alloc (Nat.le_refl _) _)
        | some d =>
          have hdl := digB_lt hd
          have hml := pow_le15 (unhideT HM) (by omega)
          have HOR := hideT (or_digit m d hml hdl)
          have hval : HeldT (rdFrom s (16 - (k + 1)) (k + 1) (m * 16 + d) = r) := by
            have h1 := unhideT HV
            rw [show 16 - k = (15 - k) + 1 by omega, rd_some hlt2 hd] at h1
            rw [show 16 - (k + 1) = 15 - k by omega]
            exact h1
          have hm2 := hideT (pow_step (unhideT HM) hdl)
          rw [hd] at hfour
          have hw : IntKind.u64.wrap ((m : Int) * 16) = (m : Int) * 16 := by rw [IntKind.wrap_u64]; omega
          clear hd HV HM
          go_wp2_with fail
          refine (hfour _).mono ?_
          rintro e w1 ⟨rfl, rfl⟩
          go_wp2
          refine ⟨⟨k + 1, m * 16 + d, by omega, ?_, by go_num, hm2, hval⟩, by simp [intOf]; omega⟩
          have h1 := unhideT HOR
          rw [show ((m * 16 : Nat) : Int) = (m : Int) * 16 by omega] at h1
          rw [h1]
      · obtain rfl : k = 16 := by omega
        have hval : r = (0, 16) := by
          rw [← unhideT HV]
          show rdFrom s 0 16 m = _
          rw [rdFrom, if_pos (by omega)]
        have HVAL := hideT hval
        clear hval HV HM hlt
        have hne : ((s.size : Int) == 16) = false := by rw [beq_eq_false_iff_ne]; omega
        go_wp2
        go_region
        all_goals
          go_wp2
          rw [unhideT HVAL]
          go_ret2
          exact fault_out2 (by omega) rfl (by simp [go_sem]) (by simp [go_sem]) (by first | exact Below.drew ((Below.refl _ _).alloc (Nat.le_refl _) _) | exact (Below.drew (Below.refl _ _)).alloc (Nat.le_refl _) _)
end Go.Proofs.YtekbhjacgdncbacDoor
