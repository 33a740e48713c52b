/-
  The document's text of a number's bits, by its contract; Same.
-/
import Derived.Test.YtekbhjacgdncbacDoorTextW
import Derived.Deep.QuietTactic
import Derived.Deep.RegionWith
namespace Go.Proofs.YtekbhjacgdncbacDoor
open Go Go.RowKit

theorem slice_0 (w : World) : (Instr.slice 9 (.string ⟨#[48, 49, 50, 51, 52, 53, 54, 55, 56, 57, 97, 98, 99, 100, 101, 102]⟩) (some (.int .i64 0)) (some (.int .i64 (0 + 1))) none).run Tryd.prog w = .ok (.string ⟨#[48]⟩) w := by kernel_rfl
theorem slice_1 (w : World) : (Instr.slice 9 (.string ⟨#[48, 49, 50, 51, 52, 53, 54, 55, 56, 57, 97, 98, 99, 100, 101, 102]⟩) (some (.int .i64 1)) (some (.int .i64 (1 + 1))) none).run Tryd.prog w = .ok (.string ⟨#[49]⟩) w := by kernel_rfl
theorem slice_2 (w : World) : (Instr.slice 9 (.string ⟨#[48, 49, 50, 51, 52, 53, 54, 55, 56, 57, 97, 98, 99, 100, 101, 102]⟩) (some (.int .i64 2)) (some (.int .i64 (2 + 1))) none).run Tryd.prog w = .ok (.string ⟨#[50]⟩) w := by kernel_rfl
theorem slice_3 (w : World) : (Instr.slice 9 (.string ⟨#[48, 49, 50, 51, 52, 53, 54, 55, 56, 57, 97, 98, 99, 100, 101, 102]⟩) (some (.int .i64 3)) (some (.int .i64 (3 + 1))) none).run Tryd.prog w = .ok (.string ⟨#[51]⟩) w := by kernel_rfl
theorem slice_4 (w : World) : (Instr.slice 9 (.string ⟨#[48, 49, 50, 51, 52, 53, 54, 55, 56, 57, 97, 98, 99, 100, 101, 102]⟩) (some (.int .i64 4)) (some (.int .i64 (4 + 1))) none).run Tryd.prog w = .ok (.string ⟨#[52]⟩) w := by kernel_rfl
theorem slice_5 (w : World) : (Instr.slice 9 (.string ⟨#[48, 49, 50, 51, 52, 53, 54, 55, 56, 57, 97, 98, 99, 100, 101, 102]⟩) (some (.int .i64 5)) (some (.int .i64 (5 + 1))) none).run Tryd.prog w = .ok (.string ⟨#[53]⟩) w := by kernel_rfl
theorem slice_6 (w : World) : (Instr.slice 9 (.string ⟨#[48, 49, 50, 51, 52, 53, 54, 55, 56, 57, 97, 98, 99, 100, 101, 102]⟩) (some (.int .i64 6)) (some (.int .i64 (6 + 1))) none).run Tryd.prog w = .ok (.string ⟨#[54]⟩) w := by kernel_rfl
theorem slice_7 (w : World) : (Instr.slice 9 (.string ⟨#[48, 49, 50, 51, 52, 53, 54, 55, 56, 57, 97, 98, 99, 100, 101, 102]⟩) (some (.int .i64 7)) (some (.int .i64 (7 + 1))) none).run Tryd.prog w = .ok (.string ⟨#[55]⟩) w := by kernel_rfl
theorem slice_8 (w : World) : (Instr.slice 9 (.string ⟨#[48, 49, 50, 51, 52, 53, 54, 55, 56, 57, 97, 98, 99, 100, 101, 102]⟩) (some (.int .i64 8)) (some (.int .i64 (8 + 1))) none).run Tryd.prog w = .ok (.string ⟨#[56]⟩) w := by kernel_rfl
theorem slice_9 (w : World) : (Instr.slice 9 (.string ⟨#[48, 49, 50, 51, 52, 53, 54, 55, 56, 57, 97, 98, 99, 100, 101, 102]⟩) (some (.int .i64 9)) (some (.int .i64 (9 + 1))) none).run Tryd.prog w = .ok (.string ⟨#[57]⟩) w := by kernel_rfl
theorem slice_10 (w : World) : (Instr.slice 9 (.string ⟨#[48, 49, 50, 51, 52, 53, 54, 55, 56, 57, 97, 98, 99, 100, 101, 102]⟩) (some (.int .i64 10)) (some (.int .i64 (10 + 1))) none).run Tryd.prog w = .ok (.string ⟨#[97]⟩) w := by kernel_rfl
theorem slice_11 (w : World) : (Instr.slice 9 (.string ⟨#[48, 49, 50, 51, 52, 53, 54, 55, 56, 57, 97, 98, 99, 100, 101, 102]⟩) (some (.int .i64 11)) (some (.int .i64 (11 + 1))) none).run Tryd.prog w = .ok (.string ⟨#[98]⟩) w := by kernel_rfl
theorem slice_12 (w : World) : (Instr.slice 9 (.string ⟨#[48, 49, 50, 51, 52, 53, 54, 55, 56, 57, 97, 98, 99, 100, 101, 102]⟩) (some (.int .i64 12)) (some (.int .i64 (12 + 1))) none).run Tryd.prog w = .ok (.string ⟨#[99]⟩) w := by kernel_rfl
theorem slice_13 (w : World) : (Instr.slice 9 (.string ⟨#[48, 49, 50, 51, 52, 53, 54, 55, 56, 57, 97, 98, 99, 100, 101, 102]⟩) (some (.int .i64 13)) (some (.int .i64 (13 + 1))) none).run Tryd.prog w = .ok (.string ⟨#[100]⟩) w := by kernel_rfl
theorem slice_14 (w : World) : (Instr.slice 9 (.string ⟨#[48, 49, 50, 51, 52, 53, 54, 55, 56, 57, 97, 98, 99, 100, 101, 102]⟩) (some (.int .i64 14)) (some (.int .i64 (14 + 1))) none).run Tryd.prog w = .ok (.string ⟨#[101]⟩) w := by kernel_rfl
theorem slice_15 (w : World) : (Instr.slice 9 (.string ⟨#[48, 49, 50, 51, 52, 53, 54, 55, 56, 57, 97, 98, 99, 100, 101, 102]⟩) (some (.int .i64 15)) (some (.int .i64 (15 + 1))) none).run Tryd.prog w = .ok (.string ⟨#[102]⟩) w := by kernel_rfl
theorem slice_at (d : Nat) (h : d < 16) (w : World) : (Instr.slice 9 (.string ⟨#[48, 49, 50, 51, 52, 53, 54, 55, 56, 57, 97, 98, 99, 100, 101, 102]⟩) (some (.int .i64 (d : Int))) (some (.int .i64 ((d : Int) + 1))) none).run Tryd.prog w = .ok (.string ⟨#[hexC d]⟩) w := by
  have hj : d = 0 ∨ d = 1 ∨ d = 2 ∨ d = 3 ∨ d = 4 ∨ d = 5 ∨ d = 6 ∨ d = 7 ∨ d = 8 ∨ d = 9 ∨ d = 10 ∨ d = 11 ∨ d = 12 ∨ d = 13 ∨ d = 14 ∨ d = 15 := by omega
  rcases hj with rfl | rfl | rfl | rfl | rfl | rfl | rfl | rfl | rfl | rfl | rfl | rfl | rfl | rfl | rfl | rfl
  · exact slice_0 w
  · exact slice_1 w
  · exact slice_2 w
  · exact slice_3 w
  · exact slice_4 w
  · exact slice_5 w
  · exact slice_6 w
  · exact slice_7 w
  · exact slice_8 w
  · exact slice_9 w
  · exact slice_10 w
  · exact slice_11 w
  · exact slice_12 w
  · exact slice_13 w
  · exact slice_14 w
  · exact slice_15 w
def hexB (n k : Nat) : ByteArray := ⟨(hexL n k).toArray⟩
theorem hexB_step (n k : Nat) : (⟨#[hexC (n / 16 ^ k % 16)]⟩ : ByteArray) ++ hexB n k = hexB n (k + 1) := by
  unfold hexB
  rw [hexL]
  apply ByteArray.ext
  simp
theorem hexB_full (n : Nat) : hexB n 16 = hexS n := rfl
theorem hexB_size (n k : Nat) : (hexB n k).size = k := by
  show (hexL n k).toArray.size = k
  rw [List.size_toArray, hexL_len]
set_option maxHeartbeats 1000000 in
set_option maxRecDepth 100000 in
theorem bitsText_any (x : Nat) (w : World) (hx : x < 18446744073709551616) :
    Calls Tryd.prog 10 #[.float .f64 x] w fun e w' => e = .returned (.string (hexS (textN x))) ∧ Below w.heap.size w w' := by
  have hb := run_tobits
  have ho := order_self x
  unfold textN
  cases h : nanB x with
  | true =>
    rw [h] at ho
    have hs : hexS 9221120237041090560 = ⟨#[55, 102, 102, 56, 48, 48, 48, 48, 48, 48, 48, 48, 48, 48, 48, 48]⟩ := by decide +kernel
    simp only [if_true]
    rw [hs]
    clear hs
    go_enter Tryd.func10, Tryd.ntmps10
    go_wp2
    go_ret
    exact ⟨rfl, Below.refl _ _⟩
  | false =>
    rw [h] at ho
    simp only [Bool.false_eq_true, if_false]
    go_enter Tryd.func10, Tryd.ntmps10
    go_wp2
    have hcutD := slice_at
    generalize ByteArray.mk #[48, 49, 50, 51, 52, 53, 54, 55, 56, 57, 97, 98, 99, 100, 101, 102] = D at *
    have HC := hideT hcutD
    clear hcutD
    go_loop [3, 5, 6] (fun n o i => ∃ k : Nat, k ≤ 16 ∧ n = .int .u64 ((x / 16 ^ k : Nat) : Int) ∧ o = .string (hexB x k) ∧ i = .int .i64 k) (fun _ _ i => 16 - (intOf i).toNat)
    case atStart => exact ⟨0, by omega, by simp, rfl, rfl⟩
    case round =>
      obtain ⟨k, hk, rfl, rfl, rfl⟩ := hrel
      have hle : x / 16 ^ k ≤ x := Nat.div_le_self _ _
      by_cases hlt : k < 16
      · have hd : x / 16 ^ (k + 1) = x / 16 ^ k / 16 := by rw [Nat.pow_succ, Nat.div_div_eq_div_mul]
        have hst := hexB_step x k
        generalize x / 16 ^ k = y at *
        have HD := hideT hd
        have HS := hideT hst
        clear hd hst
        have hcut := unhideT HC (y % 16) (by omega)
        rw [show ((y % 16 : Nat) : Int) = (y : Int) % 16 by omega] at hcut
        have hsz := hexB_size x k
        generalize hexB x k = o at *
        go_wp2
        refine ⟨⟨k + 1, by omega, ?_, by rw [unhideT HS], by go_num⟩, by simp [intOf]; omega⟩
        rw [unhideT HD]
        rfl
      · generalize x / 16 ^ k = y at *
        obtain rfl : k = 16 := by omega
        rw [hexB_full]
        go_wp2
        go_ret
        exact ⟨rfl, Below.refl _ _⟩
theorem same_any (x y : Nat) (w : World) : Calls Tryd.prog 9 #[.float .f64 x, .float .f64 y] w fun e w' => e = .returned (.bool (sameB x y)) ∧ w' = w := by
  have hb := run_tobits
  have hx := fun v => isNaN_any x v
  have hy := fun v => isNaN_any y v
  have he : ((x : Int) == (y : Int)) = (x == y) := by
    by_cases h : x = y
    · subst h; simp
    · rw [beq_eq_false_iff_ne.2 h, beq_eq_false_iff_ne.2 (by omega)]
  have hs : sameB x y = ((x == y) || (nanB x && nanB y)) := by
    unfold sameB
    by_cases h : x = y
    · subst h; cases nanB x <;> simp
    · rw [beq_eq_false_iff_ne.2 h]; cases nanB x <;> simp
  rw [hs]
  clear hs
  generalize nanB x = a at *
  generalize nanB y = b at *
  cases hxy : (x == y) <;> rw [hxy] at he <;> cases a <;> cases b
  all_goals
    go_enter Tryd.func9, Tryd.ntmps9
    go_wp2_with (first
      | (go_at_call_of 12 (Value.float .f64 x); refine (hx _).mono ?_; rintro e w1 ⟨rfl, rfl⟩)
      | (go_at_call_of 12 (Value.float .f64 y); refine (hy _).mono ?_; rintro e w1 ⟨rfl, rfl⟩))
    go_ret
    exact ⟨rfl, rfl⟩
end Go.Proofs.YtekbhjacgdncbacDoor
