/-
  The pull along a difference: the document's, by contracts.
-/
import Derived.Test.YtdngkmobkbiflagDoorCellK
namespace Go.Proofs.YtdngkmobkbiflagDoor
open Go Go.RowKit

set_option maxHeartbeats 400000 in
theorem inside_any (c : Cl) (n : Int) (w : World) (h1 : 0 ≤ n) (h2 : n ≤ 4611686018427387904) : Calls Tryd.prog 28 #[.agg #[.int .i64 c.x, .int .i64 c.y, .int .i64 c.z], .int .i64 n] w fun e w' => e = .returned (.bool (decide (c.In n))) ∧ Below w.heap.size w w' := by
  go_enter Tryd.func28, Tryd.ntmps28
  go_wp2
  all_goals
    go_ret
    refine ⟨?_, below_a _ _⟩
    refine congrArg (fun b => Ending.returned (Value.bool b)) ?_
    first
      | (symm
         apply decide_eq_false
         intro k
         obtain ⟨k1, k2, k3, k4, k5, k6⟩ := k
         omega)
      | (by_cases hz : c.z ≤ n
         · refine (decide_eq_true hz).trans (decide_eq_true ⟨?_, ?_, ?_, ?_, ?_, ?_⟩).symm <;> omega
         · refine (decide_eq_false hz).trans (decide_eq_false (fun k => hz k.z2)).symm)
theorem sq_range {a : Int} (h1 : -2097152 ≤ a) (h2 : a ≤ 2097152) : 0 ≤ a * a ∧ a * a ≤ 4398046511104 := by
  have e : a * a = (a.natAbs : Int) * (a.natAbs : Int) := by
    rw [← Int.natAbs_mul_self (a := a), Int.natCast_mul]
  rw [e]
  have l : (a.natAbs : Int) ≤ 2097152 := by omega
  refine ⟨Int.mul_nonneg (by omega) (by omega), ?_⟩
  exact Int.le_trans (Int.mul_le_mul l l (by omega) (by omega)) (by decide)
set_option maxHeartbeats 400000 in
theorem squareOf_any (d : Cl) (w : World) (h : d.In 2097152) : Calls Tryd.prog 20 #[.agg #[.int .i64 d.x, .int .i64 d.y, .int .i64 d.z]] w fun e w' => e = .returned (.int .i64 (sqC d)) ∧ Below w.heap.size w w' := by
  have a1 := sq_range h.x1 h.x2
  have a2 := sq_range h.y1 h.y2
  have a3 := sq_range h.z1 h.z2
  have e1 : wrap64 (d.x * d.x) = d.x * d.x := wrap_in (by omega) (by omega)
  have e2 : wrap64 (d.y * d.y) = d.y * d.y := wrap_in (by omega) (by omega)
  have e3 : wrap64 (d.z * d.z) = d.z * d.z := wrap_in (by omega) (by omega)
  have e4 : wrap64 (d.x * d.x + d.y * d.y) = d.x * d.x + d.y * d.y := wrap_in (by omega) (by omega)
  have e5 : wrap64 (d.x * d.x + d.y * d.y + d.z * d.z) = d.x * d.x + d.y * d.y + d.z * d.z := wrap_in (by omega) (by omega)
  unfold sqC
  go_enter Tryd.func20, Tryd.ntmps20
  go_wp2
  go_ret
  exact ⟨rfl, below_a _ _⟩
def bI : Nat → Int
  | 0 => 0
  | j + 1 => 2 ^ j
theorem bI_half (j : Nat) : (bI (j + 1)).tdiv 2 = bI j := by
  cases j with
  | zero => decide
  | succ j =>
    show ((2 : Int) ^ (j + 1)).tdiv 2 = 2 ^ j
    rw [Int.pow_succ, Int.mul_tdiv_cancel _ (by decide)]
theorem sq31 {a : Int} (h1 : 0 ≤ a) (h2 : a ≤ 2147483648) : 0 ≤ a * a ∧ a * a ≤ 4611686018427387904 :=
  ⟨Int.mul_nonneg h1 h1, Int.le_trans (Int.mul_le_mul h2 h2 (by omega) (by omega)) (by decide)⟩
theorem rootB_range (n : Int) : ∀ (k : Nat) (r : Int), 0 ≤ r → 0 ≤ rootB n k r ∧ rootB n k r ≤ r + (2 ^ k - 1)
  | 0, r, h => ⟨h, by show r ≤ r + (2 ^ 0 - 1); simp⟩
  | k + 1, r, h => by
    have hp : (0 : Int) < 2 ^ k := Int.pow_pos (by decide)
    have e : (2 : Int) ^ (k + 1) = 2 ^ k + 2 ^ k := by rw [Int.pow_succ]; omega
    unfold rootB
    rw [e]
    split
    · have := rootB_range n k (r + 2 ^ k) (by omega)
      omega
    · have := rootB_range n k r h
      omega
theorem rootV_range (n : Int) : 0 ≤ rootV n ∧ rootV n ≤ 2147483647 := by
  have := rootB_range n 31 0 (by omega)
  unfold rootV
  rw [show (0 : Int) + (2 ^ 31 - 1) = 2147483647 by decide] at this
  exact this
set_option maxHeartbeats 800000 in
theorem rootOf_any (n : Int) (w : World) : Calls Tryd.prog 51 #[.int .i64 n] w fun e w' => e = .returned (.int .i64 (rootV n)) ∧ w' = w := by
  have HR : HeldR (rootB n 31 0 = rootV n) := rfl
  generalize rootV n = R at *
  go_enter Tryd.func51, Tryd.ntmps51
  go_wp2
  go_loop [3, 4] (fun rv bv => ∃ (j : Nat) (r : Int), j ≤ 31 ∧ rv = .int .i64 r ∧ bv = .int .i64 (bI j) ∧ HeldR (rootB n j r = R) ∧ 0 ≤ r ∧ r + 2 ^ j ≤ 2147483648) (fun _ bv => (RowKit.intOf bv).toNat)
  case atStart => exact ⟨31, 0, by omega, rfl, rfl, HR, by omega, by decide⟩
  case round =>
    obtain ⟨j, r, hj, rfl, rfl, HJ, h0, h1⟩ := hrel
    cases j with
    | zero =>
      have hr : r = R := unhideR HJ
      unfold bI
      go_wp2
      go_ret
      exact ⟨rfl, rfl⟩
    | succ j =>
      have hp : (0 : Int) < 2 ^ j := Int.pow_pos (by decide)
      have e : (2 : Int) ^ (j + 1) = 2 ^ j + 2 ^ j := by rw [Int.pow_succ]; omega
      rw [e] at h1
      have hh := bI_half j
      have hs : rootB n (j + 1) r = rootB n j (if (r + 2 ^ j) * (r + 2 ^ j) ≤ n then r + 2 ^ j else r) := rfl
      rw [unhideR HJ] at hs
      have hbj : bI (j + 1) = 2 ^ j := rfl
      rw [hbj] at hh ⊢
      have hb0 : 0 ≤ bI j ∧ bI j < 2 ^ j := by
        cases j with
        | zero => decide
        | succ i =>
          have q : (0 : Int) < 2 ^ i := Int.pow_pos (by decide)
          have q2 : (2 : Int) ^ (i + 1) = 2 ^ i + 2 ^ i := by rw [Int.pow_succ]; omega
          show 0 ≤ (2 : Int) ^ i ∧ (2 : Int) ^ i < 2 ^ (i + 1)
          omega
      have HK := hideR (fun r' (h : rootB n j r' = R) (k0 : 0 ≤ r') (k1 : r' + 2 ^ j ≤ 2147483648) => (⟨j, r', by omega, rfl, rfl, hideR h, k0, k1⟩ : ∃ (i : Nat) (r2 : Int), i ≤ 31 ∧ Value.int .i64 r' = .int .i64 r2 ∧ Value.int .i64 (bI j) = .int .i64 (bI i) ∧ HeldR (rootB n i r2 = R) ∧ 0 ≤ r2 ∧ r2 + 2 ^ i ≤ 2147483648))
      clear HJ hbj e
      generalize (2 : Int) ^ j = b at *
      generalize bI j = b2 at *
      have q := sq31 (a := r + b) (by omega) (by omega)
      have w1 : wrap64 ((r + b) * (r + b)) = (r + b) * (r + b) := wrap_in (by omega) (by omega)
      by_cases hc : (r + b) * (r + b) ≤ n
      · rw [if_pos hc] at hs
        have hs2 := hs.symm
        have hd : decide ((r + b) * (r + b) ≤ n) = true := decide_eq_true hc
        go_wp2
        exact ⟨unhideR HK _ hs2 (by omega) (by omega), by simp [RowKit.intOf]; omega⟩
      · rw [if_neg hc] at hs
        have hs2 := hs.symm
        have hd : decide ((r + b) * (r + b) ≤ n) = false := decide_eq_false hc
        go_wp2
        exact ⟨unhideR HK _ hs2 (by omega) (by omega), by simp [RowKit.intOf]; omega⟩
theorem share_pos {m r2 r : Int} (h1 : 0 ≤ m) (h3 : 0 ≤ r2) : (m * 1073741824 / (r2 + 64)).tdiv (r + 8) = shareV m r2 r := by
  unfold shareV
  rw [Int.tdiv_eq_ediv_of_nonneg (Int.ediv_nonneg (by omega) (by omega)), Int.tdiv_eq_ediv_of_nonneg (by omega), Int.ediv_ediv_of_nonneg (by omega)]
set_option maxHeartbeats 400000 in
theorem share_any (n r2 r : Int) (w : World) (h1 : -2097152 ≤ n) (h2 : n ≤ 2097152) (h3 : 0 ≤ r2) (h4 : r2 ≤ 13194139533312) (h5 : 0 ≤ r) (h6 : r ≤ 2147483648) : Calls Tryd.prog 52 #[.int .i64 n, .int .i64 r2, .int .i64 r] w fun e w' => e = .returned (.int .i64 (shareV n r2 r)) ∧ w' = w := by
  have hz := shareV_size h1 h2 h3 h5
  by_cases hn : n < 0
  · have e := share_pos (m := -n) (r2 := r2) (r := r) (by omega) h3
    have e1 := shareV_neg n r2 r
    have hz2 := shareV_size (n := -n) (by omega) (by omega) h3 h5
    have e3 : shareV n r2 r = -shareV (-n) r2 r := by omega
    rw [e3]
    clear e1 e3 hz
    generalize shareV (-n) r2 r = S2 at *
    go_enter Tryd.func52, Tryd.ntmps52
    go_wp2
    all_goals
      go_ret
      exact ⟨rfl, rfl⟩
  · have e := share_pos (m := n) (r2 := r2) (r := r) (by omega) h3
    generalize shareV n r2 r = S at *
    go_enter Tryd.func52, Tryd.ntmps52
    go_wp2
    all_goals
      go_ret
      exact ⟨rfl, rfl⟩
set_option maxRecDepth 100000 in
set_option maxHeartbeats 800000 in
theorem pullOf_any (d : Cl) (w : World) : Calls Tryd.prog 43 #[.agg #[.int .i64 d.x, .int .i64 d.y, .int .i64 d.z]] w fun e w' => e = .returned (pullV d).val ∧ Below w.heap.size w w' := by
  unfold pullV Cl.val
  have hin := fun u => inside_any d 2097152 u (by decide) (by decide)
  by_cases h : d.In 2097152
  · rw [if_pos h]
    rw [decide_eq_true h] at hin
    have hs := fun u => squareOf_any d u h
    have s := sqC_range h
    have hr := fun u => rootOf_any (sqC d) u
    have r := rootV_range (sqC d)
    have hx := fun u => share_any d.x (sqC d) (rootV (sqC d)) u h.x1 h.x2 s.1 s.2 r.1 (by omega)
    have hy := fun u => share_any d.y (sqC d) (rootV (sqC d)) u h.y1 h.y2 s.1 s.2 r.1 (by omega)
    have hz := fun u => share_any d.z (sqC d) (rootV (sqC d)) u h.z1 h.z2 s.1 s.2 r.1 (by omega)
    generalize shareV d.x (sqC d) (rootV (sqC d)) = X at *
    generalize shareV d.y (sqC d) (rootV (sqC d)) = Y at *
    generalize shareV d.z (sqC d) (rootV (sqC d)) = Z at *
    generalize rootV (sqC d) = R at *
    generalize sqC d = S at *
    go_enter Tryd.func43, Tryd.ntmps43
    go_wp2_with fail
    refine (hin _).mono ?_
    rintro e w1 ⟨rfl, k⟩
    obtain ⟨b0, b1, k1⟩ := two_blocks k
    have HW := hideR k1
    have H0 := hideR b0
    have H1 := hideR b1
    clear k k1 b0 b1
    obtain ⟨⟨c0, c1, c2⟩, _⟩ := cell_at (unhideR H0)
    go_wp2_with fail
    refine (hs _).mono ?_
    rintro e w2 ⟨rfl, k⟩
    replace H0 := hideR (keepB (unhideR H0) k)
    replace H1 := hideR (keepB (unhideR H1) k)
    replace HW := hideR (below_go (unhideR HW) k)
    clear k c0 c1 c2
    go_wp2_with fail
    refine (hr _).mono ?_
    rintro e w3 ⟨rfl, rfl⟩
    go_wp2_with fail
    refine wp_region_made 0 #[true, true, true, true, true, true, true, true, true, true, true, true, true, true, true, true, false] [.lets (· = .pointer (some ⟨w.heap.size, 0, none⟩)),
      .lets (· = .int .i64 d.x),
      .lets (· = .int .i64 S),
      .lets (· = .int .i64 R),
      .lets (· = .int .i64 X),
      .lets (· = .pointer (some ⟨w.heap.size, 1, none⟩)),
      .lets (· = .int .i64 d.y),
      .lets (· = .int .i64 S),
      .lets (· = .int .i64 R),
      .lets (· = .int .i64 Y),
      .lets (· = .pointer (some ⟨w.heap.size, 2, none⟩)),
      .lets (· = .int .i64 d.z),
      .lets (· = .int .i64 S),
      .lets (· = .int .i64 R),
      .lets (· = .int .i64 Z),
      .lets (· = .agg #[.int .i64 X, .int .i64 Y, .int .i64 Z])] [] [] (by kernel_rfl) (by kernel_rfl) rfl ?kinds (by kernel_rfl) (by kernel_rfl) (by kernel_rfl) ?_
    case kinds =>
      constructor
      · intro i h
        rcases i with _ | _ | _ | _ | _ | _ | _ | _ | _ | _ | _ | _ | _ | _ | _ | _ | i <;> simp [Kx.isMade] at h
      · intro i h
        rcases i with _ | _ | _ | _ | _ | _ | _ | _ | _ | _ | _ | _ | _ | _ | _ | _ | i <;> simp [Kx.isUse] at h
    refine lexX_step (fun K hK => ⟨by kernel_rfl, ⟨_, rfl⟩, fun v hv => ?_, fun v hv => ?_⟩)
    · go_simp
      exact mUpon_b
    subst hv
    go_simp
    refine hK _ ?_
    clear hK K
    refine lexX_step (fun K hK => ⟨by kernel_rfl, ⟨_, rfl⟩, fun v hv => ?_, fun v hv => ?_⟩)
    · obtain ⟨⟨c0, c1, c2⟩, _⟩ := cell_at (keepB (unhideR H0) hv)
      go_simp
      exact mUpon_b
    subst hv
    go_simp
    refine hK _ ?_
    clear hK K
    refine lexX_step (fun K hK => ⟨by kernel_rfl, ⟨_, rfl⟩, fun v hv => ?_, fun v hv => ?_⟩)
    · go_simp
      exact mUpon_b
    subst hv
    go_simp
    refine hK _ ?_
    clear hK K
    refine lexX_step (fun K hK => ⟨by kernel_rfl, ⟨_, rfl⟩, fun v hv => ?_, fun v hv => ?_⟩)
    · go_simp
      exact mUpon_b
    subst hv
    go_simp
    refine hK _ ?_
    clear hK K
    refine lexX_step (fun K hK => ⟨by kernel_rfl, ⟨_, rfl⟩, fun v hv => ?_, fun v hv => ?_⟩)
    · go_simp
      refine (hx _).mono ?_
      rintro e w9 ⟨rfl, rfl⟩
      exact ⟨_, rfl, rfl, Below.refl _ _⟩
    subst hv
    go_simp
    refine hK _ ?_
    clear hK K
    refine lexX_step (fun K hK => ⟨by kernel_rfl, ⟨_, rfl⟩, fun v hv => ?_, fun v hv => ?_⟩)
    · go_simp
      exact mUpon_b
    subst hv
    go_simp
    refine hK _ ?_
    clear hK K
    refine lexX_step (fun K hK => ⟨by kernel_rfl, ⟨_, rfl⟩, fun v hv => ?_, fun v hv => ?_⟩)
    · obtain ⟨⟨c0, c1, c2⟩, _⟩ := cell_at (keepB (unhideR H0) hv)
      go_simp
      exact mUpon_b
    subst hv
    go_simp
    refine hK _ ?_
    clear hK K
    refine lexX_step (fun K hK => ⟨by kernel_rfl, ⟨_, rfl⟩, fun v hv => ?_, fun v hv => ?_⟩)
    · go_simp
      exact mUpon_b
    subst hv
    go_simp
    refine hK _ ?_
    clear hK K
    refine lexX_step (fun K hK => ⟨by kernel_rfl, ⟨_, rfl⟩, fun v hv => ?_, fun v hv => ?_⟩)
    · go_simp
      exact mUpon_b
    subst hv
    go_simp
    refine hK _ ?_
    clear hK K
    refine lexX_step (fun K hK => ⟨by kernel_rfl, ⟨_, rfl⟩, fun v hv => ?_, fun v hv => ?_⟩)
    · go_simp
      refine (hy _).mono ?_
      rintro e w9 ⟨rfl, rfl⟩
      exact ⟨_, rfl, rfl, Below.refl _ _⟩
    subst hv
    go_simp
    refine hK _ ?_
    clear hK K
    refine lexX_step (fun K hK => ⟨by kernel_rfl, ⟨_, rfl⟩, fun v hv => ?_, fun v hv => ?_⟩)
    · go_simp
      exact mUpon_b
    subst hv
    go_simp
    refine hK _ ?_
    clear hK K
    refine lexX_step (fun K hK => ⟨by kernel_rfl, ⟨_, rfl⟩, fun v hv => ?_, fun v hv => ?_⟩)
    · obtain ⟨⟨c0, c1, c2⟩, _⟩ := cell_at (keepB (unhideR H0) hv)
      go_simp
      exact mUpon_b
    subst hv
    go_simp
    refine hK _ ?_
    clear hK K
    refine lexX_step (fun K hK => ⟨by kernel_rfl, ⟨_, rfl⟩, fun v hv => ?_, fun v hv => ?_⟩)
    · go_simp
      exact mUpon_b
    subst hv
    go_simp
    refine hK _ ?_
    clear hK K
    refine lexX_step (fun K hK => ⟨by kernel_rfl, ⟨_, rfl⟩, fun v hv => ?_, fun v hv => ?_⟩)
    · go_simp
      exact mUpon_b
    subst hv
    go_simp
    refine hK _ ?_
    clear hK K
    refine lexX_step (fun K hK => ⟨by kernel_rfl, ⟨_, rfl⟩, fun v hv => ?_, fun v hv => ?_⟩)
    · go_simp
      refine (hz _).mono ?_
      rintro e w9 ⟨rfl, rfl⟩
      exact ⟨_, rfl, rfl, Below.refl _ _⟩
    subst hv
    go_simp
    refine hK _ ?_
    clear hK K
    refine lexX_step (fun K hK => ⟨by kernel_rfl, ⟨_, rfl⟩, fun v hv => ?_, fun v hv => ?_⟩)
    · go_simp
      exact mUpon_b
    subst hv
    go_simp
    refine hK _ ?_
    clear hK K
    refine lexX_end (fun v hv => ?_)
    obtain ⟨⟨d0, d1, d2⟩, f0, f1, f2⟩ := cell_at (keepB (unhideR H1) hv.low)
    replace HW := hideR (below_go (unhideR HW) hv.low)
    clear hv
    refine wpAny_step (i := 16) (by kernel_rfl) rfl (by kernel_rfl) (fun K hK => ?_)
    unfold Oper.wp
    go_simp
    refine hK _ _ ?_
    clear hK K
    refine wpAny_end (by kernel_rfl) ?_
    go_wp2
    simp [bodyPost, results, Tryd.results43, go_sem, d0, d1, d2]
    exact below_three (unhideR HW) (by omega) _ _ _
  · rw [if_neg h]
    rw [decide_eq_false h] at hin
    go_enter Tryd.func43, Tryd.ntmps43
    go_wp2_with fail
    refine (hin _).mono ?_
    rintro e w1 ⟨rfl, k⟩
    obtain ⟨b0, b1, k1⟩ := two_blocks k
    have HW := hideR k1
    obtain ⟨⟨d0, d1, d2⟩, f0, f1, f2⟩ := cell_at b1
    clear k k1 b0 b1
    go_wp2
    simp [bodyPost, results, Tryd.results43, go_sem, d0, d1, d2]
    exact ⟨⟨rfl, rfl, rfl⟩, below_three (unhideR HW) (Nat.le_succ _) _ _ _⟩
end Go.Proofs.YtdngkmobkbiflagDoor
