/-
  The program's pull, by contract.
-/
import Derived.Test.YtdngkmobkbiflagDoorPullW
import Derived.Laws.Cover1
namespace Go.Proofs.YtdngkmobkbiflagDoor
open Go Go.RowKit

theorem max3 (P : Program) (x y z : Int) : ∃ M : Int, (∀ n : Int, M ≤ n ↔ x ≤ n ∧ y ≤ n ∧ z ≤ n) ∧ ∀ (ts : Array TypeId) (t : TypeId) (u : World), (Builtin.max_ ts t #[.int .i64 x, .int .i64 y, .int .i64 z]).run P u = .ok (.int .i64 M) u := by
  refine ⟨_, ?_, fun ts t u => run_max_int3 u ts t _ _ _ x y z⟩
  intro n
  constructor
  · intro h
    split at h <;> split at h <;> omega
  · intro h
    split <;> split <;> omega
theorem min3 (P : Program) (x y z : Int) : ∃ M : Int, (∀ n : Int, n ≤ M ↔ n ≤ x ∧ n ≤ y ∧ n ≤ z) ∧ ∀ (ts : Array TypeId) (t : TypeId) (u : World), (Builtin.min_ ts t #[.int .i64 x, .int .i64 y, .int .i64 z]).run P u = .ok (.int .i64 M) u := by
  refine ⟨_, ?_, fun ts t u => run_min_int3 u ts t _ _ _ x y z⟩
  intro n
  constructor
  · intro h
    split at h <;> split at h <;> omega
  · intro h
    split <;> split <;> omega
set_option maxHeartbeats 800000 in
theorem within_any (c : Cl) (n : Int) (w : World) (h1 : 0 ≤ n) (h2 : n ≤ 4611686018427387904) : Calls Tryd.prog 37 #[.agg #[.int .i64 c.x, .int .i64 c.y, .int .i64 c.z], .int .i64 n] w fun e w' => e = .returned (.bool (decide (c.In n))) ∧ Below w.heap.size w w' := by
  obtain ⟨M, hM, hmax⟩ := max3 Tryd.prog c.x c.y c.z
  obtain ⟨m, hm, hmin⟩ := min3 Tryd.prog c.x c.y c.z
  have q1 := hM n
  have q2 := hm (-n)
  have e : decide (c.In n) = (decide (M ≤ n) && decide (-n ≤ m)) := by
    by_cases a : M ≤ n
    · by_cases b : -n ≤ m
      · rw [decide_eq_true a, decide_eq_true b]
        obtain ⟨a1, a2, a3⟩ := q1.1 a
        obtain ⟨b1, b2, b3⟩ := q2.1 b
        exact decide_eq_true ⟨b1, a1, b2, a2, b3, a3⟩
      · rw [decide_eq_false b, Bool.and_false]
        exact decide_eq_false (fun k => b (q2.2 ⟨k.x1, k.y1, k.z1⟩))
    · rw [decide_eq_false a, Bool.false_and]
      exact decide_eq_false (fun k => a (q1.2 ⟨k.x2, k.y2, k.z2⟩))
  rw [e]
  have e2 : IntKind.i64.wrap (-n) = -n := iwrap (by omega) (by omega)
  clear q1 q2 hM hm e
  by_cases a : M ≤ n
  · have ha : decide (M ≤ n) = true := decide_eq_true a
    rw [ha]
    by_cases b : -n ≤ m
    · have hb : decide (-n ≤ m) = true := decide_eq_true b
      rw [hb]
      go_enter Tryd.func37, Tryd.ntmps37
      go_wp2
      all_goals
        go_ret
        exact ⟨rfl, below_a _ _⟩
    · have hb : decide (-n ≤ m) = false := decide_eq_false b
      rw [hb]
      go_enter Tryd.func37, Tryd.ntmps37
      go_wp2
      all_goals
        go_ret
        exact ⟨rfl, below_a _ _⟩
  · have ha : decide (M ≤ n) = false := decide_eq_false a
    rw [ha]
    go_enter Tryd.func37, Tryd.ntmps37
    go_wp2
    all_goals
      go_ret
      exact ⟨rfl, below_a _ _⟩
set_option maxHeartbeats 400000 in
theorem square_any (d : Cl) (w : World) (h : d.In 2097152) : Calls Tryd.prog 41 #[.agg #[.int .i64 d.x, .int .i64 d.y, .int .i64 d.z]] w fun e w' => e = .returned (.int .i64 (sqC d)) ∧ Below w.heap.size w w' := by
  have a1 := sq_range h.x1 h.x2
  have a2 := sq_range h.y1 h.y2
  have a3 := sq_range h.z1 h.z2
  have e1 : wrap64 (d.x * d.x) = d.x * d.x := wrap_in (by omega) (by omega)
  have e2 : wrap64 (d.y * d.y) = d.y * d.y := wrap_in (by omega) (by omega)
  have e3 : wrap64 (d.z * d.z) = d.z * d.z := wrap_in (by omega) (by omega)
  have e4 : wrap64 (d.x * d.x + d.y * d.y) = d.x * d.x + d.y * d.y := wrap_in (by omega) (by omega)
  have e5 : wrap64 (d.x * d.x + d.y * d.y + d.z * d.z) = d.x * d.x + d.y * d.y + d.z * d.z := wrap_in (by omega) (by omega)
  unfold sqC
  go_enter Tryd.func41, Tryd.ntmps41
  go_wp2
  go_ret
  exact ⟨rfl, below_a _ _⟩
theorem root22 {n : Int} (h : 0 ≤ n) (k : n < 17592186044416) : rootB n 22 0 = rootV n := by
  refine IsRoot.same (n := n) (rootB_is n 22 0 (by omega) (by omega) ?_) (rootV_is h (by omega))
  rw [show ((0 : Int) + 2 ^ 22) * (0 + 2 ^ 22) = 17592186044416 by decide]
  exact k
set_option maxHeartbeats 800000 in
theorem root_any (n : Int) (w : World) (hn0 : 0 ≤ n) (hn1 : n < 17592186044416) : Calls Tryd.prog 53 #[.int .i64 n] w fun e w' => e = .returned (.int .i64 (rootV n)) ∧ w' = w := by
  have HR : HeldR (rootB n 22 0 = rootV n) := root22 hn0 hn1
  generalize rootV n = R at *
  go_enter Tryd.func53, Tryd.ntmps53
  go_wp2
  go_loop [3, 4] (fun rv bv => ∃ (j : Nat) (r : Int), j ≤ 22 ∧ rv = .int .i64 r ∧ bv = .int .i64 (bI j) ∧ HeldR (rootB n j r = R) ∧ 0 ≤ r ∧ r + 2 ^ j ≤ 4194304) (fun _ bv => (RowKit.intOf bv).toNat)
  case atStart => exact ⟨22, 0, by omega, rfl, rfl, HR, by omega, by decide⟩
  case round =>
    obtain ⟨j, r, hj, rfl, rfl, HJ, h0, h1⟩ := hrel
    cases j with
    | zero =>
      have hr : r = R := unhideR HJ
      unfold bI
      go_wp2
      go_ret
      exact ⟨rfl, rfl⟩
    | succ j =>
      have hp : (0 : Int) < 2 ^ j := Int.pow_pos (by decide)
      have e : (2 : Int) ^ (j + 1) = 2 ^ j + 2 ^ j := by rw [Int.pow_succ]; omega
      rw [e] at h1
      have hh := bI_half j
      have hs : rootB n (j + 1) r = rootB n j (if (r + 2 ^ j) * (r + 2 ^ j) ≤ n then r + 2 ^ j else r) := rfl
      rw [unhideR HJ] at hs
      have hbj : bI (j + 1) = 2 ^ j := rfl
      rw [hbj] at hh ⊢
      have hb0 : 0 ≤ bI j ∧ bI j < 2 ^ j := by
        cases j with
        | zero => decide
        | succ i =>
          have q : (0 : Int) < 2 ^ i := Int.pow_pos (by decide)
          have q2 : (2 : Int) ^ (i + 1) = 2 ^ i + 2 ^ i := by rw [Int.pow_succ]; omega
          show 0 ≤ (2 : Int) ^ i ∧ (2 : Int) ^ i < 2 ^ (i + 1)
          omega
      have HK := hideR (fun r' (h : rootB n j r' = R) (k0 : 0 ≤ r') (k1 : r' + 2 ^ j ≤ 4194304) => (⟨j, r', by omega, rfl, rfl, hideR h, k0, k1⟩ : ∃ (i : Nat) (r2 : Int), i ≤ 22 ∧ Value.int .i64 r' = .int .i64 r2 ∧ Value.int .i64 (bI j) = .int .i64 (bI i) ∧ HeldR (rootB n i r2 = R) ∧ 0 ≤ r2 ∧ r2 + 2 ^ i ≤ 4194304))
      clear HJ hbj e
      generalize (2 : Int) ^ j = b at *
      generalize bI j = b2 at *
      have q := sq31 (a := r + b) (by omega) (by omega)
      have w1 : wrap64 ((r + b) * (r + b)) = (r + b) * (r + b) := wrap_in (by omega) (by omega)
      by_cases hc : (r + b) * (r + b) ≤ n
      · rw [if_pos hc] at hs
        have hs2 := hs.symm
        have hd : decide ((r + b) * (r + b) ≤ n) = true := decide_eq_true hc
        go_wp2
        exact ⟨unhideR HK _ hs2 (by omega) (by omega), by simp [RowKit.intOf]; omega⟩
      · rw [if_neg hc] at hs
        have hs2 := hs.symm
        have hd : decide ((r + b) * (r + b) ≤ n) = false := decide_eq_false hc
        go_wp2
        exact ⟨unhideR HK _ hs2 (by omega) (by omega), by simp [RowKit.intOf]; omega⟩
theorem share_two {n r2 r : Int} (h3 : 0 ≤ r2) : ((n * 1073741824).tdiv (r2 + 64)).tdiv (r + 8) = shareV n r2 r := by
  rcases Int.le_total 0 n with h | h
  · have e := share_pos (m := n) (r2 := r2) (r := r) h h3
    rw [← e, Int.tdiv_eq_ediv_of_nonneg (a := n * 1073741824) (by omega)]
  · have e := share_pos (m := -n) (r2 := r2) (r := r) (by omega) h3
    have e1 := shareV_neg n r2 r
    rw [e1] at e
    have e2 : (n * 1073741824).tdiv (r2 + 64) = -(-n * 1073741824 / (r2 + 64)) := by
      rw [← Int.tdiv_eq_ediv_of_nonneg (a := -n * 1073741824) (by omega), Int.neg_mul, Int.neg_tdiv]
      omega
    rw [e2, Int.neg_tdiv, e]
    omega
theorem half_size {n r2 : Int} (h1 : -2097152 ≤ n) (h2 : n ≤ 2097152) (h3 : 0 ≤ r2) : -2251799813685248 ≤ (n * 1073741824).tdiv (r2 + 64) ∧ (n * 1073741824).tdiv (r2 + 64) ≤ 2251799813685248 := by
  have key : ∀ m : Int, 0 ≤ m → m ≤ 2097152 → 0 ≤ (m * 1073741824).tdiv (r2 + 64) ∧ (m * 1073741824).tdiv (r2 + 64) ≤ 2251799813685248 := fun m a b => by
    rw [Int.tdiv_eq_ediv_of_nonneg (by omega)]
    refine ⟨Int.ediv_nonneg (by omega) (by omega), ?_⟩
    exact Int.le_trans (Int.ediv_le_self _ (by omega)) (by omega)
  rcases Int.le_total 0 n with a | a
  · have := key n a h2
    omega
  · have k := key (-n) (by omega) (by omega)
    rw [Int.neg_mul, Int.neg_tdiv] at k
    omega
theorem drawn_below (w : World) (n : Nat) : Below w.heap.size w (w.drewN n) := ⟨rfl, rfl, rfl, Nat.le_refl _, fun _ _ => rfl⟩
theorem one_at {w : World} {b : Nat} {x : Value} {ty : TypeId} (h : w.heap[b]? = some (.cells #[x] ty)) : w.cell? ⟨b, 0, none⟩ = some x := (cells_at h 0 (by simp)).1
set_option maxHeartbeats 800000 in
theorem pullFn_any (n r2 r : Int) (b c : Nat) (w : World) (hb : w.cell? ⟨b, 0, none⟩ = some (.int .i64 r2)) (hc : w.cell? ⟨c, 0, none⟩ = some (.int .i64 r)) (h1 : -2097152 ≤ n) (h2 : n ≤ 2097152) (h3 : 0 ≤ r2) (h4 : r2 ≤ 13194139533312) (h5 : 0 ≤ r) (h6 : r ≤ 2147483648) :
    Calls Tryd.prog 54 #[.int .i64 n, .pointer (some ⟨b, 0, none⟩), .pointer (some ⟨c, 0, none⟩)] w fun e w' => e = .returned (.int .i64 (shareV n r2 r)) ∧ Below w.heap.size w w' := by
  have e := share_two (n := n) (r2 := r2) (r := r) h3
  have z := shareV_size (r := r) h1 h2 h3 h5
  have z2 := half_size h1 h2 h3
  have w1 : IntKind.i64.wrap (n * 1073741824) = n * 1073741824 := iwrap (by omega) (by omega)
  have w2 : IntKind.i64.wrap (r2 + 64) = r2 + 64 := iwrap (by omega) (by omega)
  have w3 : IntKind.i64.wrap (r + 8) = r + 8 := iwrap (by omega) (by omega)
  have n1 : r2 + 64 ≠ 0 := by omega
  have n2 : r + 8 ≠ 0 := by omega
  generalize hH : (n * 1073741824).tdiv (r2 + 64) = H at *
  generalize shareV n r2 r = S at *
  have w4 : IntKind.i64.wrap H = H := iwrap (by omega) (by omega)
  have w5 : IntKind.i64.wrap S = S := iwrap (by omega) (by omega)
  go_enter Tryd.func54, Tryd.ntmps54
  go_wp2
  go_quiet (fail)
  go_wp2
  all_goals
    go_ret
    exact ⟨rfl, drawn_below w nq⟩
set_option maxRecDepth 100000 in
set_option maxHeartbeats 1600000 in
theorem pull_any (d : Cl) (w : World) : Calls Tryd.prog 44 #[.agg #[.int .i64 d.x, .int .i64 d.y, .int .i64 d.z]] w fun e w' => e = .returned (pullV d).val ∧ Below w.heap.size w w' := by
  have hmf : ∀ (fn : Fn) (first cap : Array Value) (w : World), (Instr.makeFunc fn first cap).run Tryd.prog w = .ok (.func fn first cap) w := fun _ _ _ _ => rfl
  unfold pullV Cl.val
  have hin := fun u => within_any d 2097152 u (by decide) (by decide)
  by_cases h : d.In 2097152
  · rw [if_pos h]
    rw [decide_eq_true h] at hin
    have hs := fun u => square_any d u h
    have s := sqC_range h
    have hr := fun u => root_any (sqC d) u s.1 (by omega)
    have r := rootV_range (sqC d)
    have hx := fun b2 b3 u k1 k2 => pullFn_any d.x (sqC d) (rootV (sqC d)) b2 b3 u k1 k2 h.x1 h.x2 s.1 s.2 r.1 (by omega)
    have hy := fun b2 b3 u k1 k2 => pullFn_any d.y (sqC d) (rootV (sqC d)) b2 b3 u k1 k2 h.y1 h.y2 s.1 s.2 r.1 (by omega)
    have hz := fun b2 b3 u k1 k2 => pullFn_any d.z (sqC d) (rootV (sqC d)) b2 b3 u k1 k2 h.z1 h.z2 s.1 s.2 r.1 (by omega)
    generalize shareV d.x (sqC d) (rootV (sqC d)) = X at *
    generalize shareV d.y (sqC d) (rootV (sqC d)) = Y at *
    generalize shareV d.z (sqC d) (rootV (sqC d)) = Z at *
    generalize rootV (sqC d) = R at *
    generalize sqC d = S at *
    go_enter Tryd.func44, Tryd.ntmps44
    go_wp2_with fail
    refine (hin _).mono ?_
    rintro e w1 ⟨rfl, k⟩
    obtain ⟨b0, b1, k1⟩ := two_blocks k
    have HW := hideR k1
    have H0 := hideR b0
    have H1 := hideR b1
    clear k k1 b0 b1
    obtain ⟨⟨c0, c1, c2⟩, _⟩ := cell_at (unhideR H0)
    go_wp2_with fail
    refine (hs _).mono ?_
    rintro e w2 ⟨rfl, k⟩
    replace H0 := hideR (keepB (unhideR H0) k)
    replace H1 := hideR (keepB (unhideR H1) k)
    replace HW := hideR (below_go (unhideR HW) k)
    clear k c0 c1 c2
    go_wp2_with fail
    refine (hr _).mono ?_
    rintro e w3 ⟨rfl, rfl⟩
    go_wp2_with fail
    obtain ⟨b2, b3, k1⟩ := two_blocks (Below.refl ((w2.alloc (.cells #[.int .i64 S] 3)).alloc (.cells #[.int .i64 R] 3)).heap.size ((w2.alloc (.cells #[.int .i64 S] 3)).alloc (.cells #[.int .i64 R] 3)))
    replace H0 := hideR (keepB (unhideR H0) k1)
    replace H1 := hideR (keepB (unhideR H1) k1)
    replace HW := hideR (below_go (unhideR HW) k1)
    have HB2 := hideR b2
    have HB3 := hideR b3
    clear b2 b3 k1
    generalize (w2.alloc (.cells #[.int .i64 S] 3)).alloc (.cells #[.int .i64 R] 3) = W at *
    generalize w2.heap.size = b2 at *
    generalize hb3 : b2 + 1 = b3 at *
    refine wp_region_made 0 #[true, true, true, true, true, true, true, true, true, true, true, true, true, false] [.lets (· = .func (.func 54) #[] #[.pointer (some ⟨b2, 0, none⟩), .pointer (some ⟨b3, 0, none⟩)]),
      .lets (· = .pointer (some ⟨w.heap.size, 0, none⟩)),
      .lets (· = .int .i64 d.x),
      .lets (· = .int .i64 X),
      .lets (· = .func (.func 54) #[] #[.pointer (some ⟨b2, 0, none⟩), .pointer (some ⟨b3, 0, none⟩)]),
      .lets (· = .pointer (some ⟨w.heap.size, 1, none⟩)),
      .lets (· = .int .i64 d.y),
      .lets (· = .int .i64 Y),
      .lets (· = .func (.func 54) #[] #[.pointer (some ⟨b2, 0, none⟩), .pointer (some ⟨b3, 0, none⟩)]),
      .lets (· = .pointer (some ⟨w.heap.size, 2, none⟩)),
      .lets (· = .int .i64 d.z),
      .lets (· = .int .i64 Z),
      .lets (· = .agg #[.int .i64 X, .int .i64 Y, .int .i64 Z])] [] [] (by kernel_rfl) (by kernel_rfl) rfl ?kinds (by kernel_rfl) (by kernel_rfl) (by kernel_rfl) ?_
    case kinds =>
      constructor
      · intro i h
        rcases i with _ | _ | _ | _ | _ | _ | _ | _ | _ | _ | _ | _ | _ | i <;> simp [Kx.isMade] at h
      · intro i h
        rcases i with _ | _ | _ | _ | _ | _ | _ | _ | _ | _ | _ | _ | _ | i <;> simp [Kx.isUse] at h
    refine lexX_step (fun K hK => ⟨by kernel_rfl, ⟨_, rfl⟩, fun v hv => ?_, fun v hv => ?_⟩)
    · go_simp
      exact mUpon_b
    subst hv
    go_simp
    refine hK _ ?_
    clear hK K
    refine lexX_step (fun K hK => ⟨by kernel_rfl, ⟨_, rfl⟩, fun v hv => ?_, fun v hv => ?_⟩)
    · go_simp
      exact mUpon_b
    subst hv
    go_simp
    refine hK _ ?_
    clear hK K
    refine lexX_step (fun K hK => ⟨by kernel_rfl, ⟨_, rfl⟩, fun v hv => ?_, fun v hv => ?_⟩)
    · obtain ⟨⟨c0, c1, c2⟩, _⟩ := cell_at (keepB (unhideR H0) hv)
      go_simp
      exact mUpon_b
    subst hv
    go_simp
    refine hK _ ?_
    clear hK K
    refine lexX_step (fun K hK => ⟨by kernel_rfl, ⟨_, rfl⟩, fun v hv => ?_, fun v hv => ?_⟩)
    · go_simp
      refine (hx _ _ _ (one_at (keepB (unhideR HB2) hv)) (one_at (keepB (unhideR HB3) hv))).mono ?_
      rintro e w9 ⟨rfl, k⟩
      exact ⟨_, rfl, rfl, k⟩
    subst hv
    go_simp
    refine hK _ ?_
    clear hK K
    refine lexX_step (fun K hK => ⟨by kernel_rfl, ⟨_, rfl⟩, fun v hv => ?_, fun v hv => ?_⟩)
    · go_simp
      exact mUpon_b
    subst hv
    go_simp
    refine hK _ ?_
    clear hK K
    refine lexX_step (fun K hK => ⟨by kernel_rfl, ⟨_, rfl⟩, fun v hv => ?_, fun v hv => ?_⟩)
    · go_simp
      exact mUpon_b
    subst hv
    go_simp
    refine hK _ ?_
    clear hK K
    refine lexX_step (fun K hK => ⟨by kernel_rfl, ⟨_, rfl⟩, fun v hv => ?_, fun v hv => ?_⟩)
    · obtain ⟨⟨c0, c1, c2⟩, _⟩ := cell_at (keepB (unhideR H0) hv)
      go_simp
      exact mUpon_b
    subst hv
    go_simp
    refine hK _ ?_
    clear hK K
    refine lexX_step (fun K hK => ⟨by kernel_rfl, ⟨_, rfl⟩, fun v hv => ?_, fun v hv => ?_⟩)
    · go_simp
      refine (hy _ _ _ (one_at (keepB (unhideR HB2) hv)) (one_at (keepB (unhideR HB3) hv))).mono ?_
      rintro e w9 ⟨rfl, k⟩
      exact ⟨_, rfl, rfl, k⟩
    subst hv
    go_simp
    refine hK _ ?_
    clear hK K
    refine lexX_step (fun K hK => ⟨by kernel_rfl, ⟨_, rfl⟩, fun v hv => ?_, fun v hv => ?_⟩)
    · go_simp
      exact mUpon_b
    subst hv
    go_simp
    refine hK _ ?_
    clear hK K
    refine lexX_step (fun K hK => ⟨by kernel_rfl, ⟨_, rfl⟩, fun v hv => ?_, fun v hv => ?_⟩)
    · go_simp
      exact mUpon_b
    subst hv
    go_simp
    refine hK _ ?_
    clear hK K
    refine lexX_step (fun K hK => ⟨by kernel_rfl, ⟨_, rfl⟩, fun v hv => ?_, fun v hv => ?_⟩)
    · obtain ⟨⟨c0, c1, c2⟩, _⟩ := cell_at (keepB (unhideR H0) hv)
      go_simp
      exact mUpon_b
    subst hv
    go_simp
    refine hK _ ?_
    clear hK K
    refine lexX_step (fun K hK => ⟨by kernel_rfl, ⟨_, rfl⟩, fun v hv => ?_, fun v hv => ?_⟩)
    · go_simp
      refine (hz _ _ _ (one_at (keepB (unhideR HB2) hv)) (one_at (keepB (unhideR HB3) hv))).mono ?_
      rintro e w9 ⟨rfl, k⟩
      exact ⟨_, rfl, rfl, k⟩
    subst hv
    go_simp
    refine hK _ ?_
    clear hK K
    refine lexX_step (fun K hK => ⟨by kernel_rfl, ⟨_, rfl⟩, fun v hv => ?_, fun v hv => ?_⟩)
    · go_simp
      exact mUpon_b
    subst hv
    go_simp
    refine hK _ ?_
    clear hK K
    refine lexX_end (fun v hv => ?_)
    obtain ⟨⟨d0, d1, d2⟩, f0, f1, f2⟩ := cell_at (keepB (unhideR H1) hv.low)
    replace HW := hideR (below_go (unhideR HW) hv.low)
    clear hv
    refine wpAny_step (i := 13) (by kernel_rfl) rfl (by kernel_rfl) (fun K hK => ?_)
    unfold Oper.wp
    go_simp
    refine hK _ _ ?_
    clear hK K
    refine wpAny_end (by kernel_rfl) ?_
    go_wp2
    simp [bodyPost, results, Tryd.results44, go_sem, d0, d1, d2]
    exact below_three (unhideR HW) (by omega) _ _ _
  · rw [if_neg h]
    rw [decide_eq_false h] at hin
    go_enter Tryd.func44, Tryd.ntmps44
    go_wp2_with fail
    refine (hin _).mono ?_
    rintro e w1 ⟨rfl, k⟩
    obtain ⟨b0, b1, k1⟩ := two_blocks k
    have HW := hideR k1
    obtain ⟨⟨d0, d1, d2⟩, f0, f1, f2⟩ := cell_at b1
    clear k k1 b0 b1
    go_wp2
    simp [bodyPost, results, Tryd.results44, go_sem, d0, d1, d2]
    exact ⟨⟨rfl, rfl, rfl⟩, below_three (unhideR HW) (Nat.le_succ _) _ _ _⟩
end Go.Proofs.YtdngkmobkbiflagDoor
