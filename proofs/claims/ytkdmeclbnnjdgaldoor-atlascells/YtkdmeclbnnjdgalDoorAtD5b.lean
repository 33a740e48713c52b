/-
  The program's Valid, Up.
-/
import Derived.Test.YtkdmeclbnnjdgalDoorAtD5
import Derived.Test.YtkdmeclbnnjdgalDoorAtSp
namespace Go.Proofs.YtkdmeclbnnjdgalDoor
open Go Go.RowKit

set_option maxHeartbeats 1000000 in
theorem place_any (n : Int) {l : Nat} (hl : l ≤ 12) (w : World) : Calls Tryd.prog 50 #[.int .i64 n, .int .i64 (l : Int)] w fun e w' => e = .returned (.bool (decide (0 ≤ n ∧ n < 2 ^ l))) ∧ w' = w := by
  obtain ⟨S, hS⟩ : ∃ S : Int, 2 ^ l = S := ⟨_, rfl⟩
  have hsh := fun u => shl1 hl 3 u
  have hb := pow12 hl
  rw [hS] at hsh hb ⊢
  obtain ⟨R, hR⟩ : ∃ R, decide (0 ≤ n ∧ n < S) = R := ⟨_, rfl⟩
  rw [hR]
  have HR := hideR hR
  clear hR
  go_enter Tryd.func50, Tryd.ntmps50
  go_wp2
  all_goals go_ret
  all_goals
    refine ⟨congrArg (fun b => Ending.returned (.bool b)) ?_, rfl⟩
    rw [← unhideR HR, Bool.eq_iff_iff]
    simp
    try omega
set_option maxRecDepth 100000 in
set_option maxHeartbeats 3200000 in
theorem pvalid_any (s : Sq) (w : World) : Calls Tryd.prog 24 #[s.val] w fun e w' => e = .returned (.bool (vaB s)) ∧ Below w.heap.size w w' := by
  obtain ⟨R, hR⟩ : ∃ R, vaB s = R := ⟨_, rfl⟩
  rw [hR]
  obtain ⟨f, l, c, r⟩ := s
  unfold vaB at hR
  simp only at hR
  have hl := fun u => level_any l u
  have z := alloc_last w (.cells #[.int .i64 f, .int .i64 l, .int .i64 c, .int .i64 r] 58)
  have x0 := (cells_at z 0 (by simp)).1
  have x1 := (cells_at z 1 (by simp)).1
  have x2 := (cells_at z 2 (by simp)).1
  have x3 := (cells_at z 3 (by simp)).1
  have HB := hideR (below_a w (.cells #[.int .i64 f, .int .i64 l, .int .i64 c, .int .i64 r] 58))
  unfold Sq.val
  clear z
  by_cases a1 : 0 ≤ f
  case neg =>
    have t1 : decide (0 ≤ f) = false := decide_eq_false a1
    have hF : R = false := by rw [← hR]; exact decide_eq_false (fun h => a1 h.1)
    subst hF
    clear hR hl
    go_enter Tryd.func24, Tryd.ntmps24
    go_wp2
    go_ret
    exact ⟨rfl, unhideR HB⟩
  have t1 : decide (0 ≤ f) = true := decide_eq_true a1
  by_cases a2 : f < 6
  case neg =>
    have t2 : decide (f < 6) = false := decide_eq_false a2
    have hF : R = false := by rw [← hR]; exact decide_eq_false (fun h => a2 h.2.1)
    subst hF
    clear hR hl
    go_enter Tryd.func24, Tryd.ntmps24
    go_wp2
    go_ret
    exact ⟨rfl, unhideR HB⟩
  have t2 : decide (f < 6) = true := decide_eq_true a2
  by_cases a3 : lvlB l = true
  case neg =>
    have hF : R = false := by rw [← hR]; exact decide_eq_false (fun h => a3 (decide_eq_true ⟨h.2.2.1, h.2.2.2.1⟩))
    subst hF
    rw [Bool.not_eq_true] at a3
    rw [a3] at hl
    clear hR a3
    go_enter Tryd.func24, Tryd.ntmps24
    go_wp2_with fail
    refine (hl _).mono ?_
    rintro e u1 ⟨rfl, rfl⟩
    clear hl
    go_wp2
    go_ret
    exact ⟨rfl, unhideR HB⟩
  rw [a3] at hl
  have a4 := of_decide_eq_true a3
  obtain ⟨n, rfl⟩ : ∃ n : Nat, l = n := ⟨l.toNat, by omega⟩
  rw [Int.toNat_natCast] at hR
  have hn : n ≤ 12 := by omega
  have hc := fun u => place_any c hn u
  have hr := fun u => place_any r hn u
  obtain ⟨C, hC⟩ : ∃ C, decide (0 ≤ c ∧ c < 2 ^ n) = C := ⟨_, rfl⟩
  obtain ⟨D, hD⟩ : ∃ C, decide (0 ≤ r ∧ r < 2 ^ n) = C := ⟨_, rfl⟩
  rw [hC] at hc
  rw [hD] at hr
  have hF : R = (C && D) := by
    rw [← hR, ← hC, ← hD, Bool.eq_iff_iff]
    simp only [decide_eq_true_eq, Bool.and_eq_true]
    omega
  subst hF
  clear hR hC hD a3 a4 hn
  go_enter Tryd.func24, Tryd.ntmps24
  go_wp2_with fail
  refine (hl _).mono ?_
  rintro e u1 ⟨rfl, rfl⟩
  clear hl
  go_wp2_with fail
  refine (hc _).mono ?_
  rintro e u1 ⟨rfl, rfl⟩
  clear hc
  cases C
  · go_wp2
    go_ret
    exact ⟨rfl, unhideR HB⟩
  go_wp2_with fail
  refine (hr _).mono ?_
  rintro e u1 ⟨rfl, rfl⟩
  clear hr
  go_wp2
  go_ret
  exact ⟨rfl, unhideR HB⟩
set_option maxRecDepth 100000 in
set_option maxHeartbeats 3200000 in
theorem pUp_any (s : Sq) (w : World) : Calls Tryd.prog 23 #[s.val] w fun e w' => e = .returned (.tuple #[(upV s).val, .bool (upB s)]) ∧ Below w.heap.size w w' := by
  have hva := fun u => pvalid_any s u
  obtain ⟨z1, z2, hbw⟩ := two_allocD w (.cells #[.int .i64 s.f, .int .i64 s.l, .int .i64 s.c, .int .i64 s.r] 58) (.cells #[.int .i64 0, .int .i64 0, .int .i64 0, .int .i64 0] 58)
  have hu : upV s = if upB s then ⟨s.f, s.l - 1, s.c / 2, s.r / 2⟩ else ⟨0, 0, 0, 0⟩ := rfl
  have hub : upB s = (vaB s && decide (0 < s.l)) := rfl
  have x0 := (cells_at z1 0 (by simp)).1
  have x1 := (cells_at z1 1 (by simp)).1
  have x2 := (cells_at z1 2 (by simp)).1
  have x3 := (cells_at z1 3 (by simp)).1
  cases hv : vaB s
  · rw [hv] at hva hub
    rw [Bool.false_and] at hub
    rw [hub, if_neg (by decide)] at hu
    rw [hu, hub]
    unfold Sq.val at *
    clear hu hub hv
    go_enter Tryd.func23, Tryd.ntmps23
    go_wp2_with fail
    refine (hva _).mono ?_
    rintro e u1 ⟨rfl, k1⟩
    replace z2 := keepB z2 k1
    have HB := hideR (below_go hbw k1)
    clear k1 hva hbw z1 x0 x1 x2 x3
    have d0 := (cells_at z2 0 (by simp)).1
    have f0 := (cells_at z2 0 (by simp)).2
    have d1 := (cells_at z2 1 (by simp)).1
    have f1 := (cells_at z2 1 (by simp)).2
    have d2 := (cells_at z2 2 (by simp)).1
    have f2 := (cells_at z2 2 (by simp)).2
    have d3 := (cells_at z2 3 (by simp)).1
    have f3 := (cells_at z2 3 (by simp)).2
    have o := set4_at z2 (.int .i64 0) (.int .i64 0) (.int .i64 0) (.int .i64 0)
    have o0 := (cells_at o 0 (by simp)).1
    have o1 := (cells_at o 1 (by simp)).1
    have o2 := (cells_at o 2 (by simp)).1
    have o3 := (cells_at o 3 (by simp)).1
    replace HB := hideR (set4_blL (unhideR HB) (show w.heap.size ≤ w.heap.size + 1 by omega) (.int .i64 0) (.int .i64 0) (.int .i64 0) (.int .i64 0))
    clear o z2
    skip
    go_wp2
    simp [bodyPost, results, Tryd.results23, go_sem, o0, o1, o2, o3]
    exact unhideR HB
  · have hva2 := of_decide_eq_true hv
    rw [hv] at hva hub
    rw [Bool.true_and] at hub
    by_cases q : 0 < s.l
    case neg =>
      have ql : (s.l == 0) = true := by simp; omega
      rw [decide_eq_false q] at hub
      rw [hub, if_neg (by decide)] at hu
      rw [hu, hub]
      unfold Sq.val at *
      clear hu hub hv hva2
      go_enter Tryd.func23, Tryd.ntmps23
      go_wp2_with fail
      refine (hva _).mono ?_
      rintro e u1 ⟨rfl, k1⟩
      replace z1 := keepB z1 k1
      replace z2 := keepB z2 k1
      have HB := hideR (below_go hbw k1)
      clear k1 hva hbw x0 x1 x2 x3
      have x1 := (cells_at z1 1 (by simp)).1
      have d0 := (cells_at z2 0 (by simp)).1
      have f0 := (cells_at z2 0 (by simp)).2
      have d1 := (cells_at z2 1 (by simp)).1
      have f1 := (cells_at z2 1 (by simp)).2
      have d2 := (cells_at z2 2 (by simp)).1
      have f2 := (cells_at z2 2 (by simp)).2
      have d3 := (cells_at z2 3 (by simp)).1
      have f3 := (cells_at z2 3 (by simp)).2
      have o := set4_at z2 (.int .i64 0) (.int .i64 0) (.int .i64 0) (.int .i64 0)
      have o0 := (cells_at o 0 (by simp)).1
      have o1 := (cells_at o 1 (by simp)).1
      have o2 := (cells_at o 2 (by simp)).1
      have o3 := (cells_at o 3 (by simp)).1
      replace HB := hideR (set4_blL (unhideR HB) (show w.heap.size ≤ w.heap.size + 1 by omega) (.int .i64 0) (.int .i64 0) (.int .i64 0) (.int .i64 0))
      clear o z2
      skip
      go_wp2
      simp [bodyPost, results, Tryd.results23, go_sem, o0, o1, o2, o3]
      exact unhideR HB
    have ql : (s.l == 0) = false := by simp; omega
    have hup := fun u => pup_any s (by omega) (by have : (2 : Int) ^ s.l.toNat ≤ 4096 := (pow12 (by omega)).2
                                                  omega) (by have : (2 : Int) ^ s.l.toNat ≤ 4096 := (pow12 (by omega)).2
                                                             omega) u
    rw [decide_eq_true q] at hub
    rw [hub, if_pos rfl] at hu
    rw [hu, hub]
    generalize s.l - 1 = l2 at *
    generalize s.c / 2 = c2 at *
    generalize s.r / 2 = r2 at *
    unfold Sq.val at *
    clear hu hub hv hva2 q
    go_enter Tryd.func23, Tryd.ntmps23
    go_wp2_with fail
    refine (hva _).mono ?_
    rintro e u1 ⟨rfl, k1⟩
    replace z1 := keepB z1 k1
    replace z2 := keepB z2 k1
    have HB := hideR (below_go hbw k1)
    clear k1 hva hbw x0 x1 x2 x3
    have x0 := (cells_at z1 0 (by simp)).1
    have x1 := (cells_at z1 1 (by simp)).1
    have x2 := (cells_at z1 2 (by simp)).1
    have x3 := (cells_at z1 3 (by simp)).1
    go_wp2_with fail
    refine (hup _).mono ?_
    rintro e u3 ⟨rfl, k3⟩
    replace z2 := keepB z2 k3
    replace HB := hideR (below_go (unhideR HB) k3)
    clear k3 hup z1 x0 x1 x2 x3
    have d0 := (cells_at z2 0 (by simp)).1
    have f0 := (cells_at z2 0 (by simp)).2
    have d1 := (cells_at z2 1 (by simp)).1
    have f1 := (cells_at z2 1 (by simp)).2
    have d2 := (cells_at z2 2 (by simp)).1
    have f2 := (cells_at z2 2 (by simp)).2
    have d3 := (cells_at z2 3 (by simp)).1
    have f3 := (cells_at z2 3 (by simp)).2
    have o := set4_at z2 (.int .i64 s.f) (.int .i64 l2) (.int .i64 c2) (.int .i64 r2)
    have o0 := (cells_at o 0 (by simp)).1
    have o1 := (cells_at o 1 (by simp)).1
    have o2 := (cells_at o 2 (by simp)).1
    have o3 := (cells_at o 3 (by simp)).1
    replace HB := hideR (set4_blL (unhideR HB) (show w.heap.size ≤ w.heap.size + 1 by omega) (.int .i64 s.f) (.int .i64 l2) (.int .i64 c2) (.int .i64 r2))
    clear o z2
    skip
    go_wp2
    simp [bodyPost, results, Tryd.results23, go_sem, o0, o1, o2, o3]
    exact unhideR HB
theorem cl_prog (a : Nat → Addr) : ClProg a where
  toCe := ce_prog a
  up := fun s w => pUp_any s w
  valid := fun s w => pvalid_any s w
end Go.Proofs.YtkdmeclbnnjdgalDoor
