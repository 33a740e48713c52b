/-
  The program's CellOf.
-/
import Derived.Test.YtfonpobdnhifgamGreatDoorAtD4
namespace Go.Proofs.YtfonpobdnhifgamGreatDoor
open Go Go.RowKit

set_option maxRecDepth 100000 in
set_option maxHeartbeats 3200000 in
theorem pcellOf_any {a : Nat → Addr} {w : World} (hS : Sents w a) (d : Dr) (l : Int) : Calls Tryz.prog 22 #[d.val, .int .i64 l] w fun e w' => ∃ E, e = .returned (.tuple #[(sqA d l).val, E]) ∧ ErrIs a (sqE d l) E ∧ Below w.heap.size w w' := by
  have hdi := fun u => pdir_any d u
  have hl := fun u => level_any l u
  have hbig := hS.big
  have hn1 : ¬ (w.heap.size = 0) := by omega
  have hn4 : ¬ (w.heap.size = 0) := by omega
  clear hbig
  have H5 : HeldR (sqE d l = 5 → ErrIs a (sqE d l) (.iface 224 (.pointer (some (a 4))))) := hideR (fun q => by rw [q]; exact err_at 4 (by decide))
  have H2 : HeldR (sqE d l = 2 → ErrIs a (sqE d l) (.iface 224 (.pointer (some (a 1))))) := hideR (fun q => by rw [q]; exact err_at 1 (by decide))
  have H0 : HeldR (sqE d l = 0 → ErrIs a (sqE d l) .nilIface) := hideR (fun q => .inl ⟨q, rfl⟩)
  have hE : sqE d l = if dirB d = false then 5 else if l < 0 ∨ 12 < l then 2 else 0 := rfl
  have hA : sqA d l = if sqE d l = 0 then sqV d l.toNat else ⟨0, 0, 0, 0⟩ := rfl
  have hS2 := fun u (k : Below w.heap.size w u) => hS.below k (Nat.le_refl _)
  have hcl := fun (h : dirB d = true) (h2 : lvlB l = true) u => pcell_any d h (l := l.toNat) (by have := of_decide_eq_true h2; omega) u
  generalize ErrIs a (sqE d l) = EI at *
  obtain ⟨z1, z2, hbw⟩ := two_allocD w (.cells #[.int .i64 d.x, .int .i64 d.y, .int .i64 d.z] 24) (.cells #[.int .i64 0, .int .i64 0, .int .i64 0, .int .i64 0] 61)
  have x0 := (cells_at z1 0 (by simp)).1
  have x1 := (cells_at z1 1 (by simp)).1
  have x2 := (cells_at z1 2 (by simp)).1
  cases hd : dirB d
  · rw [hd] at hdi
    have e5 : sqE d l = 5 := by rw [hE, if_pos hd]
    rw [hA, if_neg (by rw [e5]; decide)]
    have HE := unhideR H5 e5
    unfold Dr.val Sq.val at *
    clear hE hA H5 H2 H0 hcl hl e5 hd
    go_enter Tryz.func22, Tryz.ntmps22
    go_wp2_with fail
    refine (hdi _).mono ?_
    rintro e u1 ⟨rfl, k1⟩
    have s4 := (hS2 _ (below_go hbw k1)).g4
    replace z2 := keepB z2 k1
    have HB := hideR (below_go hbw k1)
    clear k1 hdi hbw z1 x0 x1 x2 hS2
    have d0 := (cells_at z2 0 (by simp)).1
    have f0 := (cells_at z2 0 (by simp)).2
    have d1 := (cells_at z2 1 (by simp)).1
    have f1 := (cells_at z2 1 (by simp)).2
    have d2 := (cells_at z2 2 (by simp)).1
    have f2 := (cells_at z2 2 (by simp)).2
    have d3 := (cells_at z2 3 (by simp)).1
    have f3 := (cells_at z2 3 (by simp)).2
    have o := set4_at z2 (.int .i64 0) (.int .i64 0) (.int .i64 0) (.int .i64 0)
    have o0 := (cells_at o 0 (by simp)).1
    have o1 := (cells_at o 1 (by simp)).1
    have o2 := (cells_at o 2 (by simp)).1
    have o3 := (cells_at o 3 (by simp)).1
    replace HB := hideR (set4_blL (unhideR HB) (show w.heap.size ≤ w.heap.size + 1 by omega) (.int .i64 0) (.int .i64 0) (.int .i64 0) (.int .i64 0))
    clear o z2
    go_wp2_with fail
    go_region
    go_wp2
    simp [bodyPost, results, Tryz.results22, go_sem, o0, o1, o2, o3]
    exact ⟨HE, drewF (unhideR HB)⟩
  · rw [hd] at hdi
    have HcL := hideR (hcl hd)
    by_cases q : lvlB l = true
    case neg =>
      have e2 : sqE d l = 2 := by
        rw [hE, if_neg (by rw [hd]; decide), if_pos ?_]
        rw [Bool.not_eq_true] at q
        have := of_decide_eq_false q
        omega
      rw [hA, if_neg (by rw [e2]; decide)]
      have HE := unhideR H2 e2
      rw [Bool.not_eq_true] at q
      rw [q] at hl
      unfold Dr.val Sq.val at *
      clear hE hA H5 H2 H0 hcl HcL e2 hd q
      go_enter Tryz.func22, Tryz.ntmps22
      go_wp2_with fail
      refine (hdi _).mono ?_
      rintro e u1 ⟨rfl, k1⟩
      have s1 := (hS2 _ (below_go hbw k1)).g1
      replace z2 := keepB z2 k1
      have HB := hideR (below_go hbw k1)
      clear k1 hdi hbw z1 x0 x1 x2 hS2
      go_wp2_with fail
      refine (hl _).mono ?_
      rintro e u2 ⟨rfl, rfl⟩
      clear hl
      have d0 := (cells_at z2 0 (by simp)).1
      have f0 := (cells_at z2 0 (by simp)).2
      have d1 := (cells_at z2 1 (by simp)).1
      have f1 := (cells_at z2 1 (by simp)).2
      have d2 := (cells_at z2 2 (by simp)).1
      have f2 := (cells_at z2 2 (by simp)).2
      have d3 := (cells_at z2 3 (by simp)).1
      have f3 := (cells_at z2 3 (by simp)).2
      have o := set4_at z2 (.int .i64 0) (.int .i64 0) (.int .i64 0) (.int .i64 0)
      have o0 := (cells_at o 0 (by simp)).1
      have o1 := (cells_at o 1 (by simp)).1
      have o2 := (cells_at o 2 (by simp)).1
      have o3 := (cells_at o 3 (by simp)).1
      replace HB := hideR (set4_blL (unhideR HB) (show w.heap.size ≤ w.heap.size + 1 by omega) (.int .i64 0) (.int .i64 0) (.int .i64 0) (.int .i64 0))
      clear o z2
      go_wp2_with fail
      go_region
      go_wp2
      simp [bodyPost, results, Tryz.results22, go_sem, o0, o1, o2, o3]
      exact ⟨HE, drewF (unhideR HB)⟩
    have e0 : sqE d l = 0 := by
      rw [hE, if_neg (by rw [hd]; decide), if_neg ?_]
      have := of_decide_eq_true q
      omega
    rw [hA, if_pos e0]
    have HE := unhideR H0 e0
    have hq := hcl hd q
    have hln : ((l.toNat : Nat) : Int) = l := by
      have := of_decide_eq_true q
      omega
    rw [hln] at hq
    rw [q] at hl
    generalize sqV d l.toNat = S at *
    unfold Dr.val Sq.val at *
    clear hE hA H5 H2 H0 hcl HcL e0 hd q hln hS2
    go_enter Tryz.func22, Tryz.ntmps22
    go_wp2_with fail
    refine (hdi _).mono ?_
    rintro e u1 ⟨rfl, k1⟩
    replace z1 := keepB z1 k1
    replace z2 := keepB z2 k1
    have HB := hideR (below_go hbw k1)
    clear k1 hdi hbw x0 x1 x2
    go_wp2_with fail
    refine (hl _).mono ?_
    rintro e u2 ⟨rfl, rfl⟩
    clear hl
    have x0 := (cells_at z1 0 (by simp)).1
    have x1 := (cells_at z1 1 (by simp)).1
    have x2 := (cells_at z1 2 (by simp)).1
    go_wp2_with fail
    refine (hq _).mono ?_
    rintro e u3 ⟨rfl, k3⟩
    replace z2 := keepB z2 k3
    replace HB := hideR (below_go (unhideR HB) k3)
    clear k3 hq z1 x0 x1 x2
    have d0 := (cells_at z2 0 (by simp)).1
    have f0 := (cells_at z2 0 (by simp)).2
    have d1 := (cells_at z2 1 (by simp)).1
    have f1 := (cells_at z2 1 (by simp)).2
    have d2 := (cells_at z2 2 (by simp)).1
    have f2 := (cells_at z2 2 (by simp)).2
    have d3 := (cells_at z2 3 (by simp)).1
    have f3 := (cells_at z2 3 (by simp)).2
    have o := set4_at z2 (.int .i64 S.f) (.int .i64 S.l) (.int .i64 S.c) (.int .i64 S.r)
    have o0 := (cells_at o 0 (by simp)).1
    have o1 := (cells_at o 1 (by simp)).1
    have o2 := (cells_at o 2 (by simp)).1
    have o3 := (cells_at o 3 (by simp)).1
    replace HB := hideR (set4_blL (unhideR HB) (show w.heap.size ≤ w.heap.size + 1 by omega) (.int .i64 S.f) (.int .i64 S.l) (.int .i64 S.c) (.int .i64 S.r))
    clear o z2
    skip
    go_wp2
    simp [bodyPost, results, Tryz.results22, go_sem, o0, o1, o2, o3]
    exact ⟨HE, (unhideR HB)⟩
theorem ce_prog (a : Nat → Addr) : CeProg a where
  cellOf := fun hS d l => pcellOf_any hS d l
end Go.Proofs.YtfonpobdnhifgamGreatDoor
