/-
  The shape of three corners in order: the program's, by contract.
-/
import Derived.Test.YtkdmeclbnnjdgalDoorPdG
namespace Go.Proofs.YtkdmeclbnnjdgalDoor
open Go Go.RowKit

/-- which way three corners go. -/
def hdV (c0 c1 c2 : Cor) : Int := if c0.d = c1.d ∨ c1.d = c2.d then 0 else if 0 < twc c0.p c1.p c2.p then 1 else -1
def shOf (c0 c1 c2 : Cor) : Shp := ⟨c0.d, c1.d, c2.d, hdV c0 c1 c2⟩
set_option maxRecDepth 1000000 in
set_option maxHeartbeats 4000000 in
theorem shapeOf_any (c0 c1 c2 : Cor) (w : World) (h0 : isPtB c0.p = true) (h1 : isPtB c1.p = true) (h2 : isPtB c2.p = true) :
    Calls Tryd.prog 34 #[.agg (cells3 c0 c1 c2)] w fun e w' => e = .returned (shOf c0 c1 c2).val ∧ Below w.heap.size w w' := by
  have ht := fun u => area_any c0.p c1.p c2.p u h0 h1 h2
  unfold shOf Shp.val
  simp only
  unfold Pt.val at ht
  show Calls Tryd.prog 34 #[.agg #[.int .i64 c0.p.x, .int .i64 c0.p.y, .int .i64 c0.p.z, .int .i64 c0.n, .int .i64 c0.d, .int .i64 c1.p.x, .int .i64 c1.p.y, .int .i64 c1.p.z, .int .i64 c1.n, .int .i64 c1.d, .int .i64 c2.p.x, .int .i64 c2.p.y, .int .i64 c2.p.z, .int .i64 c2.n, .int .i64 c2.d]] w _
  clear h0 h1 h2
  obtain ⟨z1, z2, z3, hbw⟩ := three_alloc w (.cells #[.int .i64 c0.p.x, .int .i64 c0.p.y, .int .i64 c0.p.z, .int .i64 c0.n, .int .i64 c0.d, .int .i64 c1.p.x, .int .i64 c1.p.y, .int .i64 c1.p.z, .int .i64 c1.n, .int .i64 c1.d, .int .i64 c2.p.x, .int .i64 c2.p.y, .int .i64 c2.p.z, .int .i64 c2.n, .int .i64 c2.d] 85) (.cells #[.int .i64 0, .int .i64 0, .int .i64 0, .int .i64 0] 41) (.cells #[.int .i64 c0.d, .int .i64 c1.d, .int .i64 c2.d, .int .i64 0] 41)
  have HB := hideR hbw
  clear hbw
  by_cases q1 : c0.d = c1.d
  · have t1 : (c0.d == c1.d) = true := by simp [q1]
    have hh : hdV c0 c1 c2 = 0 := by unfold hdV; rw [if_pos (.inl q1)]
    rw [hh]
    clear hh q1 ht
    go_enter Tryd.func34, Tryd.ntmps34
    go_upto_region 3 with fail
    generalize ((w.alloc (.cells #[.int .i64 c0.p.x, .int .i64 c0.p.y, .int .i64 c0.p.z, .int .i64 c0.n, .int .i64 c0.d, .int .i64 c1.p.x, .int .i64 c1.p.y, .int .i64 c1.p.z, .int .i64 c1.n, .int .i64 c1.d, .int .i64 c2.p.x, .int .i64 c2.p.y, .int .i64 c2.p.z, .int .i64 c2.n, .int .i64 c2.d] 85)).alloc (.cells #[.int .i64 0, .int .i64 0, .int .i64 0, .int .i64 0] 41)).alloc (.cells #[.int .i64 c0.d, .int .i64 c1.d, .int .i64 c2.d, .int .i64 0] 41) = u at *
    obtain ⟨K, hK⟩ : ∃ K, w.heap.size = K := ⟨_, rfl⟩
    have HK := hideR hK
    rw [hK] at z1 z2 z3 ⊢
    clear hK
    have x0 := (cells_at z1 0 (by simp)).1
    have x1 := (cells_at z1 1 (by simp)).1
    have x2 := (cells_at z1 2 (by simp)).1
    have x3 := (cells_at z1 3 (by simp)).1
    have x4 := (cells_at z1 4 (by simp)).1
    have x5 := (cells_at z1 5 (by simp)).1
    have x6 := (cells_at z1 6 (by simp)).1
    have x7 := (cells_at z1 7 (by simp)).1
    have x8 := (cells_at z1 8 (by simp)).1
    have x9 := (cells_at z1 9 (by simp)).1
    have x10 := (cells_at z1 10 (by simp)).1
    have x11 := (cells_at z1 11 (by simp)).1
    have x12 := (cells_at z1 12 (by simp)).1
    have x13 := (cells_at z1 13 (by simp)).1
    have x14 := (cells_at z1 14 (by simp)).1
    have s0 := (cells_at z3 0 (by simp)).1
    have r0 := (cells_at z3 0 (by simp)).2
    have s1 := (cells_at z3 1 (by simp)).1
    have r1 := (cells_at z3 1 (by simp)).2
    have s2 := (cells_at z3 2 (by simp)).1
    have r2 := (cells_at z3 2 (by simp)).2
    have s3 := (cells_at z3 3 (by simp)).1
    have r3 := (cells_at z3 3 (by simp)).2
    go_upto_region 7 with fail
    have y1 : (u.setCell ⟨K + 1 + 1, 3, none⟩ (.int .i64 (0))).heap[K + 1]? = some (.cells #[.int .i64 0, .int .i64 0, .int .i64 0, .int .i64 0] 41) := by
      rw [Below.heap_setCell _ _ _ _ (show K + 1 ≠ K + 1 + 1 by omega)]
      exact z2
    have y3 : (u.setCell ⟨K + 1 + 1, 3, none⟩ (.int .i64 (0))).heap[K + 1 + 1]? = some (.cells #[.int .i64 c0.d, .int .i64 c1.d, .int .i64 c2.d, .int .i64 (0)] 41) := by
      simp [World.setCell, Array.getElem?_modify, z3]
    have HB2 := hideR ((unhideR HB).setCell (p := ⟨K + 1 + 1, 3, none⟩) (show w.heap.size ≤ K + 1 + 1 by have := unhideR HK; omega) (.int .i64 (0)))
    generalize u.setCell ⟨K + 1 + 1, 3, none⟩ (.int .i64 (0)) = u2 at *
    clear x0 x1 x2 x3 x4 x5 x6 x7 x8 x9 x10 x11 x12 x13 x14 s0 r0 s1 r1 s2 r2 s3 r3 z1 z2 z3
    have s0 := (cells_at y3 0 (by simp)).1
    have r0 := (cells_at y3 0 (by simp)).2
    have s1 := (cells_at y3 1 (by simp)).1
    have r1 := (cells_at y3 1 (by simp)).2
    have s2 := (cells_at y3 2 (by simp)).1
    have r2 := (cells_at y3 2 (by simp)).2
    have s3 := (cells_at y3 3 (by simp)).1
    have r3 := (cells_at y3 3 (by simp)).2
    have o0 := (cells_at y1 0 (by simp)).1
    have f0 := (cells_at y1 0 (by simp)).2
    have o1 := (cells_at y1 1 (by simp)).1
    have f1 := (cells_at y1 1 (by simp)).2
    have o2 := (cells_at y1 2 (by simp)).1
    have f2 := (cells_at y1 2 (by simp)).2
    have o3 := (cells_at y1 3 (by simp)).1
    have f3 := (cells_at y1 3 (by simp)).2
    have HF := hideR (set4_bl (unhideR HB2) 0 (show w.heap.size ≤ K + 1 by have := unhideR HK; omega) (.int .i64 c0.d) (.int .i64 c1.d) (.int .i64 c2.d) (.int .i64 (0)))
    clear y1 y3 HB2
    go_wp2
    simp [bodyPost, results, Tryd.results34, go_sem, o0, o1, o2, o3]
    exact unhideR HF
  have t1 : (c0.d == c1.d) = false := by simp [q1]
  by_cases q2 : c1.d = c2.d
  · have t2 : (c1.d == c2.d) = true := by simp [q2]
    have hh : hdV c0 c1 c2 = 0 := by unfold hdV; rw [if_pos (.inr q2)]
    rw [hh]
    clear hh q1 q2 ht
    go_enter Tryd.func34, Tryd.ntmps34
    go_upto_region 3 with fail
    generalize ((w.alloc (.cells #[.int .i64 c0.p.x, .int .i64 c0.p.y, .int .i64 c0.p.z, .int .i64 c0.n, .int .i64 c0.d, .int .i64 c1.p.x, .int .i64 c1.p.y, .int .i64 c1.p.z, .int .i64 c1.n, .int .i64 c1.d, .int .i64 c2.p.x, .int .i64 c2.p.y, .int .i64 c2.p.z, .int .i64 c2.n, .int .i64 c2.d] 85)).alloc (.cells #[.int .i64 0, .int .i64 0, .int .i64 0, .int .i64 0] 41)).alloc (.cells #[.int .i64 c0.d, .int .i64 c1.d, .int .i64 c2.d, .int .i64 0] 41) = u at *
    obtain ⟨K, hK⟩ : ∃ K, w.heap.size = K := ⟨_, rfl⟩
    have HK := hideR hK
    rw [hK] at z1 z2 z3 ⊢
    clear hK
    have x0 := (cells_at z1 0 (by simp)).1
    have x1 := (cells_at z1 1 (by simp)).1
    have x2 := (cells_at z1 2 (by simp)).1
    have x3 := (cells_at z1 3 (by simp)).1
    have x4 := (cells_at z1 4 (by simp)).1
    have x5 := (cells_at z1 5 (by simp)).1
    have x6 := (cells_at z1 6 (by simp)).1
    have x7 := (cells_at z1 7 (by simp)).1
    have x8 := (cells_at z1 8 (by simp)).1
    have x9 := (cells_at z1 9 (by simp)).1
    have x10 := (cells_at z1 10 (by simp)).1
    have x11 := (cells_at z1 11 (by simp)).1
    have x12 := (cells_at z1 12 (by simp)).1
    have x13 := (cells_at z1 13 (by simp)).1
    have x14 := (cells_at z1 14 (by simp)).1
    have s0 := (cells_at z3 0 (by simp)).1
    have r0 := (cells_at z3 0 (by simp)).2
    have s1 := (cells_at z3 1 (by simp)).1
    have r1 := (cells_at z3 1 (by simp)).2
    have s2 := (cells_at z3 2 (by simp)).1
    have r2 := (cells_at z3 2 (by simp)).2
    have s3 := (cells_at z3 3 (by simp)).1
    have r3 := (cells_at z3 3 (by simp)).2
    go_upto_region 7 with fail
    have y1 : (u.setCell ⟨K + 1 + 1, 3, none⟩ (.int .i64 (0))).heap[K + 1]? = some (.cells #[.int .i64 0, .int .i64 0, .int .i64 0, .int .i64 0] 41) := by
      rw [Below.heap_setCell _ _ _ _ (show K + 1 ≠ K + 1 + 1 by omega)]
      exact z2
    have y3 : (u.setCell ⟨K + 1 + 1, 3, none⟩ (.int .i64 (0))).heap[K + 1 + 1]? = some (.cells #[.int .i64 c0.d, .int .i64 c1.d, .int .i64 c2.d, .int .i64 (0)] 41) := by
      simp [World.setCell, Array.getElem?_modify, z3]
    have HB2 := hideR ((unhideR HB).setCell (p := ⟨K + 1 + 1, 3, none⟩) (show w.heap.size ≤ K + 1 + 1 by have := unhideR HK; omega) (.int .i64 (0)))
    generalize u.setCell ⟨K + 1 + 1, 3, none⟩ (.int .i64 (0)) = u2 at *
    clear x0 x1 x2 x3 x4 x5 x6 x7 x8 x9 x10 x11 x12 x13 x14 s0 r0 s1 r1 s2 r2 s3 r3 z1 z2 z3
    have s0 := (cells_at y3 0 (by simp)).1
    have r0 := (cells_at y3 0 (by simp)).2
    have s1 := (cells_at y3 1 (by simp)).1
    have r1 := (cells_at y3 1 (by simp)).2
    have s2 := (cells_at y3 2 (by simp)).1
    have r2 := (cells_at y3 2 (by simp)).2
    have s3 := (cells_at y3 3 (by simp)).1
    have r3 := (cells_at y3 3 (by simp)).2
    have o0 := (cells_at y1 0 (by simp)).1
    have f0 := (cells_at y1 0 (by simp)).2
    have o1 := (cells_at y1 1 (by simp)).1
    have f1 := (cells_at y1 1 (by simp)).2
    have o2 := (cells_at y1 2 (by simp)).1
    have f2 := (cells_at y1 2 (by simp)).2
    have o3 := (cells_at y1 3 (by simp)).1
    have f3 := (cells_at y1 3 (by simp)).2
    have HF := hideR (set4_bl (unhideR HB2) 0 (show w.heap.size ≤ K + 1 by have := unhideR HK; omega) (.int .i64 c0.d) (.int .i64 c1.d) (.int .i64 c2.d) (.int .i64 (0)))
    clear y1 y3 HB2
    go_wp2
    simp [bodyPost, results, Tryd.results34, go_sem, o0, o1, o2, o3]
    exact unhideR HF
  have t2 : (c1.d == c2.d) = false := by simp [q2]
  by_cases q3 : 0 < twc c0.p c1.p c2.p
  · have t3 : decide (0 < twc c0.p c1.p c2.p) = true := decide_eq_true q3
    have hh : hdV c0 c1 c2 = 1 := by unfold hdV; rw [if_neg (fun q => q.elim q1 q2), if_pos q3]
    rw [hh]
    clear hh q1 q2 q3
    generalize twc c0.p c1.p c2.p = T at *
    go_enter Tryd.func34, Tryd.ntmps34
    go_upto_region 3 with fail
    generalize ((w.alloc (.cells #[.int .i64 c0.p.x, .int .i64 c0.p.y, .int .i64 c0.p.z, .int .i64 c0.n, .int .i64 c0.d, .int .i64 c1.p.x, .int .i64 c1.p.y, .int .i64 c1.p.z, .int .i64 c1.n, .int .i64 c1.d, .int .i64 c2.p.x, .int .i64 c2.p.y, .int .i64 c2.p.z, .int .i64 c2.n, .int .i64 c2.d] 85)).alloc (.cells #[.int .i64 0, .int .i64 0, .int .i64 0, .int .i64 0] 41)).alloc (.cells #[.int .i64 c0.d, .int .i64 c1.d, .int .i64 c2.d, .int .i64 0] 41) = u at *
    obtain ⟨K, hK⟩ : ∃ K, w.heap.size = K := ⟨_, rfl⟩
    have HK := hideR hK
    rw [hK] at z1 z2 z3 ⊢
    clear hK
    have x0 := (cells_at z1 0 (by simp)).1
    have x1 := (cells_at z1 1 (by simp)).1
    have x2 := (cells_at z1 2 (by simp)).1
    have x3 := (cells_at z1 3 (by simp)).1
    have x4 := (cells_at z1 4 (by simp)).1
    have x5 := (cells_at z1 5 (by simp)).1
    have x6 := (cells_at z1 6 (by simp)).1
    have x7 := (cells_at z1 7 (by simp)).1
    have x8 := (cells_at z1 8 (by simp)).1
    have x9 := (cells_at z1 9 (by simp)).1
    have x10 := (cells_at z1 10 (by simp)).1
    have x11 := (cells_at z1 11 (by simp)).1
    have x12 := (cells_at z1 12 (by simp)).1
    have x13 := (cells_at z1 13 (by simp)).1
    have x14 := (cells_at z1 14 (by simp)).1
    have s0 := (cells_at z3 0 (by simp)).1
    have r0 := (cells_at z3 0 (by simp)).2
    have s1 := (cells_at z3 1 (by simp)).1
    have r1 := (cells_at z3 1 (by simp)).2
    have s2 := (cells_at z3 2 (by simp)).1
    have r2 := (cells_at z3 2 (by simp)).2
    have s3 := (cells_at z3 3 (by simp)).1
    have r3 := (cells_at z3 3 (by simp)).2
    go_wp2_with fail
    refine (ht _).mono ?_
    rintro e u5 ⟨rfl, k5⟩
    replace z1 := keepB z1 k5
    replace z2 := keepB z2 k5
    replace z3 := keepB z3 k5
    replace HB := hideR (below_go (unhideR HB) k5)
    clear x0 x1 x2 x3 x4 x5 x6 x7 x8 x9 x10 x11 x12 x13 x14 s0 r0 s1 r1 s2 r2 s3 r3 k5 ht
    clear u
    generalize u5 = u at *
    have x0 := (cells_at z1 0 (by simp)).1
    have x1 := (cells_at z1 1 (by simp)).1
    have x2 := (cells_at z1 2 (by simp)).1
    have x3 := (cells_at z1 3 (by simp)).1
    have x4 := (cells_at z1 4 (by simp)).1
    have x5 := (cells_at z1 5 (by simp)).1
    have x6 := (cells_at z1 6 (by simp)).1
    have x7 := (cells_at z1 7 (by simp)).1
    have x8 := (cells_at z1 8 (by simp)).1
    have x9 := (cells_at z1 9 (by simp)).1
    have x10 := (cells_at z1 10 (by simp)).1
    have x11 := (cells_at z1 11 (by simp)).1
    have x12 := (cells_at z1 12 (by simp)).1
    have x13 := (cells_at z1 13 (by simp)).1
    have x14 := (cells_at z1 14 (by simp)).1
    have s0 := (cells_at z3 0 (by simp)).1
    have r0 := (cells_at z3 0 (by simp)).2
    have s1 := (cells_at z3 1 (by simp)).1
    have r1 := (cells_at z3 1 (by simp)).2
    have s2 := (cells_at z3 2 (by simp)).1
    have r2 := (cells_at z3 2 (by simp)).2
    have s3 := (cells_at z3 3 (by simp)).1
    have r3 := (cells_at z3 3 (by simp)).2
    go_upto_region 7 with fail
    have y1 : (u.setCell ⟨K + 1 + 1, 3, none⟩ (.int .i64 (1))).heap[K + 1]? = some (.cells #[.int .i64 0, .int .i64 0, .int .i64 0, .int .i64 0] 41) := by
      rw [Below.heap_setCell _ _ _ _ (show K + 1 ≠ K + 1 + 1 by omega)]
      exact z2
    have y3 : (u.setCell ⟨K + 1 + 1, 3, none⟩ (.int .i64 (1))).heap[K + 1 + 1]? = some (.cells #[.int .i64 c0.d, .int .i64 c1.d, .int .i64 c2.d, .int .i64 (1)] 41) := by
      simp [World.setCell, Array.getElem?_modify, z3]
    have HB2 := hideR ((unhideR HB).setCell (p := ⟨K + 1 + 1, 3, none⟩) (show w.heap.size ≤ K + 1 + 1 by have := unhideR HK; omega) (.int .i64 (1)))
    generalize u.setCell ⟨K + 1 + 1, 3, none⟩ (.int .i64 (1)) = u2 at *
    clear x0 x1 x2 x3 x4 x5 x6 x7 x8 x9 x10 x11 x12 x13 x14 s0 r0 s1 r1 s2 r2 s3 r3 z1 z2 z3
    have s0 := (cells_at y3 0 (by simp)).1
    have r0 := (cells_at y3 0 (by simp)).2
    have s1 := (cells_at y3 1 (by simp)).1
    have r1 := (cells_at y3 1 (by simp)).2
    have s2 := (cells_at y3 2 (by simp)).1
    have r2 := (cells_at y3 2 (by simp)).2
    have s3 := (cells_at y3 3 (by simp)).1
    have r3 := (cells_at y3 3 (by simp)).2
    have o0 := (cells_at y1 0 (by simp)).1
    have f0 := (cells_at y1 0 (by simp)).2
    have o1 := (cells_at y1 1 (by simp)).1
    have f1 := (cells_at y1 1 (by simp)).2
    have o2 := (cells_at y1 2 (by simp)).1
    have f2 := (cells_at y1 2 (by simp)).2
    have o3 := (cells_at y1 3 (by simp)).1
    have f3 := (cells_at y1 3 (by simp)).2
    have HF := hideR (set4_bl (unhideR HB2) 0 (show w.heap.size ≤ K + 1 by have := unhideR HK; omega) (.int .i64 c0.d) (.int .i64 c1.d) (.int .i64 c2.d) (.int .i64 (1)))
    clear y1 y3 HB2
    go_wp2
    simp [bodyPost, results, Tryd.results34, go_sem, o0, o1, o2, o3]
    exact unhideR HF
  · have t3 : decide (0 < twc c0.p c1.p c2.p) = false := decide_eq_false q3
    have hh : hdV c0 c1 c2 = -1 := by unfold hdV; rw [if_neg (fun q => q.elim q1 q2), if_neg q3]
    rw [hh]
    clear hh q1 q2 q3
    generalize twc c0.p c1.p c2.p = T at *
    go_enter Tryd.func34, Tryd.ntmps34
    go_upto_region 3 with fail
    generalize ((w.alloc (.cells #[.int .i64 c0.p.x, .int .i64 c0.p.y, .int .i64 c0.p.z, .int .i64 c0.n, .int .i64 c0.d, .int .i64 c1.p.x, .int .i64 c1.p.y, .int .i64 c1.p.z, .int .i64 c1.n, .int .i64 c1.d, .int .i64 c2.p.x, .int .i64 c2.p.y, .int .i64 c2.p.z, .int .i64 c2.n, .int .i64 c2.d] 85)).alloc (.cells #[.int .i64 0, .int .i64 0, .int .i64 0, .int .i64 0] 41)).alloc (.cells #[.int .i64 c0.d, .int .i64 c1.d, .int .i64 c2.d, .int .i64 0] 41) = u at *
    obtain ⟨K, hK⟩ : ∃ K, w.heap.size = K := ⟨_, rfl⟩
    have HK := hideR hK
    rw [hK] at z1 z2 z3 ⊢
    clear hK
    have x0 := (cells_at z1 0 (by simp)).1
    have x1 := (cells_at z1 1 (by simp)).1
    have x2 := (cells_at z1 2 (by simp)).1
    have x3 := (cells_at z1 3 (by simp)).1
    have x4 := (cells_at z1 4 (by simp)).1
    have x5 := (cells_at z1 5 (by simp)).1
    have x6 := (cells_at z1 6 (by simp)).1
    have x7 := (cells_at z1 7 (by simp)).1
    have x8 := (cells_at z1 8 (by simp)).1
    have x9 := (cells_at z1 9 (by simp)).1
    have x10 := (cells_at z1 10 (by simp)).1
    have x11 := (cells_at z1 11 (by simp)).1
    have x12 := (cells_at z1 12 (by simp)).1
    have x13 := (cells_at z1 13 (by simp)).1
    have x14 := (cells_at z1 14 (by simp)).1
    have s0 := (cells_at z3 0 (by simp)).1
    have r0 := (cells_at z3 0 (by simp)).2
    have s1 := (cells_at z3 1 (by simp)).1
    have r1 := (cells_at z3 1 (by simp)).2
    have s2 := (cells_at z3 2 (by simp)).1
    have r2 := (cells_at z3 2 (by simp)).2
    have s3 := (cells_at z3 3 (by simp)).1
    have r3 := (cells_at z3 3 (by simp)).2
    go_wp2_with fail
    refine (ht _).mono ?_
    rintro e u5 ⟨rfl, k5⟩
    replace z1 := keepB z1 k5
    replace z2 := keepB z2 k5
    replace z3 := keepB z3 k5
    replace HB := hideR (below_go (unhideR HB) k5)
    clear x0 x1 x2 x3 x4 x5 x6 x7 x8 x9 x10 x11 x12 x13 x14 s0 r0 s1 r1 s2 r2 s3 r3 k5 ht
    clear u
    generalize u5 = u at *
    have x0 := (cells_at z1 0 (by simp)).1
    have x1 := (cells_at z1 1 (by simp)).1
    have x2 := (cells_at z1 2 (by simp)).1
    have x3 := (cells_at z1 3 (by simp)).1
    have x4 := (cells_at z1 4 (by simp)).1
    have x5 := (cells_at z1 5 (by simp)).1
    have x6 := (cells_at z1 6 (by simp)).1
    have x7 := (cells_at z1 7 (by simp)).1
    have x8 := (cells_at z1 8 (by simp)).1
    have x9 := (cells_at z1 9 (by simp)).1
    have x10 := (cells_at z1 10 (by simp)).1
    have x11 := (cells_at z1 11 (by simp)).1
    have x12 := (cells_at z1 12 (by simp)).1
    have x13 := (cells_at z1 13 (by simp)).1
    have x14 := (cells_at z1 14 (by simp)).1
    have s0 := (cells_at z3 0 (by simp)).1
    have r0 := (cells_at z3 0 (by simp)).2
    have s1 := (cells_at z3 1 (by simp)).1
    have r1 := (cells_at z3 1 (by simp)).2
    have s2 := (cells_at z3 2 (by simp)).1
    have r2 := (cells_at z3 2 (by simp)).2
    have s3 := (cells_at z3 3 (by simp)).1
    have r3 := (cells_at z3 3 (by simp)).2
    go_upto_region 7 with fail
    have y1 : (u.setCell ⟨K + 1 + 1, 3, none⟩ (.int .i64 (-1))).heap[K + 1]? = some (.cells #[.int .i64 0, .int .i64 0, .int .i64 0, .int .i64 0] 41) := by
      rw [Below.heap_setCell _ _ _ _ (show K + 1 ≠ K + 1 + 1 by omega)]
      exact z2
    have y3 : (u.setCell ⟨K + 1 + 1, 3, none⟩ (.int .i64 (-1))).heap[K + 1 + 1]? = some (.cells #[.int .i64 c0.d, .int .i64 c1.d, .int .i64 c2.d, .int .i64 (-1)] 41) := by
      simp [World.setCell, Array.getElem?_modify, z3]
    have HB2 := hideR ((unhideR HB).setCell (p := ⟨K + 1 + 1, 3, none⟩) (show w.heap.size ≤ K + 1 + 1 by have := unhideR HK; omega) (.int .i64 (-1)))
    generalize u.setCell ⟨K + 1 + 1, 3, none⟩ (.int .i64 (-1)) = u2 at *
    clear x0 x1 x2 x3 x4 x5 x6 x7 x8 x9 x10 x11 x12 x13 x14 s0 r0 s1 r1 s2 r2 s3 r3 z1 z2 z3
    have s0 := (cells_at y3 0 (by simp)).1
    have r0 := (cells_at y3 0 (by simp)).2
    have s1 := (cells_at y3 1 (by simp)).1
    have r1 := (cells_at y3 1 (by simp)).2
    have s2 := (cells_at y3 2 (by simp)).1
    have r2 := (cells_at y3 2 (by simp)).2
    have s3 := (cells_at y3 3 (by simp)).1
    have r3 := (cells_at y3 3 (by simp)).2
    have o0 := (cells_at y1 0 (by simp)).1
    have f0 := (cells_at y1 0 (by simp)).2
    have o1 := (cells_at y1 1 (by simp)).1
    have f1 := (cells_at y1 1 (by simp)).2
    have o2 := (cells_at y1 2 (by simp)).1
    have f2 := (cells_at y1 2 (by simp)).2
    have o3 := (cells_at y1 3 (by simp)).1
    have f3 := (cells_at y1 3 (by simp)).2
    have HF := hideR (set4_bl (unhideR HB2) 0 (show w.heap.size ≤ K + 1 by have := unhideR HK; omega) (.int .i64 c0.d) (.int .i64 c1.d) (.int .i64 c2.d) (.int .i64 (-1)))
    clear y1 y3 HB2
    go_wp2
    simp [bodyPost, results, Tryd.results34, go_sem, o0, o1, o2, o3]
    exact unhideR HF
end Go.Proofs.YtkdmeclbnnjdgalDoor
