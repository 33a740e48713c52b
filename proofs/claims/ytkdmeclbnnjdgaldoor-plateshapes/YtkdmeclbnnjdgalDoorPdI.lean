/-
  The shape of three points: the program's Of, by contract.
-/
import Derived.Test.YtkdmeclbnnjdgalDoorPdH
namespace Go.Proofs.YtkdmeclbnnjdgalDoor
open Go Go.RowKit

theorem four_alloc (w : World) (o1 o2 o3 o4 : Obj) : ((((w.alloc o1).alloc o2).alloc o3).alloc o4).heap[w.heap.size]? = some o1 ∧ ((((w.alloc o1).alloc o2).alloc o3).alloc o4).heap[w.heap.size + 1]? = some o2 ∧ ((((w.alloc o1).alloc o2).alloc o3).alloc o4).heap[w.heap.size + 1 + 1]? = some o3 ∧ ((((w.alloc o1).alloc o2).alloc o3).alloc o4).heap[w.heap.size + 1 + 1 + 1]? = some o4 ∧ Below w.heap.size w ((((w.alloc o1).alloc o2).alloc o3).alloc o4) := by
  obtain ⟨a, b, c, d⟩ := three_alloc w o1 o2 o3
  refine ⟨keepA a, keepA b, keepA c, ?_, below_go d (below_a _ o4)⟩
  have := alloc_last (((w.alloc o1).alloc o2).alloc o3) o4
  simpa using this
theorem all_ins {P : Cor → Prop} : ∀ (j : Nat) (p : Nat → Cor), (∀ k, P (p k)) → ∀ k, P (insF j p k)
  | 0, _, h => h
  | j + 1, p, h => by
    intro k
    show P ((if (p j).d < (p (j + 1)).d then insF j (swpF p (j + 1) j) else p) k)
    split
    · refine all_ins j _ (fun m => ?_) k
      unfold swpF
      split
      · exact h _
      · split
        · exact h _
        · exact h _
    · exact h k
theorem cor3_pt {p0 p1 p2 : Pt} (h0 : isPtB p0 = true) (h1 : isPtB p1 = true) (h2 : isPtB p2 = true) (k : Nat) : isPtB (cor3 p0 p1 p2 k).p = true := by
  refine all_ins (P := fun c => isPtB c.p = true) 2 _ (all_ins (P := fun c => isPtB c.p = true) 1 _ (fun m => ?_)) k
  match m with
  | 0 => exact h0
  | 1 => exact h1
  | 2 => exact h2
  | m + 3 =>
    have e : tri3 ⟨p0, 0, btw p1 p2⟩ ⟨p1, 1, btw p2 p0⟩ ⟨p2, 2, btw p0 p1⟩ (m + 3) = default := by
      unfold tri3 pa
      simp
    rw [e]
    decide
def ofB (p0 p1 p2 : Pt) : Bool := isPtB p0 && (isPtB p1 && (isPtB p2 && !decide (twc p0 p1 p2 = 0)))
/-- the shape of three points. -/
def ofV (p0 p1 p2 : Pt) : Shp := if ofB p0 p1 p2 then shOf (cor3 p0 p1 p2 0) (cor3 p0 p1 p2 1) (cor3 p0 p1 p2 2) else ⟨0, 0, 0, 0⟩
set_option maxRecDepth 1000000 in
set_option maxHeartbeats 4000000 in
theorem of_any (p0 p1 p2 : Pt) (w : World) :
    Calls Tryd.prog 12 #[p0.val, p1.val, p2.val] w fun e w' => e = .returned (.tuple #[(ofV p0 p1 p2).val, .bool (ofB p0 p1 p2)]) ∧ Below w.heap.size w w' := by
  have c0 := fun u => pPoint_any p0 u
  have c1 := fun u => pPoint_any p1 u
  have c2 := fun u => pPoint_any p2 u
  have ht := fun u (a : isPtB p0 = true) (b : isPtB p1 = true) (c : isPtB p2 = true) => area_any p0 p1 p2 u a b c
  have hc := fun u (a : isPtB p0 = true) (b : isPtB p1 = true) (c : isPtB p2 = true) => corners_any p0 p1 p2 u a b c
  have hs := fun u (a : isPtB p0 = true) (b : isPtB p1 = true) (c : isPtB p2 = true) => shapeOf_any (cor3 p0 p1 p2 0) (cor3 p0 p1 p2 1) (cor3 p0 p1 p2 2) u (cor3_pt a b c 0) (cor3_pt a b c 1) (cor3_pt a b c 2)
  unfold ofV ofB
  generalize shOf (cor3 p0 p1 p2 0) (cor3 p0 p1 p2 1) (cor3 p0 p1 p2 2) = R at *
  generalize cells3 (cor3 p0 p1 p2 0) (cor3 p0 p1 p2 1) (cor3 p0 p1 p2 2) = CC at *
  obtain ⟨sl, sm, ss, sh⟩ := R
  obtain ⟨B0, h0⟩ : ∃ B, isPtB p0 = B := ⟨_, rfl⟩
  obtain ⟨B1, h1⟩ : ∃ B, isPtB p1 = B := ⟨_, rfl⟩
  obtain ⟨B2, h2⟩ : ∃ B, isPtB p2 = B := ⟨_, rfl⟩
  rw [h0] at c0
  rw [h1] at c1
  rw [h2] at c2
  rw [h0, h1, h2]
  unfold Pt.val Shp.val at *
  simp only at *
  obtain ⟨z0, z1, z2, z3, hbw⟩ := four_alloc w (.cells #[.int .i64 p0.x, .int .i64 p0.y, .int .i64 p0.z] 40) (.cells #[.int .i64 p1.x, .int .i64 p1.y, .int .i64 p1.z] 40) (.cells #[.int .i64 p2.x, .int .i64 p2.y, .int .i64 p2.z] 40) (.cells #[.int .i64 0, .int .i64 0, .int .i64 0, .int .i64 0] 41)
  have HB := hideR hbw
  clear hbw
  cases B0 with
  | false =>
    clear ht hc hs
    go_enter Tryd.func12, Tryd.ntmps12
    go_upto_region 1 with fail
    generalize (((w.alloc (.cells #[.int .i64 p0.x, .int .i64 p0.y, .int .i64 p0.z] 40)).alloc (.cells #[.int .i64 p1.x, .int .i64 p1.y, .int .i64 p1.z] 40)).alloc (.cells #[.int .i64 p2.x, .int .i64 p2.y, .int .i64 p2.z] 40)).alloc (.cells #[.int .i64 0, .int .i64 0, .int .i64 0, .int .i64 0] 41) = u at *
    obtain ⟨K, hK⟩ : ∃ K, w.heap.size = K := ⟨_, rfl⟩
    have HK := hideR hK
    rw [hK] at z0 z1 z2 z3 ⊢
    clear hK
    have x00 := (cells_at z0 0 (by simp)).1
    have x01 := (cells_at z0 1 (by simp)).1
    have x02 := (cells_at z0 2 (by simp)).1
    have x10 := (cells_at z1 0 (by simp)).1
    have x11 := (cells_at z1 1 (by simp)).1
    have x12 := (cells_at z1 2 (by simp)).1
    have x20 := (cells_at z2 0 (by simp)).1
    have x21 := (cells_at z2 1 (by simp)).1
    have x22 := (cells_at z2 2 (by simp)).1
    go_wp2_with fail
    refine (c0 _).mono ?_
    rintro e v1 ⟨rfl, k5⟩
    replace z0 := keepB z0 k5
    replace z1 := keepB z1 k5
    replace z2 := keepB z2 k5
    replace z3 := keepB z3 k5
    replace HB := hideR (below_go (unhideR HB) k5)
    clear x00 x01 x02 x10 x11 x12 x20 x21 x22 k5
    have x00 := (cells_at z0 0 (by simp)).1
    have x01 := (cells_at z0 1 (by simp)).1
    have x02 := (cells_at z0 2 (by simp)).1
    have x10 := (cells_at z1 0 (by simp)).1
    have x11 := (cells_at z1 1 (by simp)).1
    have x12 := (cells_at z1 2 (by simp)).1
    have x20 := (cells_at z2 0 (by simp)).1
    have x21 := (cells_at z2 1 (by simp)).1
    have x22 := (cells_at z2 2 (by simp)).1
    have o0 := (cells_at z3 0 (by simp)).1
    have f0 := (cells_at z3 0 (by simp)).2
    have o1 := (cells_at z3 1 (by simp)).1
    have f1 := (cells_at z3 1 (by simp)).2
    have o2 := (cells_at z3 2 (by simp)).1
    have f2 := (cells_at z3 2 (by simp)).2
    have o3 := (cells_at z3 3 (by simp)).1
    have f3 := (cells_at z3 3 (by simp)).2
    have HF := hideR (set4_bl (unhideR HB) 0 (show w.heap.size ≤ K + 1 + 1 + 1 by have := unhideR HK; omega) (.int .i64 (0)) (.int .i64 (0)) (.int .i64 (0)) (.int .i64 (0)))
    clear z0 z1 z2 z3 HB HK
    go_wp2
    simp [bodyPost, results, Tryd.results12, go_sem, o0, o1, o2, o3]
    exact unhideR HF
  | true =>
  cases B1 with
  | false =>
    clear ht hc hs
    go_enter Tryd.func12, Tryd.ntmps12
    go_upto_region 1 with fail
    generalize (((w.alloc (.cells #[.int .i64 p0.x, .int .i64 p0.y, .int .i64 p0.z] 40)).alloc (.cells #[.int .i64 p1.x, .int .i64 p1.y, .int .i64 p1.z] 40)).alloc (.cells #[.int .i64 p2.x, .int .i64 p2.y, .int .i64 p2.z] 40)).alloc (.cells #[.int .i64 0, .int .i64 0, .int .i64 0, .int .i64 0] 41) = u at *
    obtain ⟨K, hK⟩ : ∃ K, w.heap.size = K := ⟨_, rfl⟩
    have HK := hideR hK
    rw [hK] at z0 z1 z2 z3 ⊢
    clear hK
    have x00 := (cells_at z0 0 (by simp)).1
    have x01 := (cells_at z0 1 (by simp)).1
    have x02 := (cells_at z0 2 (by simp)).1
    have x10 := (cells_at z1 0 (by simp)).1
    have x11 := (cells_at z1 1 (by simp)).1
    have x12 := (cells_at z1 2 (by simp)).1
    have x20 := (cells_at z2 0 (by simp)).1
    have x21 := (cells_at z2 1 (by simp)).1
    have x22 := (cells_at z2 2 (by simp)).1
    go_wp2_with fail
    refine (c0 _).mono ?_
    rintro e v2 ⟨rfl, k5⟩
    replace z0 := keepB z0 k5
    replace z1 := keepB z1 k5
    replace z2 := keepB z2 k5
    replace z3 := keepB z3 k5
    replace HB := hideR (below_go (unhideR HB) k5)
    clear x00 x01 x02 x10 x11 x12 x20 x21 x22 k5
    have x00 := (cells_at z0 0 (by simp)).1
    have x01 := (cells_at z0 1 (by simp)).1
    have x02 := (cells_at z0 2 (by simp)).1
    have x10 := (cells_at z1 0 (by simp)).1
    have x11 := (cells_at z1 1 (by simp)).1
    have x12 := (cells_at z1 2 (by simp)).1
    have x20 := (cells_at z2 0 (by simp)).1
    have x21 := (cells_at z2 1 (by simp)).1
    have x22 := (cells_at z2 2 (by simp)).1
    go_wp2_with fail
    refine (c1 _).mono ?_
    rintro e v3 ⟨rfl, k5⟩
    replace z0 := keepB z0 k5
    replace z1 := keepB z1 k5
    replace z2 := keepB z2 k5
    replace z3 := keepB z3 k5
    replace HB := hideR (below_go (unhideR HB) k5)
    clear x00 x01 x02 x10 x11 x12 x20 x21 x22 k5
    have x00 := (cells_at z0 0 (by simp)).1
    have x01 := (cells_at z0 1 (by simp)).1
    have x02 := (cells_at z0 2 (by simp)).1
    have x10 := (cells_at z1 0 (by simp)).1
    have x11 := (cells_at z1 1 (by simp)).1
    have x12 := (cells_at z1 2 (by simp)).1
    have x20 := (cells_at z2 0 (by simp)).1
    have x21 := (cells_at z2 1 (by simp)).1
    have x22 := (cells_at z2 2 (by simp)).1
    have o0 := (cells_at z3 0 (by simp)).1
    have f0 := (cells_at z3 0 (by simp)).2
    have o1 := (cells_at z3 1 (by simp)).1
    have f1 := (cells_at z3 1 (by simp)).2
    have o2 := (cells_at z3 2 (by simp)).1
    have f2 := (cells_at z3 2 (by simp)).2
    have o3 := (cells_at z3 3 (by simp)).1
    have f3 := (cells_at z3 3 (by simp)).2
    have HF := hideR (set4_bl (unhideR HB) 0 (show w.heap.size ≤ K + 1 + 1 + 1 by have := unhideR HK; omega) (.int .i64 (0)) (.int .i64 (0)) (.int .i64 (0)) (.int .i64 (0)))
    clear z0 z1 z2 z3 HB HK
    go_wp2
    simp [bodyPost, results, Tryd.results12, go_sem, o0, o1, o2, o3]
    exact unhideR HF
  | true =>
  cases B2 with
  | false =>
    clear ht hc hs
    go_enter Tryd.func12, Tryd.ntmps12
    go_upto_region 1 with fail
    generalize (((w.alloc (.cells #[.int .i64 p0.x, .int .i64 p0.y, .int .i64 p0.z] 40)).alloc (.cells #[.int .i64 p1.x, .int .i64 p1.y, .int .i64 p1.z] 40)).alloc (.cells #[.int .i64 p2.x, .int .i64 p2.y, .int .i64 p2.z] 40)).alloc (.cells #[.int .i64 0, .int .i64 0, .int .i64 0, .int .i64 0] 41) = u at *
    obtain ⟨K, hK⟩ : ∃ K, w.heap.size = K := ⟨_, rfl⟩
    have HK := hideR hK
    rw [hK] at z0 z1 z2 z3 ⊢
    clear hK
    have x00 := (cells_at z0 0 (by simp)).1
    have x01 := (cells_at z0 1 (by simp)).1
    have x02 := (cells_at z0 2 (by simp)).1
    have x10 := (cells_at z1 0 (by simp)).1
    have x11 := (cells_at z1 1 (by simp)).1
    have x12 := (cells_at z1 2 (by simp)).1
    have x20 := (cells_at z2 0 (by simp)).1
    have x21 := (cells_at z2 1 (by simp)).1
    have x22 := (cells_at z2 2 (by simp)).1
    go_wp2_with fail
    refine (c0 _).mono ?_
    rintro e v4 ⟨rfl, k5⟩
    replace z0 := keepB z0 k5
    replace z1 := keepB z1 k5
    replace z2 := keepB z2 k5
    replace z3 := keepB z3 k5
    replace HB := hideR (below_go (unhideR HB) k5)
    clear x00 x01 x02 x10 x11 x12 x20 x21 x22 k5
    have x00 := (cells_at z0 0 (by simp)).1
    have x01 := (cells_at z0 1 (by simp)).1
    have x02 := (cells_at z0 2 (by simp)).1
    have x10 := (cells_at z1 0 (by simp)).1
    have x11 := (cells_at z1 1 (by simp)).1
    have x12 := (cells_at z1 2 (by simp)).1
    have x20 := (cells_at z2 0 (by simp)).1
    have x21 := (cells_at z2 1 (by simp)).1
    have x22 := (cells_at z2 2 (by simp)).1
    go_wp2_with fail
    refine (c1 _).mono ?_
    rintro e v5 ⟨rfl, k5⟩
    replace z0 := keepB z0 k5
    replace z1 := keepB z1 k5
    replace z2 := keepB z2 k5
    replace z3 := keepB z3 k5
    replace HB := hideR (below_go (unhideR HB) k5)
    clear x00 x01 x02 x10 x11 x12 x20 x21 x22 k5
    have x00 := (cells_at z0 0 (by simp)).1
    have x01 := (cells_at z0 1 (by simp)).1
    have x02 := (cells_at z0 2 (by simp)).1
    have x10 := (cells_at z1 0 (by simp)).1
    have x11 := (cells_at z1 1 (by simp)).1
    have x12 := (cells_at z1 2 (by simp)).1
    have x20 := (cells_at z2 0 (by simp)).1
    have x21 := (cells_at z2 1 (by simp)).1
    have x22 := (cells_at z2 2 (by simp)).1
    go_wp2_with fail
    refine (c2 _).mono ?_
    rintro e v6 ⟨rfl, k5⟩
    replace z0 := keepB z0 k5
    replace z1 := keepB z1 k5
    replace z2 := keepB z2 k5
    replace z3 := keepB z3 k5
    replace HB := hideR (below_go (unhideR HB) k5)
    clear x00 x01 x02 x10 x11 x12 x20 x21 x22 k5
    have x00 := (cells_at z0 0 (by simp)).1
    have x01 := (cells_at z0 1 (by simp)).1
    have x02 := (cells_at z0 2 (by simp)).1
    have x10 := (cells_at z1 0 (by simp)).1
    have x11 := (cells_at z1 1 (by simp)).1
    have x12 := (cells_at z1 2 (by simp)).1
    have x20 := (cells_at z2 0 (by simp)).1
    have x21 := (cells_at z2 1 (by simp)).1
    have x22 := (cells_at z2 2 (by simp)).1
    have o0 := (cells_at z3 0 (by simp)).1
    have f0 := (cells_at z3 0 (by simp)).2
    have o1 := (cells_at z3 1 (by simp)).1
    have f1 := (cells_at z3 1 (by simp)).2
    have o2 := (cells_at z3 2 (by simp)).1
    have f2 := (cells_at z3 2 (by simp)).2
    have o3 := (cells_at z3 3 (by simp)).1
    have f3 := (cells_at z3 3 (by simp)).2
    have HF := hideR (set4_bl (unhideR HB) 0 (show w.heap.size ≤ K + 1 + 1 + 1 by have := unhideR HK; omega) (.int .i64 (0)) (.int .i64 (0)) (.int .i64 (0)) (.int .i64 (0)))
    clear z0 z1 z2 z3 HB HK
    go_wp2
    simp [bodyPost, results, Tryd.results12, go_sem, o0, o1, o2, o3]
    exact unhideR HF
  | true =>
  replace ht := fun u => ht u h0 h1 h2
  replace hc := fun u => hc u h0 h1 h2
  replace hs := fun u => hs u h0 h1 h2
  clear h0 h1 h2
  by_cases q : twc p0 p1 p2 = 0
  · have t1 : (twc p0 p1 p2 == 0) = true := by simp [q]
    rw [decide_eq_true q]
    clear q hc hs
    generalize twc p0 p1 p2 = T at *
    go_enter Tryd.func12, Tryd.ntmps12
    go_upto_region 1 with fail
    generalize (((w.alloc (.cells #[.int .i64 p0.x, .int .i64 p0.y, .int .i64 p0.z] 40)).alloc (.cells #[.int .i64 p1.x, .int .i64 p1.y, .int .i64 p1.z] 40)).alloc (.cells #[.int .i64 p2.x, .int .i64 p2.y, .int .i64 p2.z] 40)).alloc (.cells #[.int .i64 0, .int .i64 0, .int .i64 0, .int .i64 0] 41) = u at *
    obtain ⟨K, hK⟩ : ∃ K, w.heap.size = K := ⟨_, rfl⟩
    have HK := hideR hK
    rw [hK] at z0 z1 z2 z3 ⊢
    clear hK
    have x00 := (cells_at z0 0 (by simp)).1
    have x01 := (cells_at z0 1 (by simp)).1
    have x02 := (cells_at z0 2 (by simp)).1
    have x10 := (cells_at z1 0 (by simp)).1
    have x11 := (cells_at z1 1 (by simp)).1
    have x12 := (cells_at z1 2 (by simp)).1
    have x20 := (cells_at z2 0 (by simp)).1
    have x21 := (cells_at z2 1 (by simp)).1
    have x22 := (cells_at z2 2 (by simp)).1
    go_wp2_with fail
    refine (c0 _).mono ?_
    rintro e v7 ⟨rfl, k5⟩
    replace z0 := keepB z0 k5
    replace z1 := keepB z1 k5
    replace z2 := keepB z2 k5
    replace z3 := keepB z3 k5
    replace HB := hideR (below_go (unhideR HB) k5)
    clear x00 x01 x02 x10 x11 x12 x20 x21 x22 k5
    have x00 := (cells_at z0 0 (by simp)).1
    have x01 := (cells_at z0 1 (by simp)).1
    have x02 := (cells_at z0 2 (by simp)).1
    have x10 := (cells_at z1 0 (by simp)).1
    have x11 := (cells_at z1 1 (by simp)).1
    have x12 := (cells_at z1 2 (by simp)).1
    have x20 := (cells_at z2 0 (by simp)).1
    have x21 := (cells_at z2 1 (by simp)).1
    have x22 := (cells_at z2 2 (by simp)).1
    go_wp2_with fail
    refine (c1 _).mono ?_
    rintro e v8 ⟨rfl, k5⟩
    replace z0 := keepB z0 k5
    replace z1 := keepB z1 k5
    replace z2 := keepB z2 k5
    replace z3 := keepB z3 k5
    replace HB := hideR (below_go (unhideR HB) k5)
    clear x00 x01 x02 x10 x11 x12 x20 x21 x22 k5
    have x00 := (cells_at z0 0 (by simp)).1
    have x01 := (cells_at z0 1 (by simp)).1
    have x02 := (cells_at z0 2 (by simp)).1
    have x10 := (cells_at z1 0 (by simp)).1
    have x11 := (cells_at z1 1 (by simp)).1
    have x12 := (cells_at z1 2 (by simp)).1
    have x20 := (cells_at z2 0 (by simp)).1
    have x21 := (cells_at z2 1 (by simp)).1
    have x22 := (cells_at z2 2 (by simp)).1
    go_wp2_with fail
    refine (c2 _).mono ?_
    rintro e v9 ⟨rfl, k5⟩
    replace z0 := keepB z0 k5
    replace z1 := keepB z1 k5
    replace z2 := keepB z2 k5
    replace z3 := keepB z3 k5
    replace HB := hideR (below_go (unhideR HB) k5)
    clear x00 x01 x02 x10 x11 x12 x20 x21 x22 k5
    have x00 := (cells_at z0 0 (by simp)).1
    have x01 := (cells_at z0 1 (by simp)).1
    have x02 := (cells_at z0 2 (by simp)).1
    have x10 := (cells_at z1 0 (by simp)).1
    have x11 := (cells_at z1 1 (by simp)).1
    have x12 := (cells_at z1 2 (by simp)).1
    have x20 := (cells_at z2 0 (by simp)).1
    have x21 := (cells_at z2 1 (by simp)).1
    have x22 := (cells_at z2 2 (by simp)).1
    go_wp2_with fail
    refine (ht _).mono ?_
    rintro e v10 ⟨rfl, k5⟩
    replace z0 := keepB z0 k5
    replace z1 := keepB z1 k5
    replace z2 := keepB z2 k5
    replace z3 := keepB z3 k5
    replace HB := hideR (below_go (unhideR HB) k5)
    clear x00 x01 x02 x10 x11 x12 x20 x21 x22 k5
    have x00 := (cells_at z0 0 (by simp)).1
    have x01 := (cells_at z0 1 (by simp)).1
    have x02 := (cells_at z0 2 (by simp)).1
    have x10 := (cells_at z1 0 (by simp)).1
    have x11 := (cells_at z1 1 (by simp)).1
    have x12 := (cells_at z1 2 (by simp)).1
    have x20 := (cells_at z2 0 (by simp)).1
    have x21 := (cells_at z2 1 (by simp)).1
    have x22 := (cells_at z2 2 (by simp)).1
    have o0 := (cells_at z3 0 (by simp)).1
    have f0 := (cells_at z3 0 (by simp)).2
    have o1 := (cells_at z3 1 (by simp)).1
    have f1 := (cells_at z3 1 (by simp)).2
    have o2 := (cells_at z3 2 (by simp)).1
    have f2 := (cells_at z3 2 (by simp)).2
    have o3 := (cells_at z3 3 (by simp)).1
    have f3 := (cells_at z3 3 (by simp)).2
    have HF := hideR (set4_bl (unhideR HB) 0 (show w.heap.size ≤ K + 1 + 1 + 1 by have := unhideR HK; omega) (.int .i64 (0)) (.int .i64 (0)) (.int .i64 (0)) (.int .i64 (0)))
    clear z0 z1 z2 z3 HB HK
    go_wp2
    simp [bodyPost, results, Tryd.results12, go_sem, o0, o1, o2, o3]
    exact unhideR HF
  · have t1 : (twc p0 p1 p2 == 0) = false := by simp [q]
    rw [decide_eq_false q]
    clear q
    generalize twc p0 p1 p2 = T at *
    go_enter Tryd.func12, Tryd.ntmps12
    go_upto_region 1 with fail
    generalize (((w.alloc (.cells #[.int .i64 p0.x, .int .i64 p0.y, .int .i64 p0.z] 40)).alloc (.cells #[.int .i64 p1.x, .int .i64 p1.y, .int .i64 p1.z] 40)).alloc (.cells #[.int .i64 p2.x, .int .i64 p2.y, .int .i64 p2.z] 40)).alloc (.cells #[.int .i64 0, .int .i64 0, .int .i64 0, .int .i64 0] 41) = u at *
    obtain ⟨K, hK⟩ : ∃ K, w.heap.size = K := ⟨_, rfl⟩
    have HK := hideR hK
    rw [hK] at z0 z1 z2 z3 ⊢
    clear hK
    have x00 := (cells_at z0 0 (by simp)).1
    have x01 := (cells_at z0 1 (by simp)).1
    have x02 := (cells_at z0 2 (by simp)).1
    have x10 := (cells_at z1 0 (by simp)).1
    have x11 := (cells_at z1 1 (by simp)).1
    have x12 := (cells_at z1 2 (by simp)).1
    have x20 := (cells_at z2 0 (by simp)).1
    have x21 := (cells_at z2 1 (by simp)).1
    have x22 := (cells_at z2 2 (by simp)).1
    go_wp2_with fail
    refine (c0 _).mono ?_
    rintro e v11 ⟨rfl, k5⟩
    replace z0 := keepB z0 k5
    replace z1 := keepB z1 k5
    replace z2 := keepB z2 k5
    replace z3 := keepB z3 k5
    replace HB := hideR (below_go (unhideR HB) k5)
    clear x00 x01 x02 x10 x11 x12 x20 x21 x22 k5
    have x00 := (cells_at z0 0 (by simp)).1
    have x01 := (cells_at z0 1 (by simp)).1
    have x02 := (cells_at z0 2 (by simp)).1
    have x10 := (cells_at z1 0 (by simp)).1
    have x11 := (cells_at z1 1 (by simp)).1
    have x12 := (cells_at z1 2 (by simp)).1
    have x20 := (cells_at z2 0 (by simp)).1
    have x21 := (cells_at z2 1 (by simp)).1
    have x22 := (cells_at z2 2 (by simp)).1
    go_wp2_with fail
    refine (c1 _).mono ?_
    rintro e v12 ⟨rfl, k5⟩
    replace z0 := keepB z0 k5
    replace z1 := keepB z1 k5
    replace z2 := keepB z2 k5
    replace z3 := keepB z3 k5
    replace HB := hideR (below_go (unhideR HB) k5)
    clear x00 x01 x02 x10 x11 x12 x20 x21 x22 k5
    have x00 := (cells_at z0 0 (by simp)).1
    have x01 := (cells_at z0 1 (by simp)).1
    have x02 := (cells_at z0 2 (by simp)).1
    have x10 := (cells_at z1 0 (by simp)).1
    have x11 := (cells_at z1 1 (by simp)).1
    have x12 := (cells_at z1 2 (by simp)).1
    have x20 := (cells_at z2 0 (by simp)).1
    have x21 := (cells_at z2 1 (by simp)).1
    have x22 := (cells_at z2 2 (by simp)).1
    go_wp2_with fail
    refine (c2 _).mono ?_
    rintro e v13 ⟨rfl, k5⟩
    replace z0 := keepB z0 k5
    replace z1 := keepB z1 k5
    replace z2 := keepB z2 k5
    replace z3 := keepB z3 k5
    replace HB := hideR (below_go (unhideR HB) k5)
    clear x00 x01 x02 x10 x11 x12 x20 x21 x22 k5
    have x00 := (cells_at z0 0 (by simp)).1
    have x01 := (cells_at z0 1 (by simp)).1
    have x02 := (cells_at z0 2 (by simp)).1
    have x10 := (cells_at z1 0 (by simp)).1
    have x11 := (cells_at z1 1 (by simp)).1
    have x12 := (cells_at z1 2 (by simp)).1
    have x20 := (cells_at z2 0 (by simp)).1
    have x21 := (cells_at z2 1 (by simp)).1
    have x22 := (cells_at z2 2 (by simp)).1
    go_wp2_with fail
    refine (ht _).mono ?_
    rintro e v14 ⟨rfl, k5⟩
    replace z0 := keepB z0 k5
    replace z1 := keepB z1 k5
    replace z2 := keepB z2 k5
    replace z3 := keepB z3 k5
    replace HB := hideR (below_go (unhideR HB) k5)
    clear x00 x01 x02 x10 x11 x12 x20 x21 x22 k5
    have x00 := (cells_at z0 0 (by simp)).1
    have x01 := (cells_at z0 1 (by simp)).1
    have x02 := (cells_at z0 2 (by simp)).1
    have x10 := (cells_at z1 0 (by simp)).1
    have x11 := (cells_at z1 1 (by simp)).1
    have x12 := (cells_at z1 2 (by simp)).1
    have x20 := (cells_at z2 0 (by simp)).1
    have x21 := (cells_at z2 1 (by simp)).1
    have x22 := (cells_at z2 2 (by simp)).1
    go_wp2_with fail
    refine (hc _).mono ?_
    rintro e v15 ⟨rfl, k5⟩
    replace z0 := keepB z0 k5
    replace z1 := keepB z1 k5
    replace z2 := keepB z2 k5
    replace z3 := keepB z3 k5
    replace HB := hideR (below_go (unhideR HB) k5)
    clear x00 x01 x02 x10 x11 x12 x20 x21 x22 k5
    have x00 := (cells_at z0 0 (by simp)).1
    have x01 := (cells_at z0 1 (by simp)).1
    have x02 := (cells_at z0 2 (by simp)).1
    have x10 := (cells_at z1 0 (by simp)).1
    have x11 := (cells_at z1 1 (by simp)).1
    have x12 := (cells_at z1 2 (by simp)).1
    have x20 := (cells_at z2 0 (by simp)).1
    have x21 := (cells_at z2 1 (by simp)).1
    have x22 := (cells_at z2 2 (by simp)).1
    go_wp2_with fail
    refine (hs _).mono ?_
    rintro e v16 ⟨rfl, k5⟩
    replace z0 := keepB z0 k5
    replace z1 := keepB z1 k5
    replace z2 := keepB z2 k5
    replace z3 := keepB z3 k5
    replace HB := hideR (below_go (unhideR HB) k5)
    clear x00 x01 x02 x10 x11 x12 x20 x21 x22 k5
    have x00 := (cells_at z0 0 (by simp)).1
    have x01 := (cells_at z0 1 (by simp)).1
    have x02 := (cells_at z0 2 (by simp)).1
    have x10 := (cells_at z1 0 (by simp)).1
    have x11 := (cells_at z1 1 (by simp)).1
    have x12 := (cells_at z1 2 (by simp)).1
    have x20 := (cells_at z2 0 (by simp)).1
    have x21 := (cells_at z2 1 (by simp)).1
    have x22 := (cells_at z2 2 (by simp)).1
    have o0 := (cells_at z3 0 (by simp)).1
    have f0 := (cells_at z3 0 (by simp)).2
    have o1 := (cells_at z3 1 (by simp)).1
    have f1 := (cells_at z3 1 (by simp)).2
    have o2 := (cells_at z3 2 (by simp)).1
    have f2 := (cells_at z3 2 (by simp)).2
    have o3 := (cells_at z3 3 (by simp)).1
    have f3 := (cells_at z3 3 (by simp)).2
    have HF := hideR (set4_bl (unhideR HB) 0 (show w.heap.size ≤ K + 1 + 1 + 1 by have := unhideR HK; omega) (.int .i64 (sl)) (.int .i64 (sm)) (.int .i64 (ss)) (.int .i64 (sh)))
    clear z0 z1 z2 z3 HB HK
    go_wp2
    simp [bodyPost, results, Tryd.results12, go_sem, o0, o1, o2, o3]
    exact unhideR HF
end Go.Proofs.YtkdmeclbnnjdgalDoor
