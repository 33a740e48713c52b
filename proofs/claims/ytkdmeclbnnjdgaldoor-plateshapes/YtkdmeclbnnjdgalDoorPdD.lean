/-
  Points, areas, squares of sides: the program's, by contract.
-/
import Derived.Test.YtkdmeclbnnjdgalDoorPlPt
import Derived.Deep.CutRange
import Derived.Deep.QuietTactic
namespace Go.Proofs.YtkdmeclbnnjdgalDoor
open Go Go.RowKit

set_option maxRecDepth 100000 in
set_option maxHeartbeats 6400000 in
theorem pPoint_any (p : Pt) (w : World) : Calls Tryd.prog 32 #[p.val] w fun e w' => e = .returned (.bool (isPtB p)) ∧ Below w.heap.size w w' := by
  obtain ⟨px, py, pz⟩ := p
  unfold isPtB Pt.val
  simp only
  obtain ⟨R, hR⟩ : ∃ R, decide (0 ≤ px ∧ px ≤ 262144 ∧ 0 ≤ py ∧ py ≤ 262144 ∧ pz = 0) = R := ⟨_, rfl⟩
  rw [hR]
  have HR := hideR hR
  have hz := alloc_last w (.cells #[.int .i64 px, .int .i64 py, .int .i64 pz] 40)
  have x0 := (cells_at hz 0 (by simp)).1
  have x1 := (cells_at hz 1 (by simp)).1
  have x2 := (cells_at hz 2 (by simp)).1
  have hbw := below_a w (.cells #[.int .i64 px, .int .i64 py, .int .i64 pz] 40)
  clear hR hz
  go_enter Tryd.func32, Tryd.ntmps32
  go_wp2
  all_goals go_ret
  all_goals
    refine ⟨congrArg (fun b => Ending.returned (.bool b)) ?_, hbw⟩
    rw [← unhideR HR, Bool.eq_iff_iff]
    simp
    try omega
theorem drewBl0 {B : Nat} {w u : World} (h : Below B w u) : Below B w u.drew := ⟨h.os, h.tape, h.output, h.size, h.block⟩
theorem twc_two (ax ay bx bB cx cy : Int) : ax * (bB - cy) + bx * (cy - ay) + cx * (ay - bB) = (bx - ax) * (cy - ay) - (cx - ax) * (bB - ay) := by
  simp only [Int.sub_mul, Int.mul_sub]
  omega
theorem btw_two (a b : Pt) : btw a b = (b.x - a.x) * (b.x - a.x) + (b.y - a.y) * (b.y - a.y) := by
  unfold btw
  rw [← Int.neg_mul_neg (a.x - b.x), ← Int.neg_mul_neg (a.y - b.y), show -(a.x - b.x) = b.x - a.x by omega, show -(a.y - b.y) = b.y - a.y by omega]
set_option maxRecDepth 100000 in
set_option maxHeartbeats 1600000 in
theorem area_any (a b c : Pt) (w : World) (ha : isPtB a = true) (hb : isPtB b = true) (hc : isPtB c = true) : Calls Tryd.prog 33 #[a.val, b.val, c.val] w fun e w' => e = .returned (.int .i64 (twc a b c)) ∧ Below w.heap.size w w' := by
  obtain ⟨a1, a2, a3, a4, a5⟩ := isPt_is ha
  obtain ⟨b1, b2, b3, b4, b5⟩ := isPt_is hb
  obtain ⟨c1, c2, c3, c4, c5⟩ := isPt_is hc
  clear ha hb hc a5 b5 c5
  obtain ⟨ax, ay, az⟩ := a
  obtain ⟨bx, bB, bz⟩ := b
  obtain ⟨cx, cy, cz⟩ := c
  unfold twc Pt.val
  simp only at *
  rw [twc_two]
  obtain ⟨d1, h1⟩ : ∃ d, bx - ax = d := ⟨_, rfl⟩
  obtain ⟨d2, h2⟩ : ∃ d, cy - ay = d := ⟨_, rfl⟩
  obtain ⟨d3, h3⟩ : ∃ d, cx - ax = d := ⟨_, rfl⟩
  obtain ⟨d4, h4⟩ : ∃ d, bB - ay = d := ⟨_, rfl⟩
  have e1 : IntKind.i64.wrap (bx - ax) = d1 := by rw [h1]; exact iwrap (by omega) (by omega)
  have e2 : IntKind.i64.wrap (cy - ay) = d2 := by rw [h2]; exact iwrap (by omega) (by omega)
  have e3 : IntKind.i64.wrap (cx - ax) = d3 := by rw [h3]; exact iwrap (by omega) (by omega)
  have e4 : IntKind.i64.wrap (bB - ay) = d4 := by rw [h4]; exact iwrap (by omega) (by omega)
  rw [h1, h2, h3, h4]
  have m1 := mul_18 (x := d1) (y := d2) (by omega) (by omega)
  have m2 := mul_18 (x := d3) (y := d4) (by omega) (by omega)
  obtain ⟨p, hp⟩ : ∃ d, d1 * d2 = d := ⟨_, rfl⟩
  obtain ⟨q, hq⟩ : ∃ d, d3 * d4 = d := ⟨_, rfl⟩
  rw [hp] at m1
  rw [hq] at m2
  have e5 : IntKind.i64.wrap (d1 * d2) = p := by rw [hp]; exact iwrap (by omega) (by omega)
  have e6 : IntKind.i64.wrap (d3 * d4) = q := by rw [hq]; exact iwrap (by omega) (by omega)
  have e7 : IntKind.i64.wrap (p - q) = p - q := iwrap (by omega) (by omega)
  rw [hp, hq]
  obtain ⟨z1, z2, z3, hbw⟩ := three_alloc w (.cells #[.int .i64 ax, .int .i64 ay, .int .i64 az] 40) (.cells #[.int .i64 bx, .int .i64 bB, .int .i64 bz] 40) (.cells #[.int .i64 cx, .int .i64 cy, .int .i64 cz] 40)
  have x0 := (cells_at z1 0 (by simp)).1
  have x1 := (cells_at z1 1 (by simp)).1
  have y0 := (cells_at z2 0 (by simp)).1
  have y1 := (cells_at z2 1 (by simp)).1
  have v0 := (cells_at z3 0 (by simp)).1
  have v1 := (cells_at z3 1 (by simp)).1
  clear z1 z2 z3 a1 a2 a3 a4 b1 b2 b3 b4 c1 c2 c3 c4 m1 m2 h1 h2 h3 h4 hp hq
  go_enter Tryd.func33, Tryd.ntmps33
  go_wp2
  go_ret
  exact ⟨rfl, hbw⟩
set_option maxRecDepth 100000 in
set_option maxHeartbeats 1600000 in
theorem square_any (a b : Pt) (w : World) (ha : isPtB a = true) (hb : isPtB b = true) : Calls Tryd.prog 63 #[a.val, b.val] w fun e w' => e = .returned (.int .i64 (btw a b)) ∧ Below w.heap.size w w' := by
  rw [btw_two]
  obtain ⟨a1, a2, a3, a4, a5⟩ := isPt_is ha
  obtain ⟨b1, b2, b3, b4, b5⟩ := isPt_is hb
  clear ha hb a5 b5
  obtain ⟨ax, ay, az⟩ := a
  obtain ⟨bx, bB, bz⟩ := b
  unfold Pt.val
  simp only at *
  obtain ⟨d1, h1⟩ : ∃ d, bx - ax = d := ⟨_, rfl⟩
  obtain ⟨d2, h2⟩ : ∃ d, bB - ay = d := ⟨_, rfl⟩
  have e1 : IntKind.i64.wrap (bx - ax) = d1 := by rw [h1]; exact iwrap (by omega) (by omega)
  have e2 : IntKind.i64.wrap (bB - ay) = d2 := by rw [h2]; exact iwrap (by omega) (by omega)
  rw [h1, h2]
  have m1 := mul_18 (x := d1) (y := d1) (by omega) (by omega)
  have m2 := mul_18 (x := d2) (y := d2) (by omega) (by omega)
  obtain ⟨p, hp⟩ : ∃ d, d1 * d1 = d := ⟨_, rfl⟩
  obtain ⟨q, hq⟩ : ∃ d, d2 * d2 = d := ⟨_, rfl⟩
  rw [hp] at m1
  rw [hq] at m2
  have e3 : IntKind.i64.wrap (d1 * d1) = p := by rw [hp]; exact iwrap (by omega) (by omega)
  have e4 : IntKind.i64.wrap (d2 * d2) = q := by rw [hq]; exact iwrap (by omega) (by omega)
  have e5 : IntKind.i64.wrap (p + q) = p + q := iwrap (by omega) (by omega)
  rw [hp, hq]
  have z1 := keepA (o' := .cells #[.int .i64 bx, .int .i64 bB, .int .i64 bz] 40) (alloc_last w (.cells #[.int .i64 ax, .int .i64 ay, .int .i64 az] 40))
  have z2 : ((w.alloc (.cells #[.int .i64 ax, .int .i64 ay, .int .i64 az] 40)).alloc (.cells #[.int .i64 bx, .int .i64 bB, .int .i64 bz] 40)).heap[w.heap.size + 1]? = some (.cells #[.int .i64 bx, .int .i64 bB, .int .i64 bz] 40) := by
    have := alloc_last (w.alloc (.cells #[.int .i64 ax, .int .i64 ay, .int .i64 az] 40)) (.cells #[.int .i64 bx, .int .i64 bB, .int .i64 bz] 40)
    simpa using this
  have hbw := below_go (below_a w (.cells #[.int .i64 ax, .int .i64 ay, .int .i64 az] 40)) (below_a (w.alloc (.cells #[.int .i64 ax, .int .i64 ay, .int .i64 az] 40)) (.cells #[.int .i64 bx, .int .i64 bB, .int .i64 bz] 40))
  clear a1 a2 a3 a4 b1 b2 b3 b4 m1 m2 h1 h2 hp hq
  go_enter Tryd.func63, Tryd.ntmps63
  go_upto_region 1 with fail
  generalize (w.alloc (.cells #[.int .i64 ax, .int .i64 ay, .int .i64 az] 40)).alloc (.cells #[.int .i64 bx, .int .i64 bB, .int .i64 bz] 40) = wa at *
  generalize w.heap.size = K at z1 z2 ⊢
  have x0 := (cells_at z1 0 (by simp)).1
  have x1 := (cells_at z1 1 (by simp)).1
  have y0 := (cells_at z2 0 (by simp)).1
  have y1 := (cells_at z2 1 (by simp)).1
  clear z1 z2
  go_region
  go_wp2
  go_ret
  exact ⟨rfl, drewBl0 hbw⟩
end Go.Proofs.YtkdmeclbnnjdgalDoor
