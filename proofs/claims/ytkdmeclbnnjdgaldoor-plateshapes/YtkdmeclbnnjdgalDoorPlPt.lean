/-
  Points of a plate: the document's, by contract.
-/
import Derived.Test.YtkdmeclbnnjdgalDoorPlNr
namespace Go.Proofs.YtkdmeclbnnjdgalDoor
open Go Go.RowKit

/-- three whole numbers of a point. -/
structure Pt where
  x : Int
  y : Int
  z : Int
def Pt.val (p : Pt) : Value := .agg #[.int .i64 p.x, .int .i64 p.y, .int .i64 p.z]
def isPtB (p : Pt) : Bool := decide (0 ≤ p.x ∧ p.x ≤ 262144 ∧ 0 ≤ p.y ∧ p.y ≤ 262144 ∧ p.z = 0)
theorem isPt_is {p : Pt} (h : isPtB p = true) : 0 ≤ p.x ∧ p.x ≤ 262144 ∧ 0 ≤ p.y ∧ p.y ≤ 262144 ∧ p.z = 0 := of_decide_eq_true h
/-- the square of how far two are. -/
def btw (a b : Pt) : Int := (a.x - b.x) * (a.x - b.x) + (a.y - b.y) * (a.y - b.y)
/-- twice the area. -/
def twc (a b c : Pt) : Int := a.x * (b.y - c.y) + b.x * (c.y - a.y) + c.x * (a.y - b.y)
theorem mul_18 {x y : Int} (h1 : -262144 ≤ x ∧ x ≤ 262144) (h2 : -262144 ≤ y ∧ y ≤ 262144) : -68719476736 ≤ x * y ∧ x * y ≤ 68719476736 := by
  have p : ∀ u v : Int, 0 ≤ u → u ≤ 262144 → 0 ≤ v → v ≤ 262144 → 0 ≤ u * v ∧ u * v ≤ 68719476736 := fun u v a b c d =>
    ⟨Int.mul_nonneg a c, by have := Int.mul_le_mul b d c (by omega : (0 : Int) ≤ 262144); omega⟩
  rcases Int.le_total 0 x with hx | hx <;> rcases Int.le_total 0 y with hy | hy
  · have := p x y hx h1.2 hy h2.2; omega
  · have := p x (-y) hx h1.2 (by omega) (by omega); rw [Int.mul_neg] at this; omega
  · have := p (-x) y (by omega) (by omega) hy h2.2; rw [Int.neg_mul] at this; omega
  · have := p (-x) (-y) (by omega) (by omega) (by omega) (by omega); rw [Int.neg_mul_neg] at this; omega
theorem sq_0 (x : Int) : 0 ≤ x * x := by
  rw [← Int.natAbs_mul_self]
  exact Int.natCast_nonneg _
set_option maxRecDepth 100000 in
set_option maxHeartbeats 6400000 in
theorem isPoint_any (p : Pt) (w : World) : Calls Tryd.prog 36 #[p.val] w fun e w' => e = .returned (.bool (isPtB p)) ∧ Below w.heap.size w w' := by
  obtain ⟨px, py, pz⟩ := p
  unfold isPtB Pt.val
  simp only
  obtain ⟨R, hR⟩ : ∃ R, decide (0 ≤ px ∧ px ≤ 262144 ∧ 0 ≤ py ∧ py ≤ 262144 ∧ pz = 0) = R := ⟨_, rfl⟩
  rw [hR]
  have HR := hideR hR
  have hz := alloc_last w (.cells #[.int .i64 px, .int .i64 py, .int .i64 pz] 40)
  have x0 := (cells_at hz 0 (by simp)).1
  have x1 := (cells_at hz 1 (by simp)).1
  have x2 := (cells_at hz 2 (by simp)).1
  have hbw := below_a w (.cells #[.int .i64 px, .int .i64 py, .int .i64 pz] 40)
  clear hR hz
  go_enter Tryd.func36, Tryd.ntmps36
  go_wp2
  all_goals go_ret
  all_goals
    refine ⟨congrArg (fun b => Ending.returned (.bool b)) ?_, hbw⟩
    rw [← unhideR HR, Bool.eq_iff_iff]
    simp
    try omega
set_option maxRecDepth 100000 in
set_option maxHeartbeats 6400000 in
theorem isShape_any (s : Shp) (w : World) : Calls Tryd.prog 16 #[s.val] w fun e w' => e = .returned (.bool (shpB s)) ∧ Below w.heap.size w w' := by
  obtain ⟨sl, sm, ss, sh⟩ := s
  unfold shpB Shp.val
  simp only
  obtain ⟨R, hR⟩ : ∃ R, decide (1 ≤ ss ∧ ss ≤ sm ∧ sm ≤ sl ∧ sl ≤ 274877906944 ∧ -1 ≤ sh ∧ sh ≤ 1) = R := ⟨_, rfl⟩
  rw [hR]
  have HR := hideR hR
  have hz := alloc_last w (.cells #[.int .i64 sl, .int .i64 sm, .int .i64 ss, .int .i64 sh] 36)
  have x0 := (cells_at hz 0 (by simp)).1
  have x1 := (cells_at hz 1 (by simp)).1
  have x2 := (cells_at hz 2 (by simp)).1
  have x3 := (cells_at hz 3 (by simp)).1
  have hbw := below_a w (.cells #[.int .i64 sl, .int .i64 sm, .int .i64 ss, .int .i64 sh] 36)
  clear hR hz
  go_enter Tryd.func16, Tryd.ntmps16
  go_wp2
  all_goals go_ret
  all_goals
    refine ⟨congrArg (fun b => Ending.returned (.bool b)) ?_, by first | exact hbw | exact below_a w _⟩
    rw [← unhideR HR, Bool.eq_iff_iff]
    simp
    try omega
set_option maxRecDepth 100000 in
set_option maxHeartbeats 1600000 in
theorem between_any (a b : Pt) (w : World) (ha : isPtB a = true) (hb : isPtB b = true) : Calls Tryd.prog 38 #[a.val, b.val] w fun e w' => e = .returned (.int .i64 (btw a b)) ∧ Below w.heap.size w w' := by
  obtain ⟨a1, a2, a3, a4, a5⟩ := isPt_is ha
  obtain ⟨b1, b2, b3, b4, b5⟩ := isPt_is hb
  clear ha hb a5 b5
  obtain ⟨ax, ay, az⟩ := a
  obtain ⟨bx, bB, bz⟩ := b
  unfold btw Pt.val
  simp only at *
  obtain ⟨d1, h1⟩ : ∃ d, ax - bx = d := ⟨_, rfl⟩
  obtain ⟨d2, h2⟩ : ∃ d, ay - bB = d := ⟨_, rfl⟩
  have e1 : IntKind.i64.wrap (ax - bx) = d1 := by rw [h1]; exact iwrap (by omega) (by omega)
  have e2 : IntKind.i64.wrap (ay - bB) = d2 := by rw [h2]; exact iwrap (by omega) (by omega)
  rw [h1, h2]
  have m1 := mul_18 (x := d1) (y := d1) (by omega) (by omega)
  have m2 := mul_18 (x := d2) (y := d2) (by omega) (by omega)
  obtain ⟨p, hp⟩ : ∃ d, d1 * d1 = d := ⟨_, rfl⟩
  obtain ⟨q, hq⟩ : ∃ d, d2 * d2 = d := ⟨_, rfl⟩
  rw [hp] at m1
  rw [hq] at m2
  have e3 : IntKind.i64.wrap (d1 * d1) = p := by rw [hp]; exact iwrap (by omega) (by omega)
  have e4 : IntKind.i64.wrap (d2 * d2) = q := by rw [hq]; exact iwrap (by omega) (by omega)
  have e5 : IntKind.i64.wrap (p + q) = p + q := iwrap (by omega) (by omega)
  rw [hp, hq]
  have hz1 := keepA (o' := .cells #[.int .i64 bx, .int .i64 bB, .int .i64 bz] 40) (alloc_last w (.cells #[.int .i64 ax, .int .i64 ay, .int .i64 az] 40))
  have hz2 : ((w.alloc (.cells #[.int .i64 ax, .int .i64 ay, .int .i64 az] 40)).alloc (.cells #[.int .i64 bx, .int .i64 bB, .int .i64 bz] 40)).heap[w.heap.size + 1]? = some (.cells #[.int .i64 bx, .int .i64 bB, .int .i64 bz] 40) := by
    have := alloc_last (w.alloc (.cells #[.int .i64 ax, .int .i64 ay, .int .i64 az] 40)) (.cells #[.int .i64 bx, .int .i64 bB, .int .i64 bz] 40)
    simpa using this
  have hbw := below_go (below_a w (.cells #[.int .i64 ax, .int .i64 ay, .int .i64 az] 40)) (below_a (w.alloc (.cells #[.int .i64 ax, .int .i64 ay, .int .i64 az] 40)) (.cells #[.int .i64 bx, .int .i64 bB, .int .i64 bz] 40))
  have x0 := (cells_at hz1 0 (by simp)).1
  have x1 := (cells_at hz1 1 (by simp)).1
  have y0 := (cells_at hz2 0 (by simp)).1
  have y1 := (cells_at hz2 1 (by simp)).1
  clear hz1 hz2 a1 a2 a3 a4 b1 b2 b3 b4 m1 m2 h1 h2 hp hq
  go_enter Tryd.func38, Tryd.ntmps38
  go_wp2
  go_ret
  exact ⟨rfl, hbw⟩
theorem three_alloc (w : World) (o1 o2 o3 : Obj) : (((w.alloc o1).alloc o2).alloc o3).heap[w.heap.size]? = some o1 ∧ (((w.alloc o1).alloc o2).alloc o3).heap[w.heap.size + 1]? = some o2 ∧ (((w.alloc o1).alloc o2).alloc o3).heap[w.heap.size + 1 + 1]? = some o3 ∧ Below w.heap.size w (((w.alloc o1).alloc o2).alloc o3) := by
  refine ⟨keepA (keepA (alloc_last w o1)), keepA ?_, ?_, below_go (below_go (below_a w o1) (below_a _ o2)) (below_a _ o3)⟩
  · have := alloc_last (w.alloc o1) o2
    simpa using this
  · have := alloc_last ((w.alloc o1).alloc o2) o3
    simpa using this
set_option maxRecDepth 100000 in
set_option maxHeartbeats 1600000 in
theorem twice_any (a b c : Pt) (w : World) (ha : isPtB a = true) (hb : isPtB b = true) (hc : isPtB c = true) : Calls Tryd.prog 37 #[a.val, b.val, c.val] w fun e w' => e = .returned (.int .i64 (twc a b c)) ∧ Below w.heap.size w w' := by
  obtain ⟨a1, a2, a3, a4, a5⟩ := isPt_is ha
  obtain ⟨b1, b2, b3, b4, b5⟩ := isPt_is hb
  obtain ⟨c1, c2, c3, c4, c5⟩ := isPt_is hc
  clear ha hb hc a5 b5 c5
  obtain ⟨ax, ay, az⟩ := a
  obtain ⟨bx, bB, bz⟩ := b
  obtain ⟨cx, cy, cz⟩ := c
  unfold twc Pt.val
  simp only at *
  obtain ⟨d1, h1⟩ : ∃ d, bB - cy = d := ⟨_, rfl⟩
  obtain ⟨d2, h2⟩ : ∃ d, cy - ay = d := ⟨_, rfl⟩
  obtain ⟨d3, h3⟩ : ∃ d, ay - bB = d := ⟨_, rfl⟩
  have e1 : IntKind.i64.wrap (bB - cy) = d1 := by rw [h1]; exact iwrap (by omega) (by omega)
  have e2 : IntKind.i64.wrap (cy - ay) = d2 := by rw [h2]; exact iwrap (by omega) (by omega)
  have e3 : IntKind.i64.wrap (ay - bB) = d3 := by rw [h3]; exact iwrap (by omega) (by omega)
  rw [h1, h2, h3]
  have m1 := mul_18 (x := ax) (y := d1) (by omega) (by omega)
  have m2 := mul_18 (x := bx) (y := d2) (by omega) (by omega)
  have m3 := mul_18 (x := cx) (y := d3) (by omega) (by omega)
  obtain ⟨p, hp⟩ : ∃ d, ax * d1 = d := ⟨_, rfl⟩
  obtain ⟨q, hq⟩ : ∃ d, bx * d2 = d := ⟨_, rfl⟩
  obtain ⟨r, hr⟩ : ∃ d, cx * d3 = d := ⟨_, rfl⟩
  rw [hp] at m1
  rw [hq] at m2
  rw [hr] at m3
  have e4 : IntKind.i64.wrap (ax * d1) = p := by rw [hp]; exact iwrap (by omega) (by omega)
  have e5 : IntKind.i64.wrap (bx * d2) = q := by rw [hq]; exact iwrap (by omega) (by omega)
  have e6 : IntKind.i64.wrap (cx * d3) = r := by rw [hr]; exact iwrap (by omega) (by omega)
  have e7 : IntKind.i64.wrap (p + q) = p + q := iwrap (by omega) (by omega)
  have e8 : IntKind.i64.wrap (p + q + r) = p + q + r := iwrap (by omega) (by omega)
  rw [hp, hq, hr]
  obtain ⟨z1, z2, z3, hbw⟩ := three_alloc w (.cells #[.int .i64 ax, .int .i64 ay, .int .i64 az] 40) (.cells #[.int .i64 bx, .int .i64 bB, .int .i64 bz] 40) (.cells #[.int .i64 cx, .int .i64 cy, .int .i64 cz] 40)
  have x0 := (cells_at z1 0 (by simp)).1
  have x1 := (cells_at z1 1 (by simp)).1
  have y0 := (cells_at z2 0 (by simp)).1
  have y1 := (cells_at z2 1 (by simp)).1
  have v0 := (cells_at z3 0 (by simp)).1
  have v1 := (cells_at z3 1 (by simp)).1
  clear z1 z2 z3 a1 a2 a3 a4 b1 b2 b3 b4 c1 c2 c3 c4 m1 m2 m3 h1 h2 h3 hp hq hr
  go_enter Tryd.func37, Tryd.ntmps37
  go_wp2
  go_ret
  exact ⟨rfl, hbw⟩
end Go.Proofs.YtkdmeclbnnjdgalDoor
