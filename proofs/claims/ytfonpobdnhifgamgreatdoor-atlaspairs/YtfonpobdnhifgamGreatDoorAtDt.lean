/-
  Products of directions; what is wrong with a cone: the document's, by contract.
-/
import Derived.Test.YtfonpobdnhifgamGreatDoorAtPA
namespace Go.Proofs.YtfonpobdnhifgamGreatDoor
open Go Go.RowKit

/-- the product of two directions. -/
theorem mul_20 {x y : Int} (h1 : -1048576 ≤ x ∧ x ≤ 1048576) (h2 : -1048576 ≤ y ∧ y ≤ 1048576) : -1099511627776 ≤ x * y ∧ x * y ≤ 1099511627776 := by
  rcases Int.le_total 0 y with q | q
  · have := mul_b (a := x) (b := y) (A := 1048576) (B := 1048576) h1.1 h1.2 q h2.2 (by omega)
    omega
  · have := mul_b (a := x) (b := -y) (A := 1048576) (B := 1048576) h1.1 h1.2 (by omega) (by omega) (by omega)
    rw [Int.mul_neg] at this
    omega
theorem dt_bd {d e : Dr} (hd : dirB d = true) (he : dirB e = true) : -3298534883328 ≤ dtV d e ∧ dtV d e ≤ 3298534883328 := by
  have a := dir_is hd
  have b := dir_is he
  have m1 := mul_20 (x := d.x) (y := e.x) (by omega) (by omega)
  have m2 := mul_20 (x := d.y) (y := e.y) (by omega) (by omega)
  have m3 := mul_20 (x := d.z) (y := e.z) (by omega) (by omega)
  unfold dtV
  omega
set_option maxRecDepth 100000 in
set_option maxHeartbeats 1600000 in
theorem dot_any (a b : Dr) (w : World) (ha : dirB a = true) (hb : dirB b = true) : Calls Tryz.prog 42 #[a.val, b.val] w fun e w' => e = .returned (.int .i64 (dtV a b)) ∧ Below w.heap.size w w' := by
  have qa := dir_is ha
  have qb := dir_is hb
  clear ha hb
  obtain ⟨ax, ay, az⟩ := a
  obtain ⟨bx, bB, bz⟩ := b
  unfold dtV Dr.val
  simp only at *
  have m1 := mul_20 (x := ax) (y := bx) (by omega) (by omega)
  have m2 := mul_20 (x := ay) (y := bB) (by omega) (by omega)
  have m3 := mul_20 (x := az) (y := bz) (by omega) (by omega)
  obtain ⟨p, hp⟩ : ∃ d, ax * bx = d := ⟨_, rfl⟩
  obtain ⟨q, hq⟩ : ∃ d, ay * bB = d := ⟨_, rfl⟩
  obtain ⟨r, hr⟩ : ∃ d, az * bz = d := ⟨_, rfl⟩
  rw [hp] at m1
  rw [hq] at m2
  rw [hr] at m3
  have e3 : IntKind.i64.wrap (ax * bx) = p := by rw [hp]; exact iwrap (by omega) (by omega)
  have e4 : IntKind.i64.wrap (ay * bB) = q := by rw [hq]; exact iwrap (by omega) (by omega)
  have e5 : IntKind.i64.wrap (az * bz) = r := by rw [hr]; exact iwrap (by omega) (by omega)
  have e6 : IntKind.i64.wrap (p + q) = p + q := iwrap (by omega) (by omega)
  have e7 : IntKind.i64.wrap (p + q + r) = p + q + r := iwrap (by omega) (by omega)
  rw [hp, hq, hr]
  have hz1 := keepA (o' := .cells #[.int .i64 bx, .int .i64 bB, .int .i64 bz] 24) (alloc_last w (.cells #[.int .i64 ax, .int .i64 ay, .int .i64 az] 24))
  have hz2 : ((w.alloc (.cells #[.int .i64 ax, .int .i64 ay, .int .i64 az] 24)).alloc (.cells #[.int .i64 bx, .int .i64 bB, .int .i64 bz] 24)).heap[w.heap.size + 1]? = some (.cells #[.int .i64 bx, .int .i64 bB, .int .i64 bz] 24) := by
    have := alloc_last (w.alloc (.cells #[.int .i64 ax, .int .i64 ay, .int .i64 az] 24)) (.cells #[.int .i64 bx, .int .i64 bB, .int .i64 bz] 24)
    simpa using this
  have hbw := below_go (below_a w (.cells #[.int .i64 ax, .int .i64 ay, .int .i64 az] 24)) (below_a (w.alloc (.cells #[.int .i64 ax, .int .i64 ay, .int .i64 az] 24)) (.cells #[.int .i64 bx, .int .i64 bB, .int .i64 bz] 24))
  have x0 := (cells_at hz1 0 (by simp)).1
  have x1 := (cells_at hz1 1 (by simp)).1
  have x2 := (cells_at hz1 2 (by simp)).1
  have y0 := (cells_at hz2 0 (by simp)).1
  have y1 := (cells_at hz2 1 (by simp)).1
  have y2 := (cells_at hz2 2 (by simp)).1
  clear hz1 hz2 qa qb m1 m2 m3 hp hq hr
  go_enter Tryz.func42, Tryz.ntmps42
  go_wp2
  go_ret
  exact ⟨rfl, hbw⟩
/-- what is wrong with a cone. -/
def coE (d : Dr) (num den : Int) : Int := if dirB d = false ∨ den < 1 ∨ 1048576 < den ∨ den < num ∨ num < -den then 5 else 0
set_option maxRecDepth 100000 in
set_option maxHeartbeats 3200000 in
theorem coneError_any (d : Dr) (num den : Int) (w : World) : Calls Tryz.prog 11 #[d.val, .int .i64 num, .int .i64 den] w fun e w' => e = .returned (.int .i64 (coE d num den)) ∧ Below w.heap.size w w' := by
  have c0 := fun u => isDir_any d u
  obtain ⟨R, hR⟩ : ∃ R, coE d num den = R := ⟨_, rfl⟩
  rw [hR]
  unfold coE at hR
  obtain ⟨B, hB⟩ : ∃ B, dirB d = B := ⟨_, rfl⟩
  rw [hB] at c0 hR
  have HR := hideR hR
  obtain ⟨X, wn⟩ : ∃ X, IntKind.i64.wrap (-den) = X := ⟨_, rfl⟩
  have HX : HeldR (1 ≤ den → den ≤ 1048576 → X = -den) := hideR (fun h1 h2 => by rw [← wn]; exact iwrap (by omega) (by omega))
  obtain ⟨dx, dy, dz⟩ := d
  unfold Dr.val at *
  simp only at *
  have hz := alloc_last w (.cells #[.int .i64 dx, .int .i64 dy, .int .i64 dz] 24)
  have hbw := below_a w (.cells #[.int .i64 dx, .int .i64 dy, .int .i64 dz] 24)
  have x0 := (cells_at hz 0 (by simp)).1
  have x1 := (cells_at hz 1 (by simp)).1
  have x2 := (cells_at hz 2 (by simp)).1
  clear hR hz hB
  go_enter Tryz.func11, Tryz.ntmps11
  go_wp2_with fail
  refine (c0 _).mono ?_
  rintro e u1 ⟨rfl, k1⟩
  have hb := below_go hbw k1
  clear c0 k1 hbw x0 x1 x2
  cases B with
  | false =>
    have e : R = 5 := by rw [← unhideR HR]; simp
    subst e
    go_wp2
    go_ret
    exact ⟨rfl, hb⟩
  | true =>
    have HR2 : HeldR (R = if den < 1 ∨ 1048576 < den ∨ den < num ∨ num < -den then 5 else 0) := hideR (by rw [← unhideR HR]; simp)
    clear HR
    go_wp2
    all_goals go_ret
    all_goals
      refine ⟨congrArg (fun b => Ending.returned (.int .i64 b)) ?_, hb⟩
      rw [unhideR HR2]
      symm
      by_cases g1 : 1 ≤ den ∧ den ≤ 1048576
      · have := unhideR HX g1.1 g1.2
        first | (apply if_pos; omega) | (apply if_neg; omega)
      · first | (apply if_pos; omega) | (apply if_neg; omega)
end Go.Proofs.YtfonpobdnhifgamGreatDoor
