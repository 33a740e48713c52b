/-
  A spot of the document's as the program's: the law's, by contract.
-/
import Derived.Test.YtmgnobeaacjdjajGreatDoorSpLw0
import Derived.Deep.CutRange
namespace Go.Proofs.YtmgnobeaacjdjajGreatDoor
open Go Go.RowKit

set_option maxRecDepth 100000 in
set_option maxHeartbeats 3200000 in
theorem spot_any (s : Sta) (w : World) : Calls Tryz.prog 8 #[sxV s] w fun e w' => e = .returned (sxV s) ∧ Below w.heap.size w w' := by
  have HE := hideR ((nine_at9 (alloc_last w (.cells #[.int .i64 s.le, .int .i64 s.tp, .int .i64 s.ri, .int .i64 s.lo, .int .i64 s.px, .int .i64 s.li, .int .i64 s.x, .int .i64 s.y, .int .i64 s.lt] 26))).below (below_a _ (.cells #[.int .i64 0, .int .i64 0, .int .i64 0, .int .i64 0, .int .i64 0, .int .i64 0, .int .i64 0, .int .i64 0, .int .i64 0] 36)) (by simp))
  have HB := hideR (below_go (below_a w (.cells #[.int .i64 s.le, .int .i64 s.tp, .int .i64 s.ri, .int .i64 s.lo, .int .i64 s.px, .int .i64 s.li, .int .i64 s.x, .int .i64 s.y, .int .i64 s.lt] 26)) (below_a _ (.cells #[.int .i64 0, .int .i64 0, .int .i64 0, .int .i64 0, .int .i64 0, .int .i64 0, .int .i64 0, .int .i64 0, .int .i64 0] 36)))
  have HZ : HeldR (((w.alloc (.cells #[.int .i64 s.le, .int .i64 s.tp, .int .i64 s.ri, .int .i64 s.lo, .int .i64 s.px, .int .i64 s.li, .int .i64 s.x, .int .i64 s.y, .int .i64 s.lt] 26)).alloc (.cells #[.int .i64 0, .int .i64 0, .int .i64 0, .int .i64 0, .int .i64 0, .int .i64 0, .int .i64 0, .int .i64 0, .int .i64 0] 36)).heap[w.heap.size + 1]? = some (.cells #[.int .i64 0, .int .i64 0, .int .i64 0, .int .i64 0, .int .i64 0, .int .i64 0, .int .i64 0, .int .i64 0, .int .i64 0] 36)) := hideR (by
    have e : w.heap.size + 1 = (w.alloc (.cells #[.int .i64 s.le, .int .i64 s.tp, .int .i64 s.ri, .int .i64 s.lo, .int .i64 s.px, .int .i64 s.li, .int .i64 s.x, .int .i64 s.y, .int .i64 s.lt] 26)).heap.size := by simp
    rw [e]
    exact alloc_last _ _)
  unfold sxV
  go_enter Tryz.func8, Tryz.ntmps8
  go_upto_region 1 with fail
  generalize (w.alloc (.cells #[.int .i64 s.le, .int .i64 s.tp, .int .i64 s.ri, .int .i64 s.lo, .int .i64 s.px, .int .i64 s.li, .int .i64 s.x, .int .i64 s.y, .int .i64 s.lt] 26)).alloc (.cells #[.int .i64 0, .int .i64 0, .int .i64 0, .int .i64 0, .int .i64 0, .int .i64 0, .int .i64 0, .int .i64 0, .int .i64 0] 36) = W1 at *
  obtain ⟨g, hg⟩ : ∃ g, w.heap.size + 1 = g := ⟨_, rfl⟩
  rw [hg] at HZ ⊢
  obtain ⟨d0, d1, d2, d3, d4, d5, d6, d7, d8⟩ := unhideR HE
  have z0 : W1.cell? ⟨g, 0, none⟩ = some (.int .i64 0) := (cells_at (unhideR HZ) 0 (by simp)).1
  have f0 := (cells_at (unhideR HZ) 0 (by simp)).2
  have z1 : W1.cell? ⟨g, 1, none⟩ = some (.int .i64 0) := (cells_at (unhideR HZ) 1 (by simp)).1
  have f1 := (cells_at (unhideR HZ) 1 (by simp)).2
  have z2 : W1.cell? ⟨g, 2, none⟩ = some (.int .i64 0) := (cells_at (unhideR HZ) 2 (by simp)).1
  have f2 := (cells_at (unhideR HZ) 2 (by simp)).2
  have z3 : W1.cell? ⟨g, 3, none⟩ = some (.int .i64 0) := (cells_at (unhideR HZ) 3 (by simp)).1
  have f3 := (cells_at (unhideR HZ) 3 (by simp)).2
  have z4 : W1.cell? ⟨g, 4, none⟩ = some (.int .i64 0) := (cells_at (unhideR HZ) 4 (by simp)).1
  have f4 := (cells_at (unhideR HZ) 4 (by simp)).2
  have z5 : W1.cell? ⟨g, 5, none⟩ = some (.int .i64 0) := (cells_at (unhideR HZ) 5 (by simp)).1
  have f5 := (cells_at (unhideR HZ) 5 (by simp)).2
  have z6 : W1.cell? ⟨g, 6, none⟩ = some (.int .i64 0) := (cells_at (unhideR HZ) 6 (by simp)).1
  have f6 := (cells_at (unhideR HZ) 6 (by simp)).2
  have z7 : W1.cell? ⟨g, 7, none⟩ = some (.int .i64 0) := (cells_at (unhideR HZ) 7 (by simp)).1
  have f7 := (cells_at (unhideR HZ) 7 (by simp)).2
  have z8 : W1.cell? ⟨g, 8, none⟩ = some (.int .i64 0) := (cells_at (unhideR HZ) 8 (by simp)).1
  have f8 := (cells_at (unhideR HZ) 8 (by simp)).2
  have HN := hideR (nine_put (s := s) (unhideR HZ))
  have HB2 : HeldR (Below w.heap.size w (((((((((W1.setCell ⟨g, 0, none⟩ (.int .i64 s.le)).setCell ⟨g, 1, none⟩ (.int .i64 s.tp)).setCell ⟨g, 2, none⟩ (.int .i64 s.ri)).setCell ⟨g, 3, none⟩ (.int .i64 s.lo)).setCell ⟨g, 4, none⟩ (.int .i64 s.px)).setCell ⟨g, 5, none⟩ (.int .i64 s.li)).setCell ⟨g, 6, none⟩ (.int .i64 s.x)).setCell ⟨g, 7, none⟩ (.int .i64 s.y)).setCell ⟨g, 8, none⟩ (.int .i64 s.lt))) := hideR ((((((((((unhideR HB).setCell (show w.heap.size ≤ g by omega) _).setCell (show w.heap.size ≤ g by omega) _).setCell (show w.heap.size ≤ g by omega) _).setCell (show w.heap.size ≤ g by omega) _).setCell (show w.heap.size ≤ g by omega) _).setCell (show w.heap.size ≤ g by omega) _).setCell (show w.heap.size ≤ g by omega) _).setCell (show w.heap.size ≤ g by omega) _).setCell (show w.heap.size ≤ g by omega) _)
  clear HB HZ HE hg
  go_wp2_with fail
  generalize (((((((((W1.setCell ⟨g, 0, none⟩ (.int .i64 s.le)).setCell ⟨g, 1, none⟩ (.int .i64 s.tp)).setCell ⟨g, 2, none⟩ (.int .i64 s.ri)).setCell ⟨g, 3, none⟩ (.int .i64 s.lo)).setCell ⟨g, 4, none⟩ (.int .i64 s.px)).setCell ⟨g, 5, none⟩ (.int .i64 s.li)).setCell ⟨g, 6, none⟩ (.int .i64 s.x)).setCell ⟨g, 7, none⟩ (.int .i64 s.y)).setCell ⟨g, 8, none⟩ (.int .i64 s.lt)) = W2 at *
  obtain ⟨e0, e1, e2, e3, e4, e5, e6, e7, e8⟩ := nine_at9 (unhideR HN)
  clear HN
  simp [bodyPost, results, Tryz.results8, go_sem, e0, e1, e2, e3, e4, e5, e6, e7, e8]
  exact unhideR HB2
end Go.Proofs.YtmgnobeaacjdjajGreatDoor
