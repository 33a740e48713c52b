/-
  Four cells, set. No program here.
-/
import Derived.Test.YtbobnmaeiohnnadSpin9
namespace Go.Proofs.Ytbobnmaeiohnnad
open Go Go.RowKit

theorem set4 {w : World} {b : Nat} {y0 y1 y2 y3 x0 x1 x2 x3 : Value} {t : TypeId} (h : w.heap[b]? = some (.cells #[y0, y1, y2, y3] t (0, 0))) :
    ((((w.setCell ⟨b, 0, none⟩ x0).setCell ⟨b, 1, none⟩ x1).setCell ⟨b, 2, none⟩ x2).setCell ⟨b, 3, none⟩ x3).heap[b]? = some (.cells #[x0, x1, x2, x3] t (0, 0)) := by
  rw [heap_setCell_same _ _ _ _ _ _ (heap_setCell_same _ _ _ _ _ _ (heap_setCell_same _ _ _ _ _ _ (heap_setCell_same _ _ _ _ _ _ h)))]
  simp
theorem set4_other {w : World} {b c : Nat} {x0 x1 x2 x3 : Value} (h : c ≠ b) : ((((w.setCell ⟨b, 0, none⟩ x0).setCell ⟨b, 1, none⟩ x1).setCell ⟨b, 2, none⟩ x2).setCell ⟨b, 3, none⟩ x3).heap[c]? = w.heap[c]? := by
  rw [heap_setCell_other _ _ _ _ h, heap_setCell_other _ _ _ _ h, heap_setCell_other _ _ _ _ h, heap_setCell_other _ _ _ _ h]
theorem set3 {w : World} {b : Nat} {y0 y1 y2 x0 x1 x2 : Value} {t : TypeId} (h : w.heap[b]? = some (.cells #[y0, y1, y2] t (0, 0))) :
    (((w.setCell ⟨b, 0, none⟩ x0).setCell ⟨b, 1, none⟩ x1).setCell ⟨b, 2, none⟩ x2).heap[b]? = some (.cells #[x0, x1, x2] t (0, 0)) := by
  rw [heap_setCell_same _ _ _ _ _ _ (heap_setCell_same _ _ _ _ _ _ (heap_setCell_same _ _ _ _ _ _ h))]
  simp
theorem set3_other {w : World} {b c : Nat} {x0 x1 x2 : Value} (h : c ≠ b) : (((w.setCell ⟨b, 0, none⟩ x0).setCell ⟨b, 1, none⟩ x1).setCell ⟨b, 2, none⟩ x2).heap[c]? = w.heap[c]? := by
  rw [heap_setCell_other _ _ _ _ h, heap_setCell_other _ _ _ _ h, heap_setCell_other _ _ _ _ h]
theorem below_three {w v : World} {b : Nat} (h : Below w.heap.size w v) (hb : w.heap.size ≤ b) (x0 x1 x2 : Value) : Below w.heap.size w (((v.setCell ⟨b, 0, none⟩ x0).setCell ⟨b, 1, none⟩ x1).setCell ⟨b, 2, none⟩ x2) :=
  ((h.setCell hb x0).setCell hb x1).setCell hb x2
theorem fop_some (op : BinOp) (x y : Nat) : ∃ r, FOp op x y r := by
  obtain ⟨r, h⟩ := ev_some (.op op (.num x) (.num y))
  cases h with | op a b c =>
  cases a
  cases b
  exact ⟨r, c⟩
structure BackIs (r0 r1 r2 r3 t0 t1 t2 p q r : Nat) (w wx : World) (nb tb vb : Nat) : Prop where
  ex : ∃ b0 b1 b2 y0 y1 y2 y3 y4 y5 y6 y7 y8, Made (RowRel r0 (Op.negFloat .f64 r1) (Op.negFloat .f64 r2) (Op.negFloat .f64 r3)) 3 y0 y1 y2 y3 y4 y5 y6 y7 y8 ∧ Ev (dtE y0 y1 y2 t0 t1 t2) b0 ∧ Ev (dtE y3 y4 y5 t0 t1 t2) b1 ∧ Ev (dtE y6 y7 y8 t0 t1 t2) b2 ∧
    wx.heap[nb]? = some (.cells #[.float .f64 b0, .float .f64 b1, .float .f64 b2] 46 (0, 0)) ∧ wx.heap[tb]? = some (.cells #[.float .f64 t0, .float .f64 t1, .float .f64 t2] 46 (0, 0)) ∧ wx.heap[vb]? = some (.cells #[.float .f64 p, .float .f64 q, .float .f64 r] 46 (0, 0)) ∧ Below w.heap.size w wx
end Go.Proofs.Ytbobnmaeiohnnad
