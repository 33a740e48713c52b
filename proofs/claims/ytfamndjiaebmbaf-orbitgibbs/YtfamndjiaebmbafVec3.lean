/-
  Vectors: three numbers with a point; a vector in a block of its own.
-/
import Derived.Test.YtfamndjiaebmbafKit0
namespace Go.Proofs.Ytfamndjiaebmbaf
open Go Go.RowKit

structure V3 where
  x : Nat
  y : Nat
  z : Nat
deriving Inhabited
def V3.val (v : V3) : Value := .agg #[.float .f64 v.x, .float .f64 v.y, .float .f64 v.z]
structure SameV (p q : V3) : Prop where
  x : FSame p.x q.x
  y : FSame p.y q.y
  z : FSame p.z q.z
theorem SameV.refl (q : V3) : SameV q q := ⟨.refl _, .refl _, .refl _⟩
theorem v3_inj {p q : V3} (h : p.val = q.val) : p = q := by
  unfold V3.val at h
  simp only [Array.mk.injEq, List.cons.injEq, Value.agg.injEq, Value.float.injEq, and_true, true_and] at h
  cases p
  cases q
  simp_all
structure VBox (w : World) (b : Nat) (q : V3) : Prop where
  at_ : w.heap[b]? = some (.cells #[.float .f64 q.x, .float .f64 q.y, .float .f64 q.z] 24)
theorem VBox.set {w : World} {b : Nat} {q : V3} (h : VBox w b q) (p : V3) : VBox (((w.setCell ⟨b, 0, none⟩ (.float .f64 p.x)).setCell ⟨b, 1, none⟩ (.float .f64 p.y)).setCell ⟨b, 2, none⟩ (.float .f64 p.z)) b p := ⟨set3 h.at_⟩
theorem VBox.go {w u : World} {b : Nat} {q : V3} (h : VBox w b q) (k : Below w.heap.size w u) : VBox u b q := ⟨keepB h.at_ k⟩
theorem VBox.new (w : World) (q : V3) : VBox (w.alloc (.cells #[.float .f64 q.x, .float .f64 q.y, .float .f64 q.z] 24)) w.heap.size q := ⟨alloc_last w _⟩
theorem below_a (w : World) (o : Obj) : Below w.heap.size w (w.alloc o) := (Below.refl w.heap.size w).alloc (Nat.le_refl _) o
end Go.Proofs.Ytfamndjiaebmbaf
