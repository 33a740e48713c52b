/-
  Blocks and worlds: what walks want. What an error is, by its number.
-/
import Derived.Test.YtoacdaemhcbbhaaDoorLooseA
import Derived.Below
import Derived.WalkKit
import Derived.ProofKit
import Derived.WalkLawsBesides
import Derived.IntWalk
import Derived.Deep.RegionWith
import Derived.Deep.QuietTactic
namespace Go.Proofs.YtoacdaemhcbbhaaDoor
open Go Go.RowKit

def HeldR (p : Prop) : Prop := p
theorem hideR {p : Prop} (h : p) : HeldR p := h
theorem unhideR {p : Prop} (h : HeldR p) : p := h
theorem below_a (w : World) (o : Obj) : Below w.heap.size w (w.alloc o) := (Below.refl w.heap.size w).alloc (Nat.le_refl _) o
theorem wrap_in {n : Int} (h1 : -9223372036854775808 ≤ n) (h2 : n ≤ 9223372036854775807) : wrap64 n = n := by unfold wrap64; omega
theorem below_al3 (w : World) (o1 o2 o3 : Obj) : Below w.heap.size w (((w.alloc o1).alloc o2).alloc o3) := (((Below.refl w.heap.size w).alloc (Nat.le_refl _) o1).alloc (by simp) o2).alloc (by simp; omega) o3
theorem below_al2 (w : World) (o1 o2 : Obj) : Below w.heap.size w ((w.alloc o1).alloc o2) := ((Below.refl w.heap.size w).alloc (Nat.le_refl _) o1).alloc (by simp) o2
theorem below_go {w v u : World} (h : Below w.heap.size w v) (k : Below v.heap.size v u) : Below w.heap.size w u := h.trans (k.mono h.size)
theorem two_blocks {w w1 : World} {A R : Obj} (hB : Below ((w.alloc A).alloc R).heap.size ((w.alloc A).alloc R) w1) : w1.heap[w.heap.size]? = some A ∧ w1.heap[w.heap.size + 1]? = some R ∧ Below w.heap.size w w1 := by
  refine ⟨?_, ?_, below_go (below_al2 w A R) hB⟩
  · rw [hB.block _ (by simp; omega)]
    show ((w.heap.push A).push R)[w.heap.size]? = some A
    rw [Array.getElem?_push, if_neg (by simp), Array.getElem?_push_size]
  · rw [hB.block _ (by simp)]
    show ((w.heap.push A).push R)[w.heap.size + 1]? = some R
    have : w.heap.size + 1 = (w.heap.push A).size := by simp
    rw [this, Array.getElem?_push_size]
theorem cells_at {w : World} {b : Nat} {cs : Array Value} {ty : TypeId} (h : w.heap[b]? = some (.cells cs ty)) (i : Nat) (hi : i < cs.size) : w.cell? ⟨b, i, none⟩ = some (cs.getD i undef) ∧ w.frozen? ⟨b, i, none⟩ = false := by
  constructor
  · simp [World.cell?, h, hi]
  · simp [World.frozen?, h]
theorem alloc_block {w : World} {o : Obj} {b : Nat} (h : b < w.heap.size) : (w.alloc o).heap[b]? = w.heap[b]? := by
  show (w.heap.push o)[b]? = _
  rw [Array.getElem?_push, if_neg (by omega)]
theorem alloc_last (w : World) (o : Obj) : (w.alloc o).heap[w.heap.size]? = some o := by
  show (w.heap.push o)[w.heap.size]? = _
  exact Array.getElem?_push_size
theorem three_blocks {w w1 : World} {A R X : Obj} (hB : Below (((w.alloc A).alloc R).alloc X).heap.size (((w.alloc A).alloc R).alloc X) w1) :
    w1.heap[w.heap.size]? = some A ∧ w1.heap[w.heap.size + 1]? = some R ∧ w1.heap[w.heap.size + 1 + 1]? = some X ∧ Below w.heap.size w w1 := by
  have e : ((w.alloc A).alloc R).heap.size = w.heap.size + 1 + 1 := by simp
  have h2 := two_blocks (Below.refl ((w.alloc A).alloc R).heap.size ((w.alloc A).alloc R))
  have hs : (((w.alloc A).alloc R).alloc X).heap.size = w.heap.size + 1 + 1 + 1 := by simp
  refine ⟨?_, ?_, ?_, below_go (below_al3 w A R X) hB⟩
  · rw [hB.block _ (by omega), alloc_block (by omega)]; exact h2.1
  · rw [hB.block _ (by omega), alloc_block (by omega)]; exact h2.2.1
  · rw [hB.block _ (by omega), ← e]; exact alloc_last _ _
theorem keepB {w v : World} {b : Nat} {o : Obj} (h : w.heap[b]? = some o) (k : Below w.heap.size w v) : v.heap[b]? = some o := (k.block _ (Array.getElem?_eq_some_iff.1 h).1).trans h
theorem keepA {w : World} {b : Nat} {o o' : Obj} (h : w.heap[b]? = some o) : (w.alloc o').heap[b]? = some o := (alloc_block (Array.getElem?_eq_some_iff.1 h).1).trans h
theorem ltB {w : World} {b : Nat} {o : Obj} (h : w.heap[b]? = some o) : b < w.heap.size := (Array.getElem?_eq_some_iff.1 h).1
theorem set3 {w : World} {b : Nat} {y0 y1 y2 x0 x1 x2 : Value} {t : TypeId} (h : w.heap[b]? = some (.cells #[y0, y1, y2] t (0, 0))) :
    (((w.setCell ⟨b, 0, none⟩ x0).setCell ⟨b, 1, none⟩ x1).setCell ⟨b, 2, none⟩ x2).heap[b]? = some (.cells #[x0, x1, x2] t (0, 0)) := by
  rw [heap_setCell_same _ _ _ _ _ _ (heap_setCell_same _ _ _ _ _ _ (heap_setCell_same _ _ _ _ _ _ h))]
  simp
theorem set3_other {w : World} {b c : Nat} {x0 x1 x2 : Value} (h : c ≠ b) : (((w.setCell ⟨b, 0, none⟩ x0).setCell ⟨b, 1, none⟩ x1).setCell ⟨b, 2, none⟩ x2).heap[c]? = w.heap[c]? := by
  rw [heap_setCell_other _ _ _ _ h, heap_setCell_other _ _ _ _ h, heap_setCell_other _ _ _ _ h]
theorem below_three {w v : World} {b : Nat} (h : Below w.heap.size w v) (hb : w.heap.size ≤ b) (x0 x1 x2 : Value) : Below w.heap.size w (((v.setCell ⟨b, 0, none⟩ x0).setCell ⟨b, 1, none⟩ x1).setCell ⟨b, 2, none⟩ x2) :=
  ((h.setCell hb x0).setCell hb x1).setCell hb x2
theorem iwrap {n : Int} (h1 : -9223372036854775808 ≤ n) (h2 : n ≤ 9223372036854775807) : IntKind.i64.wrap n = n := by
  simp only [IntKind.wrap, IntKind.bits, IntKind.signed]
  simp
  split <;> omega
theorem cell_at {w : World} {b : Nat} {x0 x1 x2 : Int} {ty : TypeId} (h : w.heap[b]? = some (.cells #[.int .i64 x0, .int .i64 x1, .int .i64 x2] ty)) :
    (w.cell? ⟨b, 0, none⟩ = some (.int .i64 x0) ∧ w.cell? ⟨b, 1, none⟩ = some (.int .i64 x1) ∧ w.cell? ⟨b, 2, none⟩ = some (.int .i64 x2)) ∧
    (w.frozen? ⟨b, 0, none⟩ = false ∧ w.frozen? ⟨b, 1, none⟩ = false ∧ w.frozen? ⟨b, 2, none⟩ = false) :=
  ⟨⟨(cells_at h 0 (by simp)).1, (cells_at h 1 (by simp)).1, (cells_at h 2 (by simp)).1⟩, (cells_at h 0 (by simp)).2, (cells_at h 1 (by simp)).2, (cells_at h 2 (by simp)).2⟩
theorem drawn_below (w : World) (n : Nat) : Below w.heap.size w (w.drewN n) := ⟨rfl, rfl, rfl, Nat.le_refl _, fun _ _ => rfl⟩
theorem one_at {w : World} {b : Nat} {x : Value} {ty : TypeId} (h : w.heap[b]? = some (.cells #[x] ty)) : w.cell? ⟨b, 0, none⟩ = some x := (cells_at h 0 (by simp)).1
end Go.Proofs.YtoacdaemhcbbhaaDoor
namespace Go.Proofs.YtoacdaemhcbbhaaDoor
open Go Go.RowKit

def ErrIs (a : Nat → Addr) (E : Int) (x : Value) : Prop := (E = 0 ∧ x = .nilIface) ∨ ∃ k : Nat, k < 10 ∧ E = (k : Int) + 1 ∧ x = .iface 190 (.pointer (some (a k)))
theorem err_at {a : Nat → Addr} (k : Nat) (hk : k < 10) : ErrIs a ((k : Int) + 1) (.iface 190 (.pointer (some (a k)))) := .inr ⟨k, hk, rfl, rfl⟩
end Go.Proofs.YtoacdaemhcbbhaaDoor
