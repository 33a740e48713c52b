/-
  A row of cells in one block: read and written. No program here.
-/
import Derived.Below
import Derived.Laws.Entries
import Derived.Laws.NewBlocks
namespace Go.Proofs.Ytmgnobeaacjdjac
open Go Go.RowKit

/-- block g's first n cells hold v 0, v 1, .. and may be written. -/
structure RowIs (w : World) (g n : Nat) (v : Nat → Value) : Prop where
  cell : ∀ j, j < n → w.cell? ⟨g, j, none⟩ = some (v j)
  free : ∀ j, j < n → w.frozen? ⟨g, j, none⟩ = false
  lt : g < w.heap.size
def updA (v : Nat → Value) (k : Nat) (u : Value) : Nat → Value := fun i => if i = k then u else v i
theorem updA_same (v : Nat → Value) (k : Nat) (u : Value) : updA v k u k = u := by simp [updA]
theorem updA_other (v : Nat → Value) {k i : Nat} (u : Value) (h : i ≠ k) : updA v k u i = v i := by simp [updA, h]
theorem RowIs.set {w : World} {g n : Nat} {v : Nat → Value} (r : RowIs w g n v) {k : Nat} (hk : k < n) (u : Value) : RowIs (w.setCell ⟨g, k, none⟩ u) g n (updA v k u) where
  cell j hj := by
    by_cases h : j = k
    · subst h
      rw [updA_same]
      exact World.cell?_setCell_same w _ u (r.cell j hj)
    · rw [updA_other v u h, World.cell?_setCell_other]
      · exact r.cell j hj
      · intro e
        injection e with _ e2
        exact h (by omega)
  free j hj := by
    have h := r.free j hj
    simpa [go_sem] using h
  lt := by simpa [World.setCell] using r.lt
theorem RowIs.below {w w' : World} {g n B : Nat} {v : Nat → Value} (r : RowIs w g n v) (h : Below B w w') (hB : g < B) : RowIs w' g n v where
  cell j hj := (h.cell (p := ⟨g, j, none⟩) hB).trans (r.cell j hj)
  free j hj := (h.frozen (p := ⟨g, j, none⟩) hB).trans (r.free j hj)
  lt := Nat.lt_of_lt_of_le r.lt h.size
theorem RowIs.congr {w : World} {g n : Nat} {v u : Nat → Value} (r : RowIs w g n v) (h : ∀ j, j < n → v j = u j) : RowIs w g n u where
  cell j hj := by rw [← h j hj]; exact r.cell j hj
  free := r.free
  lt := r.lt
/-- another block is written. -/
theorem RowIs.other {w : World} {g n : Nat} {v : Nat → Value} (r : RowIs w g n v) {a : Addr} (ha : a.block ≠ g) (u : Value) : RowIs (w.setCell a u) g n v where
  cell j hj := by
    rw [World.cell?_of_block (w := w) (Below.heap_setCell w a u g (Ne.symm ha))]
    exact r.cell j hj
  free j hj := by
    rw [World.frozen?_of_block (w := w) (Below.heap_setCell w a u g (Ne.symm ha))]
    exact r.free j hj
  lt := by simpa [World.setCell] using r.lt
theorem RowIs.new {w : World} {n : Nat} {t : TypeId} {cs : Array Value} (hn : n ≤ cs.size) : RowIs (w.alloc (.cells cs t)) w.heap.size n (fun j => cs.getD j undef) where
  cell j hj := by
    rw [World.cell?_alloc_at _ _ _ _ rfl]
    simp [Array.getD, show j < cs.size by omega]
  free j hj := by simp [go_sem]
  lt := by simp
end Go.Proofs.Ytmgnobeaacjdjac
