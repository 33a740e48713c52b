/-
  The document's sum: new digits; the tests of a number.
-/
import Derived.Test.YtmgnobeaacjdjacRSum5
import Derived.Laws.MakeOwn
namespace Go.Proofs.Ytmgnobeaacjdjac
open Go Go.RowKit

def zero72 : Array Value := madeCells #[.int .i64 0] 72
theorem zero72_at (j : Nat) (hj : j < 72) : zero72.getD j undef = .int .i64 0 := by
  simp [Array.getD, hj, zero72, madeCells, Nat.mod_one]
theorem int_info : ∃ i, Try.prog.info? 3 = some i ∧ i.zero = some (.int .i64 0) ∧ i.size = 1 ∧ i.bytes = 8 := by
  have h : (Try.prog.info? 3).map (fun i => (i.zero, i.size, i.bytes)) = some (some (.int .i64 0), 1, 8) := by kernel_rfl
  rw [Option.map_eq_some_iff] at h
  obtain ⟨i, hi, h⟩ := h
  injection h with h1 h2
  injection h2 with h2 h3
  exact ⟨i, hi, h1, h2, h3⟩
theorem run_make72 (w : World) : (Instr.makeSlice 48 (.int .i64 72) (.int .i64 72)).run Try.prog w = .ok (.slice (some ⟨w.heap.size, 0, none⟩) 72 72) (w.alloc (.cells zero72 3)) := by
  obtain ⟨i, hi, hz, h1, h2⟩ := int_info
  have h := run_makeSlice (P := Try.prog) w 48 3 i (.int .i64 0) (by kernel_rfl) hi hz .i64 .i64 72 72 (by decide) (by decide) (by rw [h1]; decide) (by rw [h2]; decide) (by decide)
  rw [h1] at h
  exact h
theorem limbs_new (w : World) (t1 t2 : TypeId) : Limbs ((w.alloc (.cells zero72 t1)).alloc (.cells #[.slice (some ⟨w.heap.size, 0, none⟩) 72 72] t2)) (w.heap.size + 1) w.heap.size (fun _ => 0) := by
  have hs : zero72.size = 72 := size_madeCells _ _
  have r := (RowIs.new (w := w) (n := 72) (t := t1) (cs := zero72) (by omega)).congr (u := i64v fun _ => 0) fun j hj => zero72_at j hj
  refine ⟨r.below (B := w.heap.size + 1) ((Below.refl _ _).alloc (by simp) _) (by omega), ?_, by omega⟩
  rw [World.cell?_alloc_at _ _ _ _ (by simp)]
  rfl
/-! a number's tests -/
theorem up_test (x : Nat) (hx : x < 18446744073709551616) : ((FloatKind.f64.format.order x 0 == some .gt) && !isF x) = (x == infU) := by
  by_cases hn : isN x = true
  · rw [order_nan hn]
    have : (x == infU) = false := by rw [beq_eq_false_iff_ne]; rintro rfl; revert hn; decide
    rw [this]; rfl
  · have hn : isN x = false := by simpa using hn
    cases hf : isF x with
    | true =>
      have : (x == infU) = false := by rw [beq_eq_false_iff_ne]; rintro rfl; revert hf; decide
      rw [this]; simp
    | false =>
      rcases inf_or x hx hf hn with rfl | rfl <;> decide +kernel
theorem down_test (x : Nat) (hx : x < 18446744073709551616) : ((FloatKind.f64.format.order x 0 == some .lt) && !isF x) = (x == infD) := by
  by_cases hn : isN x = true
  · rw [order_nan hn]
    have : (x == infD) = false := by rw [beq_eq_false_iff_ne]; rintro rfl; revert hn; decide
    rw [this]; rfl
  · have hn : isN x = false := by simpa using hn
    cases hf : isF x with
    | true =>
      have : (x == infD) = false := by rw [beq_eq_false_iff_ne]; rintro rfl; revert hf; decide
      rw [this]; simp
    | false =>
      rcases inf_or x hx hf hn with rfl | rfl <;> decide +kernel
end Go.Proofs.Ytmgnobeaacjdjac
