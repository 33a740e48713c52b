/-
  A spot that came in.
-/
import Derived.Test.YtmgnobeaacjdjajGreatDoorSpKA
import Derived.ProofKit
import Derived.OpenShut
import Derived.ChangeSlices
import Derived.Carry
namespace Go.Proofs.YtmgnobeaacjdjajGreatDoor
open Go Go.ChangeShapes Go.WideShapes Go.ChangeAt Go.RowKit

theorem cell_int9 {P : Program} {w : World} {r : Reach} {base : Nat} {t : TypeId} {c : Value} (ht : P.underlying t = some (.int .i64)) (h : Cell.okWide P w r base t c) : ∃ b, c = .int .i64 b := by
  simp only [Cell.okWide, ht] at h
  cases c <;> simp_all [Cell.ok]
theorem nine_cells : Tryz.prog.cellsOf 26 = 9 := by kernel_rfl
theorem nine_types : Tryz.prog.cellTypes Tryz.prog.depth 26 = some [3, 3, 3, 3, 3, 3, 3, 3, 3] := by kernel_rfl
set_option maxRecDepth 100000 in
theorem spot_came {w : World} {r : Reach} {base : Nat} {v : Value} {X : Prop} (h : Value.okWide Tryz.prog w r base 26 v) (_ : X) : ∃ s, v = sxV s := by
  have hu : ∃ fs, Tryz.prog.underlying 26 = some (.struct fs) := ⟨_, Tryz.underlying26⟩
  obtain ⟨fs, ht⟩ := hu
  simp only [Value.okWide, ht] at h
  obtain ⟨cs, rfl, h1, ts, h2, _, h4⟩ := h
  rw [nine_types] at h2
  cases h2
  rw [nine_cells] at h1
  have g : ∀ i, i < 9 → ∃ b, cs[i]? = some (.int .i64 b) := by
    intro i hi
    have hs : i < cs.size := by omega
    obtain ⟨u, hu, hk⟩ := h4 i cs[i] (by simp [hs])
    have : u = 3 := by
      rcases (show i = 0 ∨ i = 1 ∨ i = 2 ∨ i = 3 ∨ i = 4 ∨ i = 5 ∨ i = 6 ∨ i = 7 ∨ i = 8 by omega) with rfl | rfl | rfl | rfl | rfl | rfl | rfl | rfl | rfl <;> simpa using hu.symm
    subst this
    obtain ⟨b, hb⟩ := cell_int9 Tryz.underlying3 hk
    exact ⟨b, by simp [hs, hb]⟩
  obtain ⟨x0, e0⟩ := g 0 (by omega)
  obtain ⟨x1, e1⟩ := g 1 (by omega)
  obtain ⟨x2, e2⟩ := g 2 (by omega)
  obtain ⟨x3, e3⟩ := g 3 (by omega)
  obtain ⟨x4, e4⟩ := g 4 (by omega)
  obtain ⟨x5, e5⟩ := g 5 (by omega)
  obtain ⟨x6, e6⟩ := g 6 (by omega)
  obtain ⟨x7, e7⟩ := g 7 (by omega)
  obtain ⟨x8, e8⟩ := g 8 (by omega)
  refine ⟨⟨x0, x1, x2, x3, x4, x5, x6, x7, x8⟩, ?_⟩
  unfold sxV
  congr 1
  apply Array.ext_getElem?
  intro i
  rcases (show i = 0 ∨ i = 1 ∨ i = 2 ∨ i = 3 ∨ i = 4 ∨ i = 5 ∨ i = 6 ∨ i = 7 ∨ i = 8 ∨ 9 ≤ i by omega) with rfl | rfl | rfl | rfl | rfl | rfl | rfl | rfl | rfl | hi
  · rw [e0]; rfl
  · rw [e1]; rfl
  · rw [e2]; rfl
  · rw [e3]; rfl
  · rw [e4]; rfl
  · rw [e5]; rfl
  · rw [e6]; rfl
  · rw [e7]; rfl
  · rw [e8]; rfl
  · rw [Array.getElem?_eq_none (by omega), Array.getElem?_eq_none (by simp; omega)]
end Go.Proofs.YtmgnobeaacjdjajGreatDoor
