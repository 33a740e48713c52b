/-
  A star that came in.
-/
import Derived.Test.YtmgnobeaacjdjajDoorSpKA
import Derived.ProofKit
import Derived.OpenShut
import Derived.ChangeSlices
import Derived.Carry
namespace Go.Proofs.YtmgnobeaacjdjajDoor
open Go Go.ChangeShapes Go.WideShapes Go.ChangeAt Go.RowKit

theorem cell_int3 {P : Program} {w : World} {r : Reach} {base : Nat} {t : TypeId} {c : Value} (ht : P.underlying t = some (.int .i64)) (h : Cell.okWide P w r base t c) : ∃ b, c = .int .i64 b := by
  simp only [Cell.okWide, ht] at h
  cases c <;> simp_all [Cell.ok]
theorem star_cells : Tryd.prog.cellsOf 35 = 3 := by kernel_rfl
theorem star_types : Tryd.prog.cellTypes Tryd.prog.depth 35 = some [3, 3, 3] := by kernel_rfl
set_option maxRecDepth 100000 in
theorem star_came {w : World} {r : Reach} {base : Nat} {v : Value} {X : Prop} (h : Value.okWide Tryd.prog w r base 35 v) (_ : X) : ∃ s : Sta, v = .agg #[.int .i64 s.x, .int .i64 s.y, .int .i64 s.lt] := by
  have hu : ∃ fs, Tryd.prog.underlying 35 = some (.struct fs) := ⟨_, Tryd.underlying35⟩
  obtain ⟨fs, ht⟩ := hu
  simp only [Value.okWide, ht] at h
  obtain ⟨cs, rfl, h1, ts, h2, _, h4⟩ := h
  rw [star_types] at h2
  cases h2
  rw [star_cells] at h1
  have g : ∀ i, i < 3 → ∃ b, cs[i]? = some (.int .i64 b) := by
    intro i hi
    have hs : i < cs.size := by omega
    obtain ⟨u, hu, hk⟩ := h4 i cs[i] (by simp [hs])
    have : u = 3 := by
      rcases (show i = 0 ∨ i = 1 ∨ i = 2 by omega) with rfl | rfl | rfl <;> simpa using hu.symm
    subst this
    obtain ⟨b, hb⟩ := cell_int3 Tryd.underlying3 hk
    exact ⟨b, by simp [hs, hb]⟩
  obtain ⟨x0, e0⟩ := g 0 (by omega)
  obtain ⟨x1, e1⟩ := g 1 (by omega)
  obtain ⟨x2, e2⟩ := g 2 (by omega)
  refine ⟨⟨0, 0, 0, 0, 0, 0, x0, x1, x2⟩, ?_⟩
  congr 1
  apply Array.ext_getElem?
  intro i
  rcases (show i = 0 ∨ i = 1 ∨ i = 2 ∨ 3 ≤ i by omega) with rfl | rfl | rfl | hi
  · rw [e0]; rfl
  · rw [e1]; rfl
  · rw [e2]; rfl
  · rw [Array.getElem?_eq_none (by omega), Array.getElem?_eq_none (by simp; omega)]
end Go.Proofs.YtmgnobeaacjdjajDoor
