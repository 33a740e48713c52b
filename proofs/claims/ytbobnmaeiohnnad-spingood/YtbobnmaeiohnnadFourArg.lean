/-
  A struct of four numbers with a point that came in.
-/
import Derived.Test.YtbobnmaeiohnnadFloatArg
namespace Go.Proofs.Ytbobnmaeiohnnad
open Go Go.ChangeShapes Go.WideShapes

theorem okWide_four {P : Program} {w : World} {r : Reach} {base : Nat} {t e : TypeId} {fs : Array Field} {v : Value} (ht : P.underlying t = some (.struct fs)) (he : P.underlying e = some (.float .f64))
    (hc : P.cellsOf t = 4) (hts : P.cellTypes P.depth t = some [e, e, e, e]) (h : Value.okWide P w r base t v) :
    ∃ a b c d, v = .agg #[.float .f64 a, .float .f64 b, .float .f64 c, .float .f64 d] := by
  simp only [Value.okWide, ht] at h
  obtain ⟨cs, rfl, h1, ts, h2, _, h4⟩ := h
  rw [hts] at h2
  cases h2
  rw [hc] at h1
  have g : ∀ i, i < 4 → ∃ b, cs[i]? = some (.float .f64 b) := by
    intro i hi
    have hs : i < cs.size := by omega
    obtain ⟨u, hu, hk⟩ := h4 i cs[i] (by simp [hs])
    have : u = e := by
      rcases (show i = 0 ∨ i = 1 ∨ i = 2 ∨ i = 3 by omega) with rfl | rfl | rfl | rfl <;> simpa using hu.symm
    subst this
    obtain ⟨b, hb, _⟩ := cell_float he hk
    exact ⟨b, by simp [hs, hb]⟩
  obtain ⟨a, ha⟩ := g 0 (by omega)
  obtain ⟨b, hb⟩ := g 1 (by omega)
  obtain ⟨c, hc⟩ := g 2 (by omega)
  obtain ⟨d, hd⟩ := g 3 (by omega)
  refine ⟨a, b, c, d, ?_⟩
  congr 1
  apply Array.ext_getElem?
  intro i
  rcases (show i = 0 ∨ i = 1 ∨ i = 2 ∨ i = 3 ∨ 4 ≤ i by omega) with rfl | rfl | rfl | rfl | hi
  · rw [ha]; rfl
  · rw [hb]; rfl
  · rw [hc]; rfl
  · rw [hd]; rfl
  · rw [Array.getElem?_eq_none (by omega), Array.getElem?_eq_none (by simpa using hi)]
end Go.Proofs.Ytbobnmaeiohnnad
