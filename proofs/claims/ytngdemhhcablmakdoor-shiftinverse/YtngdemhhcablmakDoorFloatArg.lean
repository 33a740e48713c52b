/-
  Numbers with a point that came in: by value, in a struct of three, in a slice.
-/
import Derived.WideShapes
import Derived.ChangeSlices
import Derived.ChangeShapes
namespace Go.Proofs.YtngdemhhcablmakDoor
open Go Go.ChangeShapes Go.WideShapes

theorem cell_float {P : Program} {w : World} {r : Reach} {base : Nat} {t : TypeId} {v : Value} (ht : P.underlying t = some (.float .f64)) (h : Cell.okWide P w r base t v) : ∃ b, v = .float .f64 b ∧ b < 18446744073709551616 := by
  simp only [Cell.okWide, ht] at h
  cases v <;> simp_all [Cell.ok]
  simpa [FloatKind.has] using h.2
theorem okWide_float {P : Program} {w : World} {r : Reach} {base : Nat} {t : TypeId} {v : Value} (ht : P.underlying t = some (.float .f64)) (h : Value.okWide P w r base t v) : ∃ b, v = .float .f64 b ∧ b < 18446744073709551616 := by
  simp only [Value.okWide, ht] at h
  exact cell_float ht h
theorem okWide_three {P : Program} {w : World} {r : Reach} {base : Nat} {t e : TypeId} {fs : Array Field} {v : Value} (ht : P.underlying t = some (.struct fs)) (he : P.underlying e = some (.float .f64))
    (hc : P.cellsOf t = 3) (hts : P.cellTypes P.depth t = some [e, e, e]) (h : Value.okWide P w r base t v) :
    ∃ x y z, v = .agg #[.float .f64 x, .float .f64 y, .float .f64 z] := by
  simp only [Value.okWide, ht] at h
  obtain ⟨cs, rfl, h1, ts, h2, _, h4⟩ := h
  rw [hts] at h2
  cases h2
  rw [hc] at h1
  have g : ∀ i, i < 3 → ∃ b, cs[i]? = some (.float .f64 b) := by
    intro i hi
    have hs : i < cs.size := by omega
    obtain ⟨u, hu, hk⟩ := h4 i cs[i] (by simp [hs])
    have : u = e := by
      rcases (show i = 0 ∨ i = 1 ∨ i = 2 by omega) with rfl | rfl | rfl <;> simpa using hu.symm
    subst this
    obtain ⟨b, hb, _⟩ := cell_float he hk
    exact ⟨b, by simp [hs, hb]⟩
  obtain ⟨x, hx⟩ := g 0 (by omega)
  obtain ⟨y, hy⟩ := g 1 (by omega)
  obtain ⟨z, hz⟩ := g 2 (by omega)
  refine ⟨x, y, z, ?_⟩
  congr 1
  apply Array.ext_getElem?
  intro i
  rcases (show i = 0 ∨ i = 1 ∨ i = 2 ∨ 3 ≤ i by omega) with rfl | rfl | rfl | hi
  · rw [hx]; rfl
  · rw [hy]; rfl
  · rw [hz]; rfl
  · rw [Array.getElem?_eq_none (by omega), Array.getElem?_eq_none (by simpa using hi)]
section
variable {H : Type} {enc : TypeId × Value → H} {P : Program} {w : World} {base : Nat} {spare : Nat → Bool} {held : Bool}
theorem float_of_trod {e : TypeId} {n : Nat} {cs : List Value} {y : DataW H × List MemPlace} (he : P.underlying e = some (.float .f64)) (h : DataW.trod enc P w base spare held n e cs = some y) : ∃ b, cs = [.float .f64 b] ∧ b < 18446744073709551616 := by
  cases n with
  | zero => simp [DataW.trod] at h
  | succ n =>
    unfold DataW.trod at h
    rw [he] at h
    split at h
    all_goals try (rename_i e1; cases e1)
    all_goals try (rename_i e1 e2; cases e1)
    all_goals try cases h
    · split at h
      · rename_i hh
        refine ⟨_, rfl, ?_⟩
        simpa [Lit.wf, FloatKind.has] using hh.2
      · cases h
theorem open_floats {t e : TypeId} {fuel : Nat} {a : Addr} {len cap : Nat} {x : DataW H × List MemPlace} (ht : P.underlying t = some (.slice e)) (he : P.underlying e = some (.float .f64)) (hc : P.cellsOf e = 1)
    (h : DataW.trod enc P w base spare held fuel t [.slice (some a) len cap] = some x) :
    len ≤ cap ∧ cap ≤ maxLen ∧ ∃ zs : List Nat, zs.length = len ∧ (∀ i, i < len → w.cell? (a.add i) = some (.float .f64 (zs.getD i 0))) ∧ ∀ n ∈ zs, n < 18446744073709551616 := by
  rcases DataW.trod_slice ht h with ⟨h0, _⟩ | ⟨a', len', cap', elems, rest, n, _, hcs, rfl, hb, hl, hm, hlen, hel, _, _⟩
  · cases h0
  simp only [List.cons.injEq, Value.slice.injEq, Option.some.injEq, and_true] at hcs
  obtain ⟨rfl, rfl, rfl⟩ := hcs
  refine ⟨hl, hm, ?_⟩
  have each : ∀ i, i < len → ∃ b, w.cell? (a.add i) = some (.float .f64 b) ∧ b < 18446744073709551616 := by
    intro i hi
    have h1 := hel i hi
    have h2 : elems[i]? = some (elems[i]'(by omega)) := by simp
    rw [h2, hc, Nat.mul_one, Option.bind_eq_some_iff] at h1
    obtain ⟨cs', hcs, hy'⟩ := h1
    obtain ⟨b, rfl, hb⟩ := float_of_trod he hy'
    exact ⟨b, cell_of_cells?_one hcs, hb⟩
  refine ⟨(List.range len).map fun i => match w.cell? (a.add i) with | some (.float _ b) => b | _ => 0, by simp, ?_, ?_⟩
  · intro i hi
    obtain ⟨b, hb, _⟩ := each i hi
    simp [List.getD, hi, hb]
  · intro n hn
    simp only [List.mem_map, List.mem_range] at hn
    obtain ⟨i, hi, rfl⟩ := hn
    obtain ⟨b, hb, hlt⟩ := each i hi
    rw [hb]
    exact hlt
end
end Go.Proofs.YtngdemhhcablmakDoor
