/-
  A row of pairs that is made and written; the step of halves. 
-/
import Derived.Test.YtngdemhhcablmakDoorShNA
import Derived.Laws.OwnMore
import Derived.Laws.MakeOwn
namespace Go.Proofs.YtngdemhhcablmakDoor
open Go Go.RowKit

theorem flatPr_set : ∀ (M : List (Nat × Nat)) (k : Nat) (r : Nat × Nat), k < M.length → flatPr (M.set k r) = ((flatPr M).set (k * 2) (.float .f64 r.1)).set (k * 2 + 1) (.float .f64 r.2)
  | [], k, _, h => absurd h (Nat.not_lt_zero k)
  | q :: M, 0, r, _ => rfl
  | q :: M, k + 1, r, h => by
    rw [List.set_cons_succ]
    show valPr q ++ flatPr (M.set k r) = _
    rw [flatPr_set M k r (by simpa using h)]
    rw [show (k + 1) * 2 = k * 2 + 1 + 1 by omega]
    rfl
theorem flatPr_zero (n j : Nat) (hj : j < n * 2) : (flatPr (List.replicate n (0, 0)))[j]? = some (.float .f64 0) := by
  have e1 : j = j / 2 * 2 + j % 2 := by omega
  rw [e1, flatPr_at _ (j / 2) (j % 2) (by rw [List.length_replicate]; omega) (by omega), List.getD_eq_getElem?_getD, List.getElem?_replicate_of_lt (by omega)]
  rcases (show j % 2 = 0 ∨ j % 2 = 1 by omega) with h | h <;> rw [h] <;> rfl
theorem made_pairs (n : Nat) : (madeCells (Value.cells Przv) (n * 2)).toList = flatPr (List.replicate n (0, 0)) := by
  apply List.ext_getElem?
  intro j
  by_cases hj : j < n * 2
  · rw [flatPr_zero n j hj]
    have e : (Value.cells Przv) = #[.float .f64 0, .float .f64 0] := rfl
    rw [e]
    simp only [madeCells, Array.toList_map, List.getElem?_map, Array.toList_range]
    rw [List.getElem?_range hj]
    rcases (show j % 2 = 0 ∨ j % 2 = 1 by omega) with h | h <;> simp [h]
  · rw [List.getElem?_eq_none (by rw [Array.length_toList, size_madeCells]; omega), List.getElem?_eq_none (by rw [flatPr_length, List.length_replicate]; omega)]
/-- a row of pairs that was made: its block. -/
def PrOwn (w : World) (B g n : Nat) (M : List (Nat × Nat)) : Prop := M.length = n ∧ w.ownsRow B 39 2 (.slice (some ⟨g, 0, none⟩) n n) n (flatPr M)
theorem make_pairs {w : World} {n : Nat} (B : Nat) (hB : B ≤ w.heap.size) (hn : n ≤ 65536) : ∃ w', (Instr.makeSlice 22 (.int .i64 (n : Int)) (.int .i64 (n : Int))).run Tryd.prog w = .ok (.slice (some ⟨w.heap.size, 0, none⟩) n n) w' ∧ PrOwn w' B w.heap.size n (List.replicate n (0, 0)) ∧ Below w.heap.size w w' := by
  obtain ⟨i0, hi0, hz0, hz1, hz2⟩ := info_parts infoPr
  obtain ⟨w', h1, h2, h3⟩ := run_make_full (P := Tryd.prog) w B 22 39 i0 Przv 2 (by kernel_rfl) hi0 hz0 hz1 .i64 .i64 n (by rw [hz2]; omega) (by simp [maxLen]; omega) hB
  refine ⟨w', h1, ⟨List.length_replicate, ?_⟩, (Below.refl _ _).grown h3 (Nat.le_refl _) (fun k hk => by cases hk)⟩
  rw [← made_pairs]
  exact h2
theorem PrOwn.below {w w' : World} {B g n : Nat} {M : List (Nat × Nat)} (h : PrOwn w B g n M) (k : Below w.heap.size w w') : PrOwn w' B g n M := ⟨h.1, own_below2 h.2 k⟩
theorem PrOwn.lt {w : World} {B g n : Nat} {M : List (Nat × Nat)} (h : PrOwn w B g n M) : B ≤ g ∧ g < w.heap.size := by
  rcases h.2.2 with ⟨h1, _⟩ | ⟨g', c, cur, h1, hb, hh, _⟩
  · cases h1
  · injection h1 with h1 _ _
    injection h1 with h1
    injection h1 with h1
    subst h1
    exact ⟨hb, (Array.getElem?_eq_some_iff.1 hh).1⟩
theorem PrOwn.has {w : World} {B g n : Nat} {M : List (Nat × Nat)} (h : PrOwn w B g n M) {k : Nat} (hk : k < n) : (∃ u, w.cell? ⟨g, k * 2, none⟩ = some u) ∧ (∃ u, w.cell? ⟨g, k * 2 + 1, none⟩ = some u) ∧ w.frozen? ⟨g, k * 2, none⟩ = false ∧ w.frozen? ⟨g, k * 2 + 1, none⟩ = false := by
  have hl := flatPr_length M
  rw [h.1] at hl
  refine ⟨⟨_, (h.2.cellAt (k * 2) (by omega)).trans (List.getElem?_eq_getElem (by omega))⟩, ⟨_, (h.2.cellAt (k * 2 + 1) (by omega)).trans (List.getElem?_eq_getElem (by omega))⟩, h.2.frozenAt _, h.2.frozenAt _⟩
theorem PrOwn.put {w : World} {B g n : Nat} {M : List (Nat × Nat)} (h : PrOwn w B g n M) {k : Nat} (hk : k < n) (r : Nat × Nat) : PrOwn ((w.setCell ⟨g, k * 2, none⟩ (.float .f64 r.1)).setCell ⟨g, k * 2 + 1, none⟩ (.float .f64 r.2)) B g n (M.set k r) := by
  refine ⟨by rw [List.length_set]; exact h.1, ?_⟩
  rw [flatPr_set M k r (by rw [h.1]; exact hk)]
  exact ((h.2.stored (k * 2) _).1.stored (k * 2 + 1) _).1
theorem PrOwn.came {w : World} {B g n : Nat} {M : List (Nat × Nat)} (h : PrOwn w B g n M) : PrCame w (some ⟨g, 0, none⟩) M := by
  have h2 := h.2
  rw [← h.1] at h2
  obtain ⟨ad, cap, e, hc⟩ := Prown h2
  injection e with e
  subst e
  exact hc
/-- the first k of a step of halves. -/
def HvK (back : Bool) (d : Nat) (E O M : List (Nat × Nat)) (k : Nat) : Prop := ∀ i, i < k → ∃ t, CPr (O.getD i (0, 0)) (waveV ((1296000000000 * i / 2 ^ (d + 1) : Nat) : Int) back) t ∧ CAd (E.getD i (0, 0)) t (M.getD i (0, 0)) ∧ CSb (E.getD i (0, 0)) t (M.getD (i + 2 ^ d) (0, 0))
theorem getD_set_other {M : List (Nat × Nat)} {k i : Nat} (h : i ≠ k) (r : Nat × Nat) : (M.set k r).getD i (0, 0) = M.getD i (0, 0) := by
  rw [List.getD_eq_getElem?_getD, List.getElem?_set_ne (by omega), ← List.getD_eq_getElem?_getD]
theorem getD_set_same {M : List (Nat × Nat)} {k : Nat} (h : k < M.length) (r : Nat × Nat) : (M.set k r).getD k (0, 0) = r := by
  rw [List.getD_eq_getElem?_getD, List.getElem?_set_self h]
  rfl
theorem HvK.next {back : Bool} {d : Nat} {E O M : List (Nat × Nat)} {k : Nat} (h : HvK back d E O M k) (hl : M.length = 2 ^ d + 2 ^ d) (hk : k < 2 ^ d) {t r s : Nat × Nat} (h1 : CPr (O.getD k (0, 0)) (waveV ((1296000000000 * k / 2 ^ (d + 1) : Nat) : Int) back) t) (h2 : CAd (E.getD k (0, 0)) t r) (h3 : CSb (E.getD k (0, 0)) t s) : HvK back d E O ((M.set k r).set (k + 2 ^ d) s) (k + 1) := by
  intro i hi
  by_cases e : i = k
  · subst e
    refine ⟨t, h1, ?_, ?_⟩
    · rw [getD_set_other (by omega), getD_set_same (by omega)]
      exact h2
    · rw [getD_set_same (by rw [List.length_set]; omega)]
      exact h3
  · obtain ⟨t', g1, g2, g3⟩ := h i (by omega)
    refine ⟨t', g1, ?_, ?_⟩
    · rw [getD_set_other (by omega), getD_set_other (by omega)]
      exact g2
    · rw [getD_set_other (by omega), getD_set_other (by omega)]
      exact g3
end Go.Proofs.YtngdemhhcablmakDoor
