/-
  Whole numbers that came in, and rows of them that were made.
-/
import Derived.Test.YtoacdaemhcbbhaaDoorEvRow
import Derived.Laws.AppendOwnNone
namespace Go.Proofs.YtoacdaemhcbbhaaDoor
open Go Go.RowKit

/-- whole numbers that came in. -/
structure ICame (w : World) (ad : Option Addr) (L : List Int) : Prop where
  at_ : ∀ k, k < L.length → ∃ b off, ad = some ⟨b, off, none⟩ ∧ b < w.heap.size ∧ w.cell? ⟨b, off + k, none⟩ = some (.int .i64 (L.getD k 0))
theorem ICame.below {w v : World} {ad : Option Addr} {L : List Int} (h : ICame w ad L) (k : Below w.heap.size w v) : ICame v ad L := ⟨fun j hj => by
  obtain ⟨b, off, e, hb, h1⟩ := h.at_ j hj
  exact ⟨b, off, e, Nat.lt_of_lt_of_le hb k.size, (k.cell (p := ⟨b, off + j, none⟩) hb).trans h1⟩⟩
theorem infoI : (Tryd.prog.info? 3).map (fun i => (i.zero, i.size, i.bytes)) = some (some (.int .i64 0), 1, 8) := by kernel_rfl
theorem int_cells {w : World} {a0 : Addr} {L : List Int} (h : ICame w (some a0) L) : ∀ j u, (L.map (Value.int .i64))[j]? = some u → w.cell? (a0.add j) = some u := by
  intro j u hu
  have hj : j < L.length := by
    have := (List.getElem?_eq_some_iff.1 hu).1
    simpa using this
  obtain ⟨b', off', e, _, hc⟩ := h.at_ j hj
  cases e
  rw [add_pl2, hc]
  rw [List.getElem?_map, List.getElem?_eq_getElem hj] at hu
  rw [List.getD_eq_getElem?_getD, List.getElem?_eq_getElem hj]
  exact hu
theorem own_ints {w : World} {B : Nat} {v : Value} {L : List Int} (h : w.ownsRow B 3 1 v L.length (L.map (Value.int .i64))) : ∃ ad cap, v = .slice ad L.length cap ∧ ICame w ad L ∧ ∀ a0, ad = some a0 → B ≤ a0.block := by
  have h' := h
  rcases h.2 with ⟨h1, h2⟩ | ⟨g, cap, cur, e, hB, hg, hc, _, hs, ht⟩
  · have e : L = [] := List.length_eq_zero_iff.1 h2
    subst e
    exact ⟨none, 0, h1, ⟨fun k hk => absurd hk (Nat.not_lt_zero k)⟩, fun _ e => by cases e⟩
  · subst e
    refine ⟨_, cap, rfl, ⟨fun k hk => ⟨g, 0, rfl, (Array.getElem?_eq_some_iff.1 hg).1, ?_⟩⟩, fun a0 e => by cases e; exact hB⟩
    have q : (L.map (Value.int .i64))[k]? = some (.int .i64 (L.getD k 0)) := by
      rw [List.getElem?_map, List.getElem?_eq_getElem hk, List.getD_eq_getElem?_getD, List.getElem?_eq_getElem hk]
      rfl
    rw [← ht, List.getElem?_take, if_pos (by omega)] at q
    rw [Nat.zero_add]
    simp only [World.cell?, hg]
    simpa using q
end Go.Proofs.YtoacdaemhcbbhaaDoor
