/-
  Slots that come in.
-/
import Derived.Test.YtoacdaemhcbbhaaDoorNgArg
import Derived.Test.YtoacdaemhcbbhaaDoorNgH4
namespace Go.Proofs.YtoacdaemhcbbhaaDoor
open Go Go.ChangeShapes Go.WideShapes Go.ChangeAt Go.RowKit

theorem cellsRSl : Tryd.prog.cellsOf 38 = 2 := by kernel_rfl
section
variable {H : Type} {enc : TypeId × Value → H} {w : World} {base : Nat} {spare : Nat → Bool} {held : Bool}
set_option maxRecDepth 100000 in
theorem sl_of_trod {n : Nat} {cs : List Value} {y : DataW H × List MemPlace} (h : DataW.trod enc Tryd.prog w base spare held n 38 cs = some y) :
    ∃ s : Slt, cs = [.string s.nm, .int .i64 s.fr] := by
  obtain ⟨xs, m, _, hx, hl, hlen, hf⟩ := DataW.trod_struct Tryd.underlying38 h
  rw [cellsRSl] at hl
  match cs, hl with
  | [c0, c1], _ =>
    have hxx : ∀ i, i < 2 → ∃ yy, xs[i]? = some yy := fun i hi => by
      have : i < xs.length := by rw [hlen]; simpa using hi
      exact ⟨_, List.getElem?_eq_getElem this⟩
    have g0 := hf 0 _ rfl
    have g1 := hf 1 _ rfl
    obtain ⟨y0, e0⟩ := hxx 0 (by omega)
    obtain ⟨y1, e1⟩ := hxx 1 (by omega)
    rw [e0] at g0
    rw [e1] at g1
    replace g0 : DataW.trod enc Tryd.prog w base spare held m 9 (([c0, c1].drop 0).take (Tryd.prog.cellsOf 9)) = some y0 := g0
    replace g1 : DataW.trod enc Tryd.prog w base spare held m 3 (([c0, c1].drop 1).take (Tryd.prog.cellsOf 3)) = some y1 := g1
    rw [cellsI] at g1
    rw [cellsStrJ] at g0
    obtain ⟨s0, hs0, _⟩ := str_of_trodA Tryd.underlying9 g0
    obtain ⟨fr, hfr⟩ := int_of_trod Tryd.underlying3 g1
    simp at hs0 hfr
    exact ⟨⟨s0, fr⟩, by rw [hs0, hfr]⟩
set_option maxRecDepth 100000 in
theorem slots_came {r : Reach} {b0 : Nat} {v : Value} {d : DataW H} {ps : List MemPlace} (hval : Value.okWide Tryd.prog w r b0 35 v) (hd : DataW.Trod enc Tryd.prog w base spare held 35 v d ps) : ∃ (ad : Option Addr) (c : Nat) (l : List Slt), v = .slice ad l.length c ∧ SlIn w ad l ∧ l.length ≤ 9223372036854775807 := by
  obtain ⟨a0, len, cap, rfl⟩ := okWide_slice Tryd.underlying35 hval
  obtain ⟨fuel, h⟩ := hd
  rcases DataW.trod_slice Tryd.underlying35 h with ⟨h0, _⟩ | ⟨a, len', cap', elems, rest, n, _, hcs, hx, hb, hl, hm, hlen, hel, _, _⟩
  · simp [Value.cells] at h0
    obtain ⟨rfl, rfl, rfl⟩ := h0
    exact ⟨none, 0, [], rfl, ⟨fun k hk => absurd hk (Nat.not_lt_zero k)⟩, by simp⟩
  · simp [Value.cells] at hcs
    obtain ⟨rfl, rfl, rfl⟩ := hcs
    have each : ∀ i, i < len → ∃ s : Slt, ∃ b off, a = ⟨b, off, none⟩ ∧ w.cell? ⟨b, off + i * 2, none⟩ = some (.string s.nm) ∧ w.cell? ⟨b, off + i * 2 + 1, none⟩ = some (.int .i64 s.fr) := by
      intro i hi
      have h1 := hel i hi
      have h2 : elems[i]? = some (elems[i]'(by omega)) := by simp
      rw [h2, cellsRSl, Option.bind_eq_some_iff] at h1
      obtain ⟨cs', hcs, hy'⟩ := h1
      obtain ⟨s, rfl⟩ := sl_of_trod hy'
      obtain ⟨_, _, hcell⟩ := World.cells?_some hcs
      have h1' := hel 0 (by omega)
      have h2' : elems[0]? = some (elems[0]'(by omega)) := by simp
      rw [h2', cellsRSl, Option.bind_eq_some_iff] at h1'
      obtain ⟨cs2, hcs2, hy2⟩ := h1'
      obtain ⟨p2, rfl⟩ := sl_of_trod hy2
      obtain ⟨_, _, hcell2⟩ := World.cells?_some hcs2
      obtain ⟨b, off, spot⟩ := a
      have hspot : spot = none := by
        have q : w.cell? (((⟨b, off, spot⟩ : Addr).add (0 * 2)).add 0) = some (.string p2.nm) := hcell2 0 (by omega)
        have := World.cell?_spot q
        simpa [Addr.add] using this
      subst hspot
      rw [add_pl2] at hcell
      have hq : ∀ m, m < 2 → w.cell? ⟨b, off + i * 2 + m, none⟩ = ([.string s.nm, .int .i64 s.fr] : List Value)[m]? := fun m hm => by
        have := hcell m (by omega)
        rw [add_pl2] at this
        exact this
      exact ⟨s, b, off, rfl, hq 0 (by decide), hq 1 (by decide)⟩
    have hget : ∀ k, (hk2 : k < len) → ((List.range len).map fun i => if h : i < len then Classical.choose (each i h) else sl0).getD k sl0 = Classical.choose (each k hk2) := fun k hk2 => by
      simp [List.getD, hk2]
    refine ⟨some a, cap, (List.range len).map fun i => if h : i < len then Classical.choose (each i h) else sl0, ?_, ⟨fun k hk => ?_⟩, ?_⟩
    · simp
    · have hk2 : k < len := by simpa using hk
      rw [hget k hk2]
      obtain ⟨b, off, e1, h1, h2⟩ := Classical.choose_spec (each k hk2)
      exact ⟨b, off, by rw [e1], lt_of_cell h1, h1, h2⟩
    · unfold maxLen at hm
      simp only [List.length_map, List.length_range]
      omega
end
end Go.Proofs.YtoacdaemhcbbhaaDoor
