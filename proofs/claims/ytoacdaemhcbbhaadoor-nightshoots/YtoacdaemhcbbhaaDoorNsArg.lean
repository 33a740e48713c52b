/-
  Tools that came in.
-/
import Derived.Test.YtoacdaemhcbbhaaDoorNgArg
import Derived.Test.YtoacdaemhcbbhaaDoorNsM
namespace Go.Proofs.YtoacdaemhcbbhaaDoor
open Go Go.ChangeShapes Go.WideShapes Go.ChangeAt Go.RowKit

theorem cellsTT : Tryd.prog.cellsOf 57 = 7 := by kernel_rfl
theorem cellsPc : Tryd.prog.cellsOf 54 = 3 := by kernel_rfl
theorem cellsSI : Tryd.prog.cellsOf 52 = 1 := by kernel_rfl
section
variable {H : Type} {enc : TypeId × Value → H} {w : World} {base : Nat} {spare : Nat → Bool} {held : Bool}
set_option maxRecDepth 100000 in
theorem ints_trod {fuel : Nat} {c : Value} {y : DataW H × List MemPlace} (h : DataW.trod enc Tryd.prog w base spare held fuel 52 [c] = some y) : ∃ (ad : Option Addr) (cap : Nat) (L : List Int), c = .slice ad L.length cap ∧ ICame w ad L ∧ (ad = none → cap = 0) ∧ L.length ≤ 9223372036854775807 := by
  rcases DataW.trod_slice Tryd.underlying52 h with ⟨h0, _⟩ | ⟨a, len, cap, elems, rest, n, _, hcs, hx, hb, hl, hm, hlen, hel, _, _⟩
  · simp at h0
    subst h0
    exact ⟨none, 0, [], rfl, ⟨fun k hk => absurd hk (Nat.not_lt_zero k)⟩, fun _ => rfl, by simp⟩
  · simp at hcs
    subst hcs
    have each : ∀ i, i < len → ∃ z : Int, ∃ b off, a = ⟨b, off, none⟩ ∧ w.cell? ⟨b, off + i, none⟩ = some (.int .i64 z) := by
      intro i hi
      have h1 := hel i hi
      have h2 : elems[i]? = some (elems[i]'(by omega)) := by simp
      rw [h2, cellsI, Option.bind_eq_some_iff] at h1
      obtain ⟨cs', hcs, hy'⟩ := h1
      obtain ⟨z, rfl⟩ := int_of_trod Tryd.underlying3 hy'
      obtain ⟨_, _, hcell⟩ := World.cells?_some hcs
      have h1' := hel 0 (by omega)
      have h2' : elems[0]? = some (elems[0]'(by omega)) := by simp
      rw [h2', cellsI, Option.bind_eq_some_iff] at h1'
      obtain ⟨cs2, hcs2, hy2⟩ := h1'
      obtain ⟨z2, rfl⟩ := int_of_trod Tryd.underlying3 hy2
      obtain ⟨_, _, hcell2⟩ := World.cells?_some hcs2
      obtain ⟨b, off, spot⟩ := a
      have hspot : spot = none := by
        have q : w.cell? (((⟨b, off, spot⟩ : Addr).add (0 * 1)).add 0) = some (.int .i64 z2) := hcell2 0 (by omega)
        have := World.cell?_spot q
        simpa [Addr.add] using this
      subst hspot
      rw [add_pl2] at hcell
      have := hcell 0 (by omega)
      rw [add_pl2, Nat.mul_one, Nat.add_zero] at this
      exact ⟨z, b, off, rfl, this⟩
    refine ⟨some a, cap, (List.range len).map fun i => if h : i < len then Classical.choose (each i h) else 0, ?_, ⟨fun k hk => ?_⟩, (fun e => nomatch e), ?_⟩
    · simp
    · have hk2 : k < len := by simpa using hk
      have e : ((List.range len).map fun i => if h : i < len then Classical.choose (each i h) else 0).getD k 0 = Classical.choose (each k hk2) := by
        simp [List.getD, hk2]
      rw [e]
      obtain ⟨b, off, e1, hat⟩ := Classical.choose_spec (each k hk2)
      exact ⟨b, off, by rw [e1], lt_of_cell hat, hat⟩
    · unfold maxLen at hm
      simp only [List.length_map, List.length_range]
      omega
set_option maxRecDepth 100000 in
theorem spans_nil {fuel : Nat} {ad : Option Addr} {m cap : Nat} {y : DataW H × List MemPlace} (h : DataW.trod enc Tryd.prog w base spare held fuel 55 [.slice ad m cap] = some y) : ad = none → cap = 0 := by
  intro e
  rcases DataW.trod_slice Tryd.underlying55 h with ⟨h0, _⟩ | ⟨a, len, cap', elems, rest, n, _, hcs, _⟩
  · simp at h0
    exact h0.2.2
  · simp at hcs
    rw [e] at hcs
    exact absurd hcs.1 (by simp)
set_option maxRecDepth 100000 in
theorem pic_trod {n : Nat} {cs : List Value} {y : DataW H × List MemPlace} (h : DataW.trod enc Tryd.prog w base spare held n 54 cs = some y) :
    ∃ (wd hi : Int) (L : List Int) (ad : Option Addr) (cap : Nat), cs = [.int .i64 wd, .int .i64 hi, .slice ad L.length cap] ∧ ICame w ad L ∧ (ad = none → cap = 0) ∧ L.length ≤ 9223372036854775807 := by
  obtain ⟨xs, m, _, hx, hl, hlen, hf⟩ := DataW.trod_struct Tryd.underlying54 h
  rw [cellsPc] at hl
  match cs, hl with
  | [c0, c1, c2], _ =>
    have hxx : ∀ i, i < 3 → ∃ yy, xs[i]? = some yy := fun i hi => by
      have : i < xs.length := by rw [hlen]; simpa using hi
      exact ⟨_, List.getElem?_eq_getElem this⟩
    have g0 := hf 0 _ rfl
    have g1 := hf 1 _ rfl
    have g2 := hf 2 _ rfl
    obtain ⟨y0, e0⟩ := hxx 0 (by omega)
    obtain ⟨y1, e1⟩ := hxx 1 (by omega)
    obtain ⟨y2, e2⟩ := hxx 2 (by omega)
    rw [e0] at g0
    rw [e1] at g1
    rw [e2] at g2
    replace g0 : DataW.trod enc Tryd.prog w base spare held m 3 (([c0, c1, c2].drop 0).take (Tryd.prog.cellsOf 3)) = some y0 := g0
    replace g1 : DataW.trod enc Tryd.prog w base spare held m 3 (([c0, c1, c2].drop 1).take (Tryd.prog.cellsOf 3)) = some y1 := g1
    replace g2 : DataW.trod enc Tryd.prog w base spare held m 52 (([c0, c1, c2].drop 2).take (Tryd.prog.cellsOf 52)) = some y2 := g2
    rw [cellsI] at g0 g1
    rw [cellsSI] at g2
    obtain ⟨wd, hwd⟩ := int_of_trod Tryd.underlying3 g0
    obtain ⟨hi, hhi⟩ := int_of_trod Tryd.underlying3 g1
    obtain ⟨ad, cap, L, hc, hI, hN, hL⟩ := ints_trod g2
    simp at hwd hhi
    exact ⟨wd, hi, L, ad, cap, by rw [hwd, hhi, hc], hI, hN, hL⟩
set_option maxRecDepth 100000 in
theorem tt_of_trod {n : Nat} {cs : List Value} {y : DataW H × List MemPlace} (h : DataW.trod enc Tryd.prog w base spare held n 57 cs = some y) :
    ∃ x : TT, cs = vT x ∧ x.2.Ok w x.1 ∧ x.1.cs.length ≤ 9223372036854775807 ∧ x.1.op.length ≤ 9223372036854775807 := by
  obtain ⟨xs, m, _, hx, hl, hlen, hf⟩ := DataW.trod_struct Tryd.underlying57 h
  rw [cellsTT] at hl
  match cs, hl with
  | [c0, c1, c2, c3, c4, c5, c6], _ =>
    have hxx : ∀ i, i < 5 → ∃ yy, xs[i]? = some yy := fun i hi => by
      have : i < xs.length := by rw [hlen]; simpa using hi
      exact ⟨_, List.getElem?_eq_getElem this⟩
    have g0 := hf 0 _ rfl
    have g1 := hf 1 _ rfl
    have g2 := hf 2 _ rfl
    have g3 := hf 3 _ rfl
    have g4 := hf 4 _ rfl
    obtain ⟨y0, e0⟩ := hxx 0 (by omega)
    obtain ⟨y1, e1⟩ := hxx 1 (by omega)
    obtain ⟨y2, e2⟩ := hxx 2 (by omega)
    obtain ⟨y3, e3⟩ := hxx 3 (by omega)
    obtain ⟨y4, e4⟩ := hxx 4 (by omega)
    rw [e0] at g0
    rw [e1] at g1
    rw [e2] at g2
    rw [e3] at g3
    rw [e4] at g4
    replace g0 : DataW.trod enc Tryd.prog w base spare held m 9 (([c0, c1, c2, c3, c4, c5, c6].drop 0).take (Tryd.prog.cellsOf 9)) = some y0 := g0
    replace g1 : DataW.trod enc Tryd.prog w base spare held m 3 (([c0, c1, c2, c3, c4, c5, c6].drop 1).take (Tryd.prog.cellsOf 3)) = some y1 := g1
    replace g2 : DataW.trod enc Tryd.prog w base spare held m 54 (([c0, c1, c2, c3, c4, c5, c6].drop 2).take (Tryd.prog.cellsOf 54)) = some y2 := g2
    replace g3 : DataW.trod enc Tryd.prog w base spare held m 55 (([c0, c1, c2, c3, c4, c5, c6].drop 5).take (Tryd.prog.cellsOf 55)) = some y3 := g3
    replace g4 : DataW.trod enc Tryd.prog w base spare held m 3 (([c0, c1, c2, c3, c4, c5, c6].drop 6).take (Tryd.prog.cellsOf 3)) = some y4 := g4
    rw [cellsI] at g1 g4
    rw [cellsStrJ] at g0
    rw [cellsPc] at g2
    rw [cellsSRS] at g3
    obtain ⟨s0, hs0, _⟩ := str_of_trodA Tryd.underlying9 g0
    obtain ⟨kd, hkd⟩ := int_of_trod Tryd.underlying3 g1
    obtain ⟨al, hal⟩ := int_of_trod Tryd.underlying3 g4
    obtain ⟨wd, hi, L, ca, cc, hpc, hI, hN, hL⟩ := pic_trod g2
    have g3' := g3
    obtain ⟨oa, oc, O, ho, hO, hOl⟩ := spans_trod g3
    simp at hs0 hkd hal hpc
    simp only [List.drop_succ_cons, List.drop_zero, List.take_succ_cons, List.take_zero] at g3'
    rw [ho] at g3'
    have hon := spans_nil g3'
    obtain ⟨p1, p2, p3⟩ := hpc
    exact ⟨(⟨s0, kd, wd, hi, L, O, al⟩, ⟨ca, cc, oa, oc⟩), by simp [vT, valT, hs0, hkd, p1, p2, p3, ho, hal], ⟨hI, hN, hO, hon⟩, hL, hOl⟩
set_option maxRecDepth 100000 in
theorem tools_came {r : Reach} {b0 : Nat} {v : Value} {d : DataW H} {ps : List MemPlace} (hval : Value.okWide Tryd.prog w r b0 44 v) (hd : DataW.Trod enc Tryd.prog w base spare held 44 v d ps) : ∃ (ad : Option Addr) (c : Nat) (l : List TT), v = .slice ad l.length c ∧ TtCame w ad l ∧ l.length ≤ 9223372036854775807 ∧ ∀ x ∈ l, x.2.Ok w x.1 := by
  obtain ⟨a0, len, cap, rfl⟩ := okWide_slice Tryd.underlying44 hval
  obtain ⟨fuel, h⟩ := hd
  rcases DataW.trod_slice Tryd.underlying44 h with ⟨h0, _⟩ | ⟨a, len', cap', elems, rest, n, _, hcs, hx, hb, hl, hm, hlen, hel, _, _⟩
  · simp [Value.cells] at h0
    obtain ⟨rfl, rfl, rfl⟩ := h0
    exact ⟨none, 0, [], rfl, ⟨fun k hk => absurd hk (Nat.not_lt_zero k)⟩, by simp, (fun x hx => nomatch hx)⟩
  · simp [Value.cells] at hcs
    obtain ⟨rfl, rfl, rfl⟩ := hcs
    have each : ∀ i, i < len → ∃ x : TT, ∃ b off, a = ⟨b, off, none⟩ ∧ TtC w b (off + i * 7) x ∧ x.2.Ok w x.1 := by
      intro i hi
      have h1 := hel i hi
      have h2 : elems[i]? = some (elems[i]'(by omega)) := by simp
      rw [h2, cellsTT, Option.bind_eq_some_iff] at h1
      obtain ⟨cs', hcs, hy'⟩ := h1
      obtain ⟨x, rfl, hxo, _⟩ := tt_of_trod hy'
      obtain ⟨_, _, hcell⟩ := World.cells?_some hcs
      have h1' := hel 0 (by omega)
      have h2' : elems[0]? = some (elems[0]'(by omega)) := by simp
      rw [h2', cellsTT, Option.bind_eq_some_iff] at h1'
      obtain ⟨cs2, hcs2, hy2⟩ := h1'
      obtain ⟨x2, rfl, _⟩ := tt_of_trod hy2
      obtain ⟨_, _, hcell2⟩ := World.cells?_some hcs2
      obtain ⟨b, off, spot⟩ := a
      have hspot : spot = none := by
        have q : w.cell? (((⟨b, off, spot⟩ : Addr).add (0 * 7)).add 0) = some (.string x2.1.nm) := hcell2 0 (by omega)
        have := World.cell?_spot q
        simpa [Addr.add] using this
      subst hspot
      rw [add_pl2] at hcell
      refine ⟨x, b, off, rfl, TtC.of (fun m hm => ?_), hxo⟩
      have := hcell m (by omega)
      rw [add_pl2] at this
      exact this
    have hget : ∀ k, (hk2 : k < len) → ((List.range len).map fun i => if h : i < len then Classical.choose (each i h) else tt0).getD k tt0 = Classical.choose (each k hk2) := fun k hk2 => by
      simp [List.getD, hk2]
    refine ⟨some a, cap, (List.range len).map fun i => if h : i < len then Classical.choose (each i h) else tt0, ?_, ⟨fun k hk => ?_⟩, ?_, fun x hx => ?_⟩
    · simp
    · have hk2 : k < len := by simpa using hk
      rw [hget k hk2]
      obtain ⟨b, off, e1, hat, _⟩ := Classical.choose_spec (each k hk2)
      exact ⟨b, off, by rw [e1], lt_of_cell hat.c0, hat⟩
    · unfold maxLen at hm
      simp only [List.length_map, List.length_range]
      omega
    · obtain ⟨i, hi, rfl⟩ := List.mem_map.1 hx
      have hi : i < len := by simpa using hi
      rw [dif_pos hi]
      obtain ⟨b, off, e1, _, ho⟩ := Classical.choose_spec (each i hi)
      exact ho
end
end Go.Proofs.YtoacdaemhcbbhaaDoor
