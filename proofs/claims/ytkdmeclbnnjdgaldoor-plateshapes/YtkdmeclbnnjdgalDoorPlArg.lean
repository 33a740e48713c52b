/-
  Rows of points and shapes that came in.
-/
import Derived.Test.YtkdmeclbnnjdgalDoorPlRw
import Derived.ProofKit
import Derived.OpenShut
import Derived.ChangeSlices
import Derived.Carry
namespace Go.Proofs.YtkdmeclbnnjdgalDoor
open Go Go.ChangeShapes Go.WideShapes Go.ChangeAt Go.RowKit

theorem cell_int4 {P : Program} {w : World} {r : Reach} {base : Nat} {t : TypeId} {c : Value} (ht : P.underlying t = some (.int .i64)) (h : Cell.okWide P w r base t c) : ∃ b, c = .int .i64 b := by
  simp only [Cell.okWide, ht] at h
  cases c <;> simp_all [Cell.ok]
theorem shp_cells : Tryd.prog.cellsOf 36 = 4 := by kernel_rfl
theorem shp_types : Tryd.prog.cellTypes Tryd.prog.depth 36 = some [3, 3, 3, 3] := by kernel_rfl
set_option maxRecDepth 100000 in
theorem shape_came {w : World} {r : Reach} {base : Nat} {v : Value} {X : Prop} (h : Value.okWide Tryd.prog w r base 36 v) (_ : X) : ∃ s : Shp, v = s.val := by
  have hu : ∃ fs, Tryd.prog.underlying 36 = some (.struct fs) := ⟨_, Tryd.underlying36⟩
  obtain ⟨fs, ht⟩ := hu
  simp only [Value.okWide, ht] at h
  obtain ⟨cs, rfl, h1, ts, h2, _, h4⟩ := h
  rw [shp_types] at h2
  cases h2
  rw [shp_cells] at h1
  have g : ∀ i, i < 4 → ∃ b, cs[i]? = some (.int .i64 b) := by
    intro i hi
    have hs : i < cs.size := by omega
    obtain ⟨u, hu, hk⟩ := h4 i cs[i] (by simp [hs])
    have : u = 3 := by
      rcases (show i = 0 ∨ i = 1 ∨ i = 2 ∨ i = 3 by omega) with rfl | rfl | rfl | rfl <;> simpa using hu.symm
    subst this
    obtain ⟨b, hb⟩ := cell_int4 Tryd.underlying3 hk
    exact ⟨b, by simp [hs, hb]⟩
  obtain ⟨x0, e0⟩ := g 0 (by omega)
  obtain ⟨x1, e1⟩ := g 1 (by omega)
  obtain ⟨x2, e2⟩ := g 2 (by omega)
  obtain ⟨x3, e3⟩ := g 3 (by omega)
  refine ⟨⟨x0, x1, x2, x3⟩, ?_⟩
  unfold Shp.val
  congr 1
  apply Array.ext_getElem?
  intro i
  rcases (show i = 0 ∨ i = 1 ∨ i = 2 ∨ i = 3 ∨ 4 ≤ i by omega) with rfl | rfl | rfl | rfl | hi
  · rw [e0]; rfl
  · rw [e1]; rfl
  · rw [e2]; rfl
  · rw [e3]; rfl
  · rw [Array.getElem?_eq_none (by omega), Array.getElem?_eq_none (by simp; omega)]
theorem cellsIn : Tryd.prog.cellsOf 3 = 1 := by kernel_rfl
theorem cellsPt : Tryd.prog.cellsOf 40 = 3 := by kernel_rfl
def valPt (s : Pt) : List Value := [.int .i64 s.x, .int .i64 s.y, .int .i64 s.z]
theorem ptat_of {w : World} {b o : Nat} {s : Pt} (h : ∀ i, i < 3 → w.cell? ⟨b, o + i, none⟩ = (valPt s)[i]?) : PtAt w b o s := ⟨h 0 (by omega), h 1 (by omega), h 2 (by omega)⟩
theorem add_pl3 (b o k : Nat) : (⟨b, o, none⟩ : Addr).add k = ⟨b, o + k, none⟩ := by simp [Addr.add]
section
variable {H : Type} {enc : TypeId × Value → H} {w : World} {base : Nat} {spare : Nat → Bool} {held : Bool}
theorem int_of_trod {P : Program} {e : TypeId} {n : Nat} {cs : List Value} {y : DataW H × List MemPlace} (he : P.underlying e = some (.int .i64)) (h : DataW.trod enc P w base spare held n e cs = some y) : ∃ b, cs = [.int .i64 b] := by
  cases n with
  | zero => simp [DataW.trod] at h
  | succ n =>
    unfold DataW.trod at h
    rw [he] at h
    split at h
    all_goals try (rename_i e1; cases e1)
    all_goals try (rename_i e1 e2; cases e1)
    all_goals try cases h
    · split at h
      · exact ⟨_, rfl⟩
      · cases h
theorem lt_of_cellT {b o : Nat} {u : Value} (h : w.cell? ⟨b, o, none⟩ = some u) : b < w.heap.size := by
  rcases Nat.lt_or_ge b w.heap.size with k | k
  · exact k
  · simp [World.cell?, Array.getElem?_eq_none k] at h
set_option maxRecDepth 100000 in
theorem pt_of_trod {n : Nat} {cs : List Value} {y : DataW H × List MemPlace} (h : DataW.trod enc Tryd.prog w base spare held n 40 cs = some y) : ∃ s : Pt, cs = valPt s := by
  obtain ⟨xs, m, _, _, hl, hlen, hf⟩ := DataW.trod_struct Tryd.underlying40 h
  rw [cellsPt] at hl
  match cs, hl with
  | [c0, c1, c2], _ =>
    have hx : ∀ i, i < 3 → ∃ yy, xs[i]? = some yy := fun i hi => by
      have : i < xs.length := by rw [hlen]; simpa using hi
      exact ⟨_, List.getElem?_eq_getElem this⟩
    have g0 := hf 0 _ rfl
    have g1 := hf 1 _ rfl
    have g2 := hf 2 _ rfl
    obtain ⟨y0, e0⟩ := hx 0 (by omega)
    obtain ⟨y1, e1⟩ := hx 1 (by omega)
    obtain ⟨y2, e2⟩ := hx 2 (by omega)
    rw [e0] at g0
    rw [e1] at g1
    rw [e2] at g2
    replace g0 : DataW.trod enc Tryd.prog w base spare held m 3 (([c0, c1, c2].drop 0).take (Tryd.prog.cellsOf 3)) = some y0 := g0
    replace g1 : DataW.trod enc Tryd.prog w base spare held m 3 (([c0, c1, c2].drop 1).take (Tryd.prog.cellsOf 3)) = some y1 := g1
    replace g2 : DataW.trod enc Tryd.prog w base spare held m 3 (([c0, c1, c2].drop 2).take (Tryd.prog.cellsOf 3)) = some y2 := g2
    rw [cellsIn] at g0 g1 g2
    obtain ⟨p, hp⟩ := int_of_trod Tryd.underlying3 g0
    obtain ⟨q, hq⟩ := int_of_trod Tryd.underlying3 g1
    obtain ⟨r, hr⟩ := int_of_trod Tryd.underlying3 g2
    simp at hp hq hr
    exact ⟨⟨p, q, r⟩, by simp [valPt, hp, hq, hr]⟩
set_option maxRecDepth 100000 in
theorem cell_row_came {r : Reach} {b0 : Nat} {v : Value} {d : DataW H} {ps : List MemPlace} (hval : Value.okWide Tryd.prog w r b0 34 v) (hd : DataW.Trod enc Tryd.prog w base spare held 34 v d ps) : ∃ (ad : Option Addr) (c : Nat) (L : List Pt), v = .slice ad L.length c ∧ PtCame w ad L ∧ L.length ≤ 9223372036854775807 := by
  obtain ⟨a0, len, cap, rfl⟩ := okWide_slice Tryd.underlying34 hval
  obtain ⟨fuel, h⟩ := hd
  rcases DataW.trod_slice Tryd.underlying34 h with ⟨h0, _⟩ | ⟨a, len', cap', elems, rest, n, _, hcs, hx, hb, hl, hm, hlen, hel, _, _⟩
  · simp [Value.cells] at h0
    obtain ⟨rfl, rfl, rfl⟩ := h0
    exact ⟨none, 0, [], rfl, PtCame.nil _ _, by simp⟩
  · simp [Value.cells] at hcs
    obtain ⟨rfl, rfl, rfl⟩ := hcs
    have each : ∀ i, i < len → ∃ s : Pt, ∃ b off, a = ⟨b, off, none⟩ ∧ PtAt w b (off + i * 3) s := by
      intro i hi
      have h1 := hel i hi
      have h2 : elems[i]? = some (elems[i]'(by omega)) := by simp
      rw [h2, cellsPt, Option.bind_eq_some_iff] at h1
      obtain ⟨cs', hcs, hy'⟩ := h1
      obtain ⟨s, rfl⟩ := pt_of_trod hy'
      obtain ⟨_, _, hcell⟩ := World.cells?_some hcs
      have h1' := hel 0 (by omega)
      have h2' : elems[0]? = some (elems[0]'(by omega)) := by simp
      rw [h2', cellsPt, Option.bind_eq_some_iff] at h1'
      obtain ⟨cs2, hcs2, hy2⟩ := h1'
      obtain ⟨s2, rfl⟩ := pt_of_trod hy2
      obtain ⟨_, _, hcell2⟩ := World.cells?_some hcs2
      obtain ⟨b, off, spot⟩ := a
      have hspot : spot = none := by
        have q : w.cell? (((⟨b, off, spot⟩ : Addr).add (0 * 3)).add 0) = some (.int .i64 s2.x) := hcell2 0 (by omega)
        have := World.cell?_spot q
        simpa [Addr.add] using this
      subst hspot
      rw [add_pl3] at hcell
      refine ⟨s, b, off, rfl, ptat_of (fun m hm => ?_)⟩
      have := hcell m (by omega)
      rw [add_pl3] at this
      exact this
    refine ⟨some a, cap, (List.range len).map fun i => if h : i < len then Classical.choose (each i h) else pt0, ?_, ⟨fun k hk => ?_⟩, ?_⟩
    · simp
    · have hk2 : k < len := by simpa using hk
      have e : ((List.range len).map fun i => if h : i < len then Classical.choose (each i h) else pt0).getD k pt0 = Classical.choose (each k hk2) := by
        simp [List.getD, hk2]
      rw [e]
      obtain ⟨b, off, e1, hat⟩ := Classical.choose_spec (each k hk2)
      exact ⟨b, off, by rw [e1], lt_of_cellT hat.c0, hat⟩
    · simp only [List.length_map, List.length_range]
      unfold maxLen at hm
      omega
end
end Go.Proofs.YtkdmeclbnnjdgalDoor
