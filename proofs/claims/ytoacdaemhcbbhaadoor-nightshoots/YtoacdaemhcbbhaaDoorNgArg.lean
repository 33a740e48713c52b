/-
  Jobs that came in.
-/
import Derived.Test.YtoacdaemhcbbhaaDoorNgJ
import Derived.ProofKit
import Derived.OpenShut
import Derived.ChangeSlices
import Derived.Carry
namespace Go.Proofs.YtoacdaemhcbbhaaDoor
open Go Go.ChangeShapes Go.WideShapes Go.ChangeAt Go.RowKit

theorem cellsI : Tryd.prog.cellsOf 3 = 1 := by kernel_rfl
theorem cellsRS : Tryd.prog.cellsOf 87 = 2 := by kernel_rfl
theorem cellsSRS : Tryd.prog.cellsOf 55 = 1 := by kernel_rfl
theorem cellsStrJ : Tryd.prog.cellsOf 9 = 1 := by kernel_rfl
theorem cellsRJ : Tryd.prog.cellsOf 74 = 4 := by kernel_rfl
section
variable {H : Type} {enc : TypeId × Value → H} {w : World} {base : Nat} {spare : Nat → Bool} {held : Bool}
theorem int_of_trod {P : Program} {e : TypeId} {n : Nat} {cs : List Value} {y : DataW H × List MemPlace} (he : P.underlying e = some (.int .i64)) (h : DataW.trod enc P w base spare held n e cs = some y) : ∃ b, cs = [.int .i64 b] := by
  cases n with
  | zero => simp [DataW.trod] at h
  | succ n =>
    unfold DataW.trod at h
    rw [he] at h
    split at h
    all_goals try (rename_i e1; cases e1)
    all_goals try (rename_i e1 e2; cases e1)
    all_goals try cases h
    · split at h
      · exact ⟨_, rfl⟩
      · cases h
theorem lt_of_cell {b o : Nat} {u : Value} (h : w.cell? ⟨b, o, none⟩ = some u) : b < w.heap.size := by
  rcases Nat.lt_or_ge b w.heap.size with k | k
  · exact k
  · simp [World.cell?, Array.getElem?_eq_none k] at h
theorem str_of_trodA {P : Program} {e : TypeId} {n : Nat} {cs : List Value} {y : DataW H × List MemPlace} (he : P.underlying e = some .string) (h : DataW.trod enc P w base spare held n e cs = some y) : ∃ s : ByteArray, cs = [.string s] ∧ y.1 = .lit (.string s.data.toList) := by
  cases n with
  | zero => simp [DataW.trod] at h
  | succ n =>
    unfold DataW.trod at h
    rw [he] at h
    split at h
    all_goals try (rename_i e1; cases e1)
    all_goals try (rename_i e1 e2; cases e1)
    all_goals try cases h
    all_goals
      split at h
      · cases h
        exact ⟨_, rfl, rfl⟩
      · cases h
set_option maxRecDepth 100000 in
theorem sp_of_trod {n : Nat} {cs : List Value} {y : DataW H × List MemPlace} (h : DataW.trod enc Tryd.prog w base spare held n 87 cs = some y) : ∃ s : Spn, cs = valSp s := by
  obtain ⟨xs, m, _, _, hl, hlen, hf⟩ := DataW.trod_struct Tryd.underlying87 h
  rw [cellsRS] at hl
  match cs, hl with
  | [c0, c1], _ =>
    have hx : ∀ i, i < 2 → ∃ yy, xs[i]? = some yy := fun i hi => by
      have : i < xs.length := by rw [hlen]; simpa using hi
      exact ⟨_, List.getElem?_eq_getElem this⟩
    have g0 := hf 0 _ rfl
    have g1 := hf 1 _ rfl
    obtain ⟨y0, e0⟩ := hx 0 (by omega)
    obtain ⟨y1, e1⟩ := hx 1 (by omega)
    rw [e0] at g0
    rw [e1] at g1
    replace g0 : DataW.trod enc Tryd.prog w base spare held m 3 (([c0, c1].drop 0).take (Tryd.prog.cellsOf 3)) = some y0 := g0
    replace g1 : DataW.trod enc Tryd.prog w base spare held m 3 (([c0, c1].drop 1).take (Tryd.prog.cellsOf 3)) = some y1 := g1
    rw [cellsI] at g0 g1
    obtain ⟨p, hp⟩ := int_of_trod Tryd.underlying3 g0
    obtain ⟨q, hq⟩ := int_of_trod Tryd.underlying3 g1
    simp at hp hq
    exact ⟨⟨p, q⟩, by simp [valSp, hp, hq]⟩
set_option maxRecDepth 100000 in
theorem spans_trod {fuel : Nat} {c : Value} {y : DataW H × List MemPlace} (h : DataW.trod enc Tryd.prog w base spare held fuel 55 [c] = some y) : ∃ (ad : Option Addr) (cap : Nat) (L : List Spn), c = .slice ad L.length cap ∧ SpCame w ad L ∧ L.length ≤ 9223372036854775807 := by
  rcases DataW.trod_slice Tryd.underlying55 h with ⟨h0, _⟩ | ⟨a, len, cap, elems, rest, n, _, hcs, hx, hb, hl, hm, hlen, hel, _, _⟩
  · simp at h0
    subst h0
    exact ⟨none, 0, [], rfl, SpCame.nil _ _, by simp⟩
  · simp at hcs
    subst hcs
    have each : ∀ i, i < len → ∃ s : Spn, ∃ b off, a = ⟨b, off, none⟩ ∧ SpAt w b (off + i * 2) s := by
      intro i hi
      have h1 := hel i hi
      have h2 : elems[i]? = some (elems[i]'(by omega)) := by simp
      rw [h2, cellsRS, Option.bind_eq_some_iff] at h1
      obtain ⟨cs', hcs, hy'⟩ := h1
      obtain ⟨s, rfl⟩ := sp_of_trod hy'
      obtain ⟨_, _, hcell⟩ := World.cells?_some hcs
      have h1' := hel 0 (by omega)
      have h2' : elems[0]? = some (elems[0]'(by omega)) := by simp
      rw [h2', cellsRS, Option.bind_eq_some_iff] at h1'
      obtain ⟨cs2, hcs2, hy2⟩ := h1'
      obtain ⟨s2, rfl⟩ := sp_of_trod hy2
      obtain ⟨_, _, hcell2⟩ := World.cells?_some hcs2
      obtain ⟨b, off, spot⟩ := a
      have hspot : spot = none := by
        have q : w.cell? (((⟨b, off, spot⟩ : Addr).add (0 * 2)).add 0) = some (.int .i64 s2.f) := hcell2 0 (by omega)
        have := World.cell?_spot q
        simpa [Addr.add] using this
      subst hspot
      rw [add_pl2] at hcell
      refine ⟨s, b, off, rfl, Spat_of (fun m hm => ?_)⟩
      have := hcell m (by omega)
      rw [add_pl2] at this
      exact this
    refine ⟨some a, cap, (List.range len).map fun i => if h : i < len then Classical.choose (each i h) else sp0, ?_, ⟨fun k hk => ?_⟩, ?_⟩
    · simp
    · have hk2 : k < len := by simpa using hk
      have e : ((List.range len).map fun i => if h : i < len then Classical.choose (each i h) else sp0).getD k sp0 = Classical.choose (each k hk2) := by
        simp [List.getD, hk2]
      rw [e]
      obtain ⟨b, off, e1, hat⟩ := Classical.choose_spec (each k hk2)
      exact ⟨b, off, by rw [e1], lt_of_cell hat.c0, hat⟩
    · unfold maxLen at hm
      simp only [List.length_map, List.length_range]
      omega
set_option maxRecDepth 100000 in
theorem jb_of_trod {n : Nat} {cs : List Value} {y : DataW H × List MemPlace} (h : DataW.trod enc Tryd.prog w base spare held n 74 cs = some y) :
    ∃ (j : Jb) (ad : Option Addr) (cap : Nat), cs = [.string j.nm, .slice ad j.ws.length cap, .int .i64 j.lo, .int .i64 j.wo] ∧ SpCame w ad j.ws ∧ j.ws.length ≤ 9223372036854775807 := by
  obtain ⟨xs, m, _, hx, hl, hlen, hf⟩ := DataW.trod_struct Tryd.underlying74 h
  rw [cellsRJ] at hl
  match cs, hl with
  | [c0, c1, c2, c3], _ =>
    have hxx : ∀ i, i < 4 → ∃ yy, xs[i]? = some yy := fun i hi => by
      have : i < xs.length := by rw [hlen]; simpa using hi
      exact ⟨_, List.getElem?_eq_getElem this⟩
    have g0 := hf 0 _ rfl
    have g1 := hf 1 _ rfl
    have g2 := hf 2 _ rfl
    have g3 := hf 3 _ rfl
    obtain ⟨y0, e0⟩ := hxx 0 (by omega)
    obtain ⟨y1, e1⟩ := hxx 1 (by omega)
    obtain ⟨y2, e2⟩ := hxx 2 (by omega)
    obtain ⟨y3, e3⟩ := hxx 3 (by omega)
    rw [e0] at g0
    rw [e1] at g1
    rw [e2] at g2
    rw [e3] at g3
    replace g0 : DataW.trod enc Tryd.prog w base spare held m 9 (([c0, c1, c2, c3].drop 0).take (Tryd.prog.cellsOf 9)) = some y0 := g0
    replace g1 : DataW.trod enc Tryd.prog w base spare held m 55 (([c0, c1, c2, c3].drop 1).take (Tryd.prog.cellsOf 55)) = some y1 := g1
    replace g2 : DataW.trod enc Tryd.prog w base spare held m 3 (([c0, c1, c2, c3].drop 2).take (Tryd.prog.cellsOf 3)) = some y2 := g2
    replace g3 : DataW.trod enc Tryd.prog w base spare held m 3 (([c0, c1, c2, c3].drop 3).take (Tryd.prog.cellsOf 3)) = some y3 := g3
    rw [cellsI] at g2 g3
    rw [cellsStrJ] at g0
    rw [cellsSRS] at g1
    obtain ⟨s0, hs0, _⟩ := str_of_trodA Tryd.underlying9 g0
    obtain ⟨lo, hlo⟩ := int_of_trod Tryd.underlying3 g2
    obtain ⟨wo, hwo⟩ := int_of_trod Tryd.underlying3 g3
    obtain ⟨ad, cap, L, hc, hS, hL⟩ := spans_trod g1
    simp at hs0 hlo hwo
    exact ⟨⟨s0, L, lo, wo⟩, ad, cap, by rw [hs0, hlo, hwo, hc], hS, hL⟩
set_option maxRecDepth 100000 in
theorem jobs_came {r : Reach} {b0 : Nat} {v : Value} {d : DataW H} {ps : List MemPlace} (hval : Value.okWide Tryd.prog w r b0 22 v) (hd : DataW.Trod enc Tryd.prog w base spare held 22 v d ps) : ∃ (ad : Option Addr) (c : Nat) (l : List Jb), v = .slice ad l.length c ∧ JbCame w ad l ∧ l.length ≤ 9223372036854775807 ∧ ∀ k, k < l.length → (l.getD k jb0).ws.length ≤ 9223372036854775807 := by
  obtain ⟨a0, len, cap, rfl⟩ := okWide_slice Tryd.underlying22 hval
  obtain ⟨fuel, h⟩ := hd
  rcases DataW.trod_slice Tryd.underlying22 h with ⟨h0, _⟩ | ⟨a, len', cap', elems, rest, n, _, hcs, hx, hb, hl, hm, hlen, hel, _, _⟩
  · simp [Value.cells] at h0
    obtain ⟨rfl, rfl, rfl⟩ := h0
    exact ⟨none, 0, [], rfl, ⟨fun k hk => absurd hk (Nat.not_lt_zero k)⟩, by simp, fun k hk => absurd hk (Nat.not_lt_zero k)⟩
  · simp [Value.cells] at hcs
    obtain ⟨rfl, rfl, rfl⟩ := hcs
    have each : ∀ i, i < len → ∃ j : Jb, ∃ b off, a = ⟨b, off, none⟩ ∧ JbAt w b (off + i * 4) j ∧ j.ws.length ≤ 9223372036854775807 := by
      intro i hi
      have h1 := hel i hi
      have h2 : elems[i]? = some (elems[i]'(by omega)) := by simp
      rw [h2, cellsRJ, Option.bind_eq_some_iff] at h1
      obtain ⟨cs', hcs, hy'⟩ := h1
      obtain ⟨j, adk, capk, rfl, hrow, hpl⟩ := jb_of_trod hy'
      obtain ⟨_, _, hcell⟩ := World.cells?_some hcs
      have h1' := hel 0 (by omega)
      have h2' : elems[0]? = some (elems[0]'(by omega)) := by simp
      rw [h2', cellsRJ, Option.bind_eq_some_iff] at h1'
      obtain ⟨cs2, hcs2, hy2⟩ := h1'
      obtain ⟨p2, ad2, cap2, rfl, _, _⟩ := jb_of_trod hy2
      obtain ⟨_, _, hcell2⟩ := World.cells?_some hcs2
      obtain ⟨b, off, spot⟩ := a
      have hspot : spot = none := by
        have q : w.cell? (((⟨b, off, spot⟩ : Addr).add (0 * 4)).add 0) = some (.string p2.nm) := hcell2 0 (by omega)
        have := World.cell?_spot q
        simpa [Addr.add] using this
      subst hspot
      rw [add_pl2] at hcell
      have hq : ∀ m, m < 4 → w.cell? ⟨b, off + i * 4 + m, none⟩ = ([.string j.nm, .slice adk j.ws.length capk, .int .i64 j.lo, .int .i64 j.wo] : List Value)[m]? := fun m hm => by
        have := hcell m (by omega)
        rw [add_pl2] at this
        exact this
      exact ⟨j, b, off, rfl, ⟨hq 0 (by decide), ⟨adk, capk, hq 1 (by decide), hrow⟩, hq 2 (by decide), hq 3 (by decide)⟩, hpl⟩
    have hget : ∀ k, (hk2 : k < len) → ((List.range len).map fun i => if h : i < len then Classical.choose (each i h) else jb0).getD k jb0 = Classical.choose (each k hk2) := fun k hk2 => by
      simp [List.getD, hk2]
    refine ⟨some a, cap, (List.range len).map fun i => if h : i < len then Classical.choose (each i h) else jb0, ?_, ⟨fun k hk => ?_⟩, ?_, fun k hk => ?_⟩
    · simp
    · have hk2 : k < len := by simpa using hk
      rw [hget k hk2]
      obtain ⟨b, off, e1, hat, hpl⟩ := Classical.choose_spec (each k hk2)
      exact ⟨b, off, by rw [e1], lt_of_cell hat.c0, hat⟩
    · unfold maxLen at hm
      simp only [List.length_map, List.length_range]
      omega
    · have hk2 : k < len := by simpa using hk
      rw [hget k hk2]
      obtain ⟨b, off, e1, hat, hpl⟩ := Classical.choose_spec (each k hk2)
      exact hpl
end
end Go.Proofs.YtoacdaemhcbbhaaDoor
