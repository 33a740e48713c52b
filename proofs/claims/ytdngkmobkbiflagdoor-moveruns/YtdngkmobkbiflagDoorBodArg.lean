/-
  Slices of bodies, and whole numbers, that came in.
-/
import Derived.Test.YtdngkmobkbiflagDoorStepW
import Derived.ProofKit
import Derived.OpenShut
import Derived.ChangeSlices
import Derived.Carry
namespace Go.Proofs.YtdngkmobkbiflagDoor
open Go.ChangeShapes Go.WideShapes Go.ChangeAt Go.RowKit

theorem okWide_int {P : Program} {w : World} {r : Reach} {base : Nat} {t : TypeId} {v : Value} (ht : P.underlying t = some (.int .i64)) (h : Value.okWide P w r base t v) : ∃ b, v = .int .i64 b := by
  simp only [Value.okWide, ht, Cell.okWide] at h
  cases v <;> simp_all [Cell.ok]
section
variable {H : Type} {enc : TypeId × Value → H} {P : Program} {w : World} {base : Nat} {spare : Nat → Bool} {held : Bool}
theorem int_of_trod {e : TypeId} {n : Nat} {cs : List Value} {y : DataW H × List MemPlace} (he : P.underlying e = some (.int .i64)) (h : DataW.trod enc P w base spare held n e cs = some y) : ∃ b, cs = [.int .i64 b] := by
  cases n with
  | zero => simp [DataW.trod] at h
  | succ n =>
    unfold DataW.trod at h
    rw [he] at h
    split at h
    all_goals try (rename_i e1; cases e1)
    all_goals try (rename_i e1 e2; cases e1)
    all_goals try cases h
    · split at h
      · exact ⟨_, rfl⟩
      · cases h
theorem cl_of_trod {t e : TypeId} {f0 f1 f2 : Field} {n : Nat} {cs : List Value} {y : DataW H × List MemPlace} (ht : P.underlying t = some (.struct #[f0, f1, f2])) (he : P.underlying e = some (.int .i64)) (hc : P.cellsOf e = 1) (h3 : P.cellsOf t = 3)
    (t0 : f0.type = e ∧ f0.offset = 0) (t1 : f1.type = e ∧ f1.offset = 1) (t2 : f2.type = e ∧ f2.offset = 2) (h : DataW.trod enc P w base spare held n t cs = some y) : ∃ p : Cl, cs = [.int .i64 p.x, .int .i64 p.y, .int .i64 p.z] := by
  obtain ⟨xs, m, _, _, hl, hlen, hf⟩ := DataW.trod_struct ht h
  rw [h3] at hl
  match cs, hl with
  | [c0, c1, c2], _ =>
    have g : ∀ i f, #[f0, f1, f2][i]? = some f → f.type = e → f.offset = i → i < 3 → ∃ b, [c0, c1, c2][i]? = some (.int .i64 b) := by
      intro i f hi h1 h2 h3
      have h5 := hf i f hi
      have h6 : ∃ yy, xs[i]? = some yy := by
        have : i < xs.length := by rw [hlen]; simpa using h3
        exact ⟨_, List.getElem?_eq_getElem this⟩
      obtain ⟨yy, hyy⟩ := h6
      rw [h1, h2, hc, hyy] at h5
      obtain ⟨b, hb⟩ := int_of_trod he h5
      refine ⟨b, ?_⟩
      rcases (show i = 0 ∨ i = 1 ∨ i = 2 by omega) with rfl | rfl | rfl <;> simpa using hb
    obtain ⟨a, ha⟩ := g 0 f0 rfl t0.1 t0.2 (by omega)
    obtain ⟨b, hb⟩ := g 1 f1 rfl t1.1 t1.2 (by omega)
    obtain ⟨c, hc⟩ := g 2 f2 rfl t2.1 t2.2 (by omega)
    simp at ha hb hc
    exact ⟨⟨a, b, c⟩, by simp [ha, hb, hc]⟩
theorem bd_of_trod {t c e : TypeId} {f0 f1 f2 k0 k1 k2 : Field} {n : Nat} {cs : List Value} {y : DataW H × List MemPlace} (ht : P.underlying t = some (.struct #[k0, k1, k2])) (hc : P.underlying c = some (.struct #[f0, f1, f2])) (he : P.underlying e = some (.int .i64)) (h1 : P.cellsOf e = 1) (h3 : P.cellsOf c = 3) (h7 : P.cellsOf t = 7)
    (t0 : f0.type = e ∧ f0.offset = 0) (t1 : f1.type = e ∧ f1.offset = 1) (t2 : f2.type = e ∧ f2.offset = 2) (u0 : k0.type = c ∧ k0.offset = 0) (u1 : k1.type = c ∧ k1.offset = 3) (u2 : k2.type = e ∧ k2.offset = 6) (h : DataW.trod enc P w base spare held n t cs = some y) : ∃ s : Bd, cs = valB s := by
  obtain ⟨xs, m, _, _, hl, hlen, hf⟩ := DataW.trod_struct ht h
  rw [h7] at hl
  match cs, hl with
  | [c0, c1, c2, c3, c4, c5, c6], _ =>
    have hx : ∀ i, i < 3 → ∃ yy, xs[i]? = some yy := fun i hi => by
      have : i < xs.length := by rw [hlen]; simpa using hi
      exact ⟨_, List.getElem?_eq_getElem this⟩
    have g0 := hf 0 k0 rfl
    have g1 := hf 1 k1 rfl
    have g2 := hf 2 k2 rfl
    obtain ⟨y0, e0⟩ := hx 0 (by omega)
    obtain ⟨y1, e1⟩ := hx 1 (by omega)
    obtain ⟨y2, e2⟩ := hx 2 (by omega)
    rw [u0.1, u0.2, h3, e0] at g0
    rw [u1.1, u1.2, h3, e1] at g1
    rw [u2.1, u2.2, h1, e2] at g2
    obtain ⟨p, hp⟩ := cl_of_trod hc he h1 h3 t0 t1 t2 g0
    obtain ⟨q, hq⟩ := cl_of_trod hc he h1 h3 t0 t1 t2 g1
    obtain ⟨b, hb⟩ := int_of_trod he g2
    simp at hp hq hb
    exact ⟨⟨p, q, b⟩, by simp [valB, hp, hq, hb]⟩
end
theorem cellsI : Tryd.prog.cellsOf 3 = 1 := by kernel_rfl
theorem cellsC : Tryd.prog.cellsOf 38 = 3 := by kernel_rfl
theorem cellsRB : Tryd.prog.cellsOf 44 = 7 := by kernel_rfl
theorem slice_has {P : Program} {w : World} {r : Reach} {base : Nat} {t e : TypeId} {a : Addr} {len cap : Nat} (ht : P.underlying t = some (.slice e)) (h : Value.okWide P w r base t (.slice (some a) len cap)) : a.spot = none ∧ a.block < w.heap.size := by
  simp only [Value.okWide, ht, Cell.okWide, Cell.ok] at h
  obtain ⟨_, _, _, hs, row, cells, hsh, _⟩ := h
  refine ⟨hs, ?_⟩
  rcases Nat.lt_or_ge a.block w.heap.size with h | h
  · exact h
  · simp [World.shape?, Array.getElem?_eq_none h] at hsh
section
variable {H : Type} {enc : TypeId × Value → H} {w : World} {base : Nat} {spare : Nat → Bool} {held : Bool}
theorem open_bodies {fuel b off len cap : Nat} {x : DataW H × List MemPlace} (h : DataW.trod enc Tryd.prog w base spare held fuel 22 [.slice (some ⟨b, off, none⟩) len cap] = some x) :
    len ≤ cap ∧ cap ≤ maxLen ∧ ∃ L : List Bd, L.length = len ∧ ∀ j, j < len → BAt w b (off + j * 7) (L.getD j bd0) := by
  rcases DataW.trod_slice Tryd.underlying22 h with ⟨h0, _⟩ | ⟨a', len', cap', elems, rest, n, _, hcs, rfl, hb, hl, hm, hlen, hel, _, _⟩
  · cases h0
  simp only [List.cons.injEq, Value.slice.injEq, Option.some.injEq, and_true] at hcs
  obtain ⟨rfl, rfl, rfl⟩ := hcs
  refine ⟨hl, hm, ?_⟩
  have each : ∀ i, i < len → ∃ s : Bd, BAt w b (off + i * 7) s := by
    intro i hi
    have h1 := hel i hi
    have h2 : elems[i]? = some (elems[i]'(by omega)) := by simp
    rw [h2, cellsRB, Option.bind_eq_some_iff] at h1
    obtain ⟨cs', hcs, hy'⟩ := h1
    obtain ⟨s, rfl⟩ := bd_of_trod Tryd.underlying44 Tryd.underlying38 Tryd.underlying3 cellsI cellsC cellsRB ⟨rfl, rfl⟩ ⟨rfl, rfl⟩ ⟨rfl, rfl⟩ ⟨rfl, rfl⟩ ⟨rfl, rfl⟩ ⟨rfl, rfl⟩ hy'
    obtain ⟨_, _, hcell⟩ := World.cells?_some hcs
    rw [add_pl] at hcell
    refine ⟨s, bat_of (fun m hm => ?_)⟩
    have := hcell m (by omega)
    rw [add_pl] at this
    exact this
  refine ⟨(List.range len).map fun i => if h : i < len then Classical.choose (each i h) else bd0, by simp, fun j hj => ?_⟩
  have e : ((List.range len).map fun i => if h : i < len then Classical.choose (each i h) else bd0).getD j bd0 = Classical.choose (each j hj) := by
    simp [List.getD, hj]
  rw [e]
  exact Classical.choose_spec (each j hj)
set_option maxRecDepth 100000 in
theorem bodies_came {fuel len cap base2 : Nat} {a0 : Option Addr} {r : Reach} {x : DataW H × List MemPlace} (hv : Value.okWide Tryd.prog w r base2 22 (.slice a0 len cap)) (h : DataW.trod enc Tryd.prog w base spare held fuel 22 [.slice a0 len cap] = some x) : ∃ L : List Bd, BSl w (.slice a0 len cap) L ∧ L.length ≤ 9223372036854775807 := by
  cases a0 with
  | none =>
    have hz : len = 0 ∧ cap = 0 := by
      rcases DataW.trod_slice Tryd.underlying22 h with ⟨h, _⟩ | ⟨a', len', cap', _, _, _, _, h, _⟩
      · simpa [Value.cells] using h
      · simp at h
    obtain ⟨rfl, rfl⟩ := hz
    exact ⟨[], .nil, by simp⟩
  | some ad =>
    obtain ⟨hsp, hbl⟩ := slice_has Tryd.underlying22 hv
    obtain ⟨b, off, spot⟩ := ad
    subst hsp
    obtain ⟨hc, hm, L, hL', hrow⟩ := open_bodies h
    unfold maxLen at hm
    subst hL'
    exact ⟨L, .row ⟨fun k hk => ⟨b, off, rfl, hbl, hrow k hk⟩⟩, by omega⟩
end
end Go.Proofs.YtdngkmobkbiflagDoor
