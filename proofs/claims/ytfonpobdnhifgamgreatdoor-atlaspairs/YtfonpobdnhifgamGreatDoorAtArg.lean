/-
  Rows of entries, cells of a level and directions that came in.
-/
import Derived.Test.YtfonpobdnhifgamGreatDoorAtIA
import Derived.ProofKit
import Derived.OpenShut
import Derived.ChangeSlices
import Derived.Carry
namespace Go.Proofs.YtfonpobdnhifgamGreatDoor
open Go Go.ChangeShapes Go.WideShapes Go.ChangeAt Go.RowKit

theorem cell_intA {P : Program} {w : World} {r : Reach} {base : Nat} {t : TypeId} {c : Value} (ht : P.underlying t = some (.int .i64)) (h : Cell.okWide P w r base t c) : ∃ b, c = .int .i64 b := by
  simp only [Cell.okWide, ht] at h
  cases c <;> simp_all [Cell.ok]
theorem rsq_cells : Tryz.prog.cellsOf 57 = 4 := by kernel_rfl
theorem rsq_types : Tryz.prog.cellTypes Tryz.prog.depth 57 = some [3, 3, 3, 3] := by kernel_rfl
set_option maxRecDepth 100000 in
theorem sq_came {w : World} {r : Reach} {base : Nat} {v : Value} {X : Prop} (h : Value.okWide Tryz.prog w r base 57 v) (_ : X) : ∃ s : Sq, v = s.val := by
  have hu : ∃ fs, Tryz.prog.underlying 57 = some (.struct fs) := ⟨_, Tryz.underlying57⟩
  obtain ⟨fs, ht⟩ := hu
  simp only [Value.okWide, ht] at h
  obtain ⟨cs, rfl, h1, ts, h2, _, h4⟩ := h
  rw [rsq_types] at h2
  cases h2
  rw [rsq_cells] at h1
  have g : ∀ i, i < 4 → ∃ b, cs[i]? = some (.int .i64 b) := by
    intro i hi
    have hs : i < cs.size := by omega
    obtain ⟨u, hu, hk⟩ := h4 i cs[i] (by simp [hs])
    have : u = 3 := by
      rcases (show i = 0 ∨ i = 1 ∨ i = 2 ∨ i = 3 by omega) with rfl | rfl | rfl | rfl <;> simpa using hu.symm
    subst this
    obtain ⟨b, hb⟩ := cell_intA Tryz.underlying3 hk
    exact ⟨b, by simp [hs, hb]⟩
  obtain ⟨x0, e0⟩ := g 0 (by omega)
  obtain ⟨x1, e1⟩ := g 1 (by omega)
  obtain ⟨x2, e2⟩ := g 2 (by omega)
  obtain ⟨x3, e3⟩ := g 3 (by omega)
  refine ⟨⟨x0, x1, x2, x3⟩, ?_⟩
  unfold Sq.val
  congr 1
  apply Array.ext_getElem?
  intro i
  rcases (show i = 0 ∨ i = 1 ∨ i = 2 ∨ i = 3 ∨ 4 ≤ i by omega) with rfl | rfl | rfl | rfl | hi
  · rw [e0]; rfl
  · rw [e1]; rfl
  · rw [e2]; rfl
  · rw [e3]; rfl
  · rw [Array.getElem?_eq_none (by omega), Array.getElem?_eq_none (by simp; omega)]
theorem cel_cells : Tryz.prog.cellsOf 24 = 3 := by kernel_rfl
theorem cel_types : Tryz.prog.cellTypes Tryz.prog.depth 24 = some [3, 3, 3] := by kernel_rfl
set_option maxRecDepth 100000 in
theorem dir_came {w : World} {r : Reach} {base : Nat} {v : Value} {X : Prop} (h : Value.okWide Tryz.prog w r base 24 v) (_ : X) : ∃ s : Dr, v = s.val := by
  have hu : ∃ fs, Tryz.prog.underlying 24 = some (.struct fs) := ⟨_, Tryz.underlying24⟩
  obtain ⟨fs, ht⟩ := hu
  simp only [Value.okWide, ht] at h
  obtain ⟨cs, rfl, h1, ts, h2, _, h4⟩ := h
  rw [cel_types] at h2
  cases h2
  rw [cel_cells] at h1
  have g : ∀ i, i < 3 → ∃ b, cs[i]? = some (.int .i64 b) := by
    intro i hi
    have hs : i < cs.size := by omega
    obtain ⟨u, hu, hk⟩ := h4 i cs[i] (by simp [hs])
    have : u = 3 := by
      rcases (show i = 0 ∨ i = 1 ∨ i = 2 by omega) with rfl | rfl | rfl <;> simpa using hu.symm
    subst this
    obtain ⟨b, hb⟩ := cell_intA Tryz.underlying3 hk
    exact ⟨b, by simp [hs, hb]⟩
  obtain ⟨x0, e0⟩ := g 0 (by omega)
  obtain ⟨x1, e1⟩ := g 1 (by omega)
  obtain ⟨x2, e2⟩ := g 2 (by omega)
  refine ⟨⟨x0, x1, x2⟩, ?_⟩
  unfold Dr.val
  congr 1
  apply Array.ext_getElem?
  intro i
  rcases (show i = 0 ∨ i = 1 ∨ i = 2 ∨ 3 ≤ i by omega) with rfl | rfl | rfl | hi
  · rw [e0]; rfl
  · rw [e1]; rfl
  · rw [e2]; rfl
  · rw [Array.getElem?_eq_none (by omega), Array.getElem?_eq_none (by simp; omega)]
theorem cellsInA : Tryz.prog.cellsOf 3 = 1 := by kernel_rfl
theorem cellsStA : Tryz.prog.cellsOf 9 = 1 := by kernel_rfl
theorem cellsEn : Tryz.prog.cellsOf 45 = 5 := by kernel_rfl
theorem bytesEn : Tryz.prog.bytesOf 45 = 48 := by kernel_rfl
theorem add_plA (b o k : Nat) : (⟨b, o, none⟩ : Addr).add k = ⟨b, o + k, none⟩ := by simp [Addr.add]
section
variable {H : Type} {enc : TypeId × Value → H} {w : World} {base : Nat} {spare : Nat → Bool} {held : Bool}
theorem int_of_trodA {P : Program} {e : TypeId} {n : Nat} {cs : List Value} {y : DataW H × List MemPlace} (he : P.underlying e = some (.int .i64)) (h : DataW.trod enc P w base spare held n e cs = some y) : ∃ b, cs = [.int .i64 b] := by
  cases n with
  | zero => simp [DataW.trod] at h
  | succ n =>
    unfold DataW.trod at h
    rw [he] at h
    split at h
    all_goals try (rename_i e1; cases e1)
    all_goals try (rename_i e1 e2; cases e1)
    all_goals try cases h
    · split at h
      · exact ⟨_, rfl⟩
      · cases h
theorem str_of_trodA {P : Program} {e : TypeId} {n : Nat} {cs : List Value} {y : DataW H × List MemPlace} (he : P.underlying e = some .string) (h : DataW.trod enc P w base spare held n e cs = some y) : ∃ s : ByteArray, cs = [.string s] ∧ y.1 = .lit (.string s.data.toList) := by
  cases n with
  | zero => simp [DataW.trod] at h
  | succ n =>
    unfold DataW.trod at h
    rw [he] at h
    split at h
    all_goals try (rename_i e1; cases e1)
    all_goals try (rename_i e1 e2; cases e1)
    all_goals try cases h
    all_goals
      split at h
      · cases h
        exact ⟨_, rfl, rfl⟩
      · cases h
theorem weights_allA {P : Program} {e : TypeId} : ∀ {l : List (DataW H)} {d : DataW H}, d ∈ l → ∀ n ∈ d.weights P e, n ∈ DataW.weightsAll P e l
  | d0 :: l, d, hd, n, hn => by
    simp only [DataW.weightsAll, List.mem_append]
    rcases List.mem_cons.1 hd with rfl | hd
    · exact .inl hn
    · exact .inr (weights_allA hd n hn)
theorem lt_of_cellA {b o : Nat} {u : Value} (h : w.cell? ⟨b, o, none⟩ = some u) : b < w.heap.size := by
  rcases Nat.lt_or_ge b w.heap.size with k | k
  · exact k
  · simp [World.cell?, Array.getElem?_eq_none k] at h
set_option maxRecDepth 100000 in
theorem dir_of_trod {n : Nat} {cs : List Value} {y : DataW H × List MemPlace} (h : DataW.trod enc Tryz.prog w base spare held n 24 cs = some y) : ∃ s : Dr, cs = [.int .i64 s.x, .int .i64 s.y, .int .i64 s.z] := by
  obtain ⟨xs, m, _, _, hl, hlen, hf⟩ := DataW.trod_struct Tryz.underlying24 h
  rw [cel_cells] at hl
  match cs, hl with
  | [c0, c1, c2], _ =>
    have hx : ∀ i, i < 3 → ∃ yy, xs[i]? = some yy := fun i hi => by
      have : i < xs.length := by rw [hlen]; simpa using hi
      exact ⟨_, List.getElem?_eq_getElem this⟩
    have g0 := hf 0 _ rfl
    have g1 := hf 1 _ rfl
    have g2 := hf 2 _ rfl
    obtain ⟨y0, e0⟩ := hx 0 (by omega)
    obtain ⟨y1, e1⟩ := hx 1 (by omega)
    obtain ⟨y2, e2⟩ := hx 2 (by omega)
    rw [e0] at g0
    rw [e1] at g1
    rw [e2] at g2
    replace g0 : DataW.trod enc Tryz.prog w base spare held m 3 (([c0, c1, c2].drop 0).take (Tryz.prog.cellsOf 3)) = some y0 := g0
    replace g1 : DataW.trod enc Tryz.prog w base spare held m 3 (([c0, c1, c2].drop 1).take (Tryz.prog.cellsOf 3)) = some y1 := g1
    replace g2 : DataW.trod enc Tryz.prog w base spare held m 3 (([c0, c1, c2].drop 2).take (Tryz.prog.cellsOf 3)) = some y2 := g2
    rw [cellsInA] at g0 g1 g2
    obtain ⟨p, hp⟩ := int_of_trodA Tryz.underlying3 g0
    obtain ⟨q, hq⟩ := int_of_trodA Tryz.underlying3 g1
    obtain ⟨r, hr⟩ := int_of_trodA Tryz.underlying3 g2
    simp at hp hq hr
    exact ⟨⟨p, q, r⟩, by simp [hp, hq, hr]⟩
set_option maxRecDepth 100000 in
theorem ent_of_trod {n : Nat} {cs : List Value} {y : DataW H × List MemPlace} (h : DataW.trod enc Tryz.prog w base spare held n 45 cs = some y) (hw : (y.1.weights Tryz.prog 45).all (· ≤ reachBytes) = true) : ∃ s : En, cs = valEn s ∧ s.nm.size ≤ 140737488355328 := by
  obtain ⟨xs, m, _, hx, hl, hlen, hf⟩ := DataW.trod_struct Tryz.underlying45 h
  rw [cellsEn] at hl
  match cs, hl with
  | [c0, c1, c2, c3, c4], _ =>
    have hxx : ∀ i, i < 3 → ∃ yy, xs[i]? = some yy := fun i hi => by
      have : i < xs.length := by rw [hlen]; simpa using hi
      exact ⟨_, List.getElem?_eq_getElem this⟩
    have g0 := hf 0 _ rfl
    have g1 := hf 1 _ rfl
    have g2 := hf 2 _ rfl
    obtain ⟨y0, e0⟩ := hxx 0 (by omega)
    obtain ⟨y1, e1⟩ := hxx 1 (by omega)
    obtain ⟨y2, e2⟩ := hxx 2 (by omega)
    rw [e0] at g0
    rw [e1] at g1
    rw [e2] at g2
    replace g0 : DataW.trod enc Tryz.prog w base spare held m 9 (([c0, c1, c2, c3, c4].drop 0).take (Tryz.prog.cellsOf 9)) = some y0 := g0
    replace g1 : DataW.trod enc Tryz.prog w base spare held m 24 (([c0, c1, c2, c3, c4].drop 1).take (Tryz.prog.cellsOf 24)) = some y1 := g1
    replace g2 : DataW.trod enc Tryz.prog w base spare held m 3 (([c0, c1, c2, c3, c4].drop 4).take (Tryz.prog.cellsOf 3)) = some y2 := g2
    rw [cellsStA] at g0
    rw [cel_cells] at g1
    rw [cellsInA] at g2
    obtain ⟨s0, hs0, hd0⟩ := str_of_trodA Tryz.underlying9 g0
    obtain ⟨dd, hdd⟩ := dir_of_trod g1
    obtain ⟨li, hli⟩ := int_of_trodA Tryz.underlying3 g2
    simp at hs0 hdd hli
    have hxs : xs = [y0, y1, y2] := by
      match xs, hlen, e0, e1, e2 with
      | [a0, a1, a2], _, e0, e1, e2 =>
        simp at e0 e1 e2
        rw [e0, e1, e2]
    rw [hx, hxs] at hw
    simp only [DataW.weights, Tryz.underlying45, DataW.weightsEach, List.map, hd0, List.all_append, List.all_cons, Bool.and_eq_true, decide_eq_true_eq] at hw
    have l0 : s0.data.toList.length = s0.size := Array.length_toList
    have w0 := hw.1.1
    unfold reachBytes at w0
    exact ⟨⟨s0, dd, li⟩, by simp [valEn, hs0, hdd, hli], by show s0.size ≤ _; omega⟩
set_option maxRecDepth 100000 in
theorem ents_came {r : Reach} {b0 : Nat} {v : Value} {d : DataW H} {ps : List MemPlace} (hval : Value.okWide Tryz.prog w r b0 22 v) (hd : DataW.Trod enc Tryz.prog w base spare held 22 v d ps)
    (hw : (d.weights Tryz.prog 22).all (· ≤ reachBytes) = true) : ∃ (ad : Option Addr) (c : Nat) (L : List En), v = .slice ad L.length c ∧ EnCame w ad L ∧ L.length ≤ 140737488355328 ∧ (∀ k, k < L.length → (L.getD k en0).nm.size ≤ 140737488355328) := by
  obtain ⟨a0, len, cap, rfl⟩ := okWide_slice Tryz.underlying22 hval
  obtain ⟨fuel, h⟩ := hd
  rcases DataW.trod_slice Tryz.underlying22 h with ⟨h0, _⟩ | ⟨a, len', cap', elems, rest, n, _, hcs, hx, hb, hl, hm, hlen, hel, _, _⟩
  · simp [Value.cells] at h0
    obtain ⟨rfl, rfl, rfl⟩ := h0
    exact ⟨none, 0, [], rfl, EnCame.nil _ _, by simp, fun k hk => absurd hk (Nat.not_lt_zero k)⟩
  · simp [Value.cells] at hcs
    obtain ⟨rfl, rfl, rfl⟩ := hcs
    rw [Prod.mk.injEq] at hx
    rw [hx.1] at hw
    simp only [DataW.weights, Tryz.underlying22, bytesEn, List.all_cons, Bool.and_eq_true, decide_eq_true_eq, List.length_map, List.all_append] at hw
    obtain ⟨hq, hwe, _⟩ := hw
    have hwi : ∀ i (hi : i < elems.length), ((elems[i]).1.weights Tryz.prog 45).all (· ≤ reachBytes) = true := fun i hi => by
      rw [List.all_eq_true]
      intro m hmm
      exact List.all_eq_true.1 hwe m (weights_allA (List.mem_map.2 ⟨elems[i], List.getElem_mem hi, rfl⟩) m hmm)
    have each : ∀ i, i < len → ∃ s : En, ∃ b off, a = ⟨b, off, none⟩ ∧ EnAt w b (off + i * 5) s ∧ s.nm.size ≤ 140737488355328 := by
      intro i hi
      have h1 := hel i hi
      have h2 : elems[i]? = some (elems[i]'(by omega)) := by simp
      rw [h2, cellsEn, Option.bind_eq_some_iff] at h1
      obtain ⟨cs', hcs, hy'⟩ := h1
      obtain ⟨s, rfl, hsz⟩ := ent_of_trod hy' (hwi i (by omega))
      obtain ⟨_, _, hcell⟩ := World.cells?_some hcs
      have h1' := hel 0 (by omega)
      have h2' : elems[0]? = some (elems[0]'(by omega)) := by simp
      rw [h2', cellsEn, Option.bind_eq_some_iff] at h1'
      obtain ⟨cs2, hcs2, hy2⟩ := h1'
      obtain ⟨s2, rfl, _⟩ := ent_of_trod hy2 (hwi 0 (by omega))
      obtain ⟨_, _, hcell2⟩ := World.cells?_some hcs2
      obtain ⟨b, off, spot⟩ := a
      have hspot : spot = none := by
        have q : w.cell? (((⟨b, off, spot⟩ : Addr).add (0 * 5)).add 0) = some (.string s2.nm) := hcell2 0 (by omega)
        have := World.cell?_spot q
        simpa [Addr.add] using this
      subst hspot
      rw [add_plA] at hcell
      refine ⟨s, b, off, rfl, Enat_of (fun m hm => ?_), hsz⟩
      have := hcell m (by omega)
      rw [add_plA] at this
      exact this
    refine ⟨some a, cap, (List.range len).map fun i => if h : i < len then Classical.choose (each i h) else en0, ?_, ⟨fun k hk => ?_⟩, ?_, fun k hk => ?_⟩
    · simp
    · have hk2 : k < len := by simpa using hk
      have e : ((List.range len).map fun i => if h : i < len then Classical.choose (each i h) else en0).getD k en0 = Classical.choose (each k hk2) := by
        simp [List.getD, hk2]
      rw [e]
      obtain ⟨b, off, e1, hat, _⟩ := Classical.choose_spec (each k hk2)
      exact ⟨b, off, by rw [e1], lt_of_cellA hat.c0, hat⟩
    · unfold reachBytes at hq
      simp only [List.length_map, List.length_range]
      omega
    · have hk2 : k < len := by simpa using hk
      have e : ((List.range len).map fun i => if h : i < len then Classical.choose (each i h) else en0).getD k en0 = Classical.choose (each k hk2) := by
        simp [List.getD, hk2]
      rw [e]
      obtain ⟨b, off, e1, _, hs⟩ := Classical.choose_spec (each k hk2)
      exact hs
end
end Go.Proofs.YtfonpobdnhifgamGreatDoor
