/-
  Cards and numbers that came in.
-/
import Derived.Test.YtncbmkflilcdgaiGreatDoorFfCar
import Derived.Test.YtncbmkflilcdgaiGreatDoorFrArg0
namespace Go.Proofs.YtncbmkflilcdgaiGreatDoor
open Go Go.ChangeShapes Go.WideShapes Go.ChangeAt Go.RowKit

theorem cellsSt : Tryz.prog.cellsOf 9 = 1 := by kernel_rfl
theorem cellsCrd : Tryz.prog.cellsOf 57 = 2 := by kernel_rfl
theorem bytesCrd : Tryz.prog.bytesOf 57 = 32 := by kernel_rfl
section
variable {H : Type} {enc : TypeId × Value → H} {w : World} {base : Nat} {spare : Nat → Bool} {held : Bool}
theorem str_of_trod {P : Program} {e : TypeId} {n : Nat} {cs : List Value} {y : DataW H × List MemPlace} (he : P.underlying e = some .string) (h : DataW.trod enc P w base spare held n e cs = some y) : ∃ s : ByteArray, cs = [.string s] ∧ y.1 = .lit (.string s.data.toList) := by
  cases n with
  | zero => simp [DataW.trod] at h
  | succ n =>
    unfold DataW.trod at h
    rw [he] at h
    split at h
    all_goals try (rename_i e1; cases e1)
    all_goals try (rename_i e1 e2; cases e1)
    all_goals try cases h
    all_goals
      split at h
      · cases h
        exact ⟨_, rfl, rfl⟩
      · cases h
set_option maxRecDepth 100000 in
theorem crd_of_trod {n : Nat} {cs : List Value} {y : DataW H × List MemPlace} (h : DataW.trod enc Tryz.prog w base spare held n 57 cs = some y) (hw : (y.1.weights Tryz.prog 57).all (· ≤ reachBytes) = true) :
    ∃ c : CrdS, cs = [.string c.name, .string c.value] ∧ c.name.size ≤ 140737488355328 ∧ c.value.size ≤ 140737488355328 := by
  obtain ⟨xs, m, _, hx, hl, hlen, hf⟩ := DataW.trod_struct Tryz.underlying57 h
  rw [cellsCrd] at hl
  match cs, hl with
  | [c0, c1], _ =>
    have hxx : ∀ i, i < 2 → ∃ yy, xs[i]? = some yy := fun i hi => by
      have : i < xs.length := by rw [hlen]; simpa using hi
      exact ⟨_, List.getElem?_eq_getElem this⟩
    have g0 := hf 0 _ rfl
    have g1 := hf 1 _ rfl
    obtain ⟨y0, e0⟩ := hxx 0 (by omega)
    obtain ⟨y1, e1⟩ := hxx 1 (by omega)
    rw [e0] at g0
    rw [e1] at g1
    replace g0 : DataW.trod enc Tryz.prog w base spare held m 9 (([c0, c1].drop 0).take (Tryz.prog.cellsOf 9)) = some y0 := g0
    replace g1 : DataW.trod enc Tryz.prog w base spare held m 9 (([c0, c1].drop 1).take (Tryz.prog.cellsOf 9)) = some y1 := g1
    rw [cellsSt] at g0 g1
    obtain ⟨s0, hs0, hd0⟩ := str_of_trod Tryz.underlying9 g0
    obtain ⟨s1, hs1, hd1⟩ := str_of_trod Tryz.underlying9 g1
    simp at hs0 hs1
    subst hs0 hs1
    have hxs : xs = [y0, y1] := by
      match xs, hlen, e0, e1 with
      | [a0, a1], _, e0, e1 =>
        simp at e0 e1
        rw [e0, e1]
    rw [hx, hxs] at hw
    simp only [DataW.weights, Tryz.underlying57, DataW.weightsEach, List.map, hd0, hd1, List.all_append, List.all_cons, Bool.and_eq_true, decide_eq_true_eq] at hw
    have l0 : s0.data.toList.length = s0.size := Array.length_toList
    have l1 : s1.data.toList.length = s1.size := Array.length_toList
    have w0 := hw.1.1
    have w1 := hw.2.1.1
    unfold reachBytes at w0 w1
    exact ⟨⟨s0, s1⟩, rfl, by show s0.size ≤ _; omega, by show s1.size ≤ _; omega⟩
set_option maxRecDepth 100000 in
theorem cards_came {r : Reach} {b0 : Nat} {v : Value} {d : DataW H} {ps : List MemPlace} (hval : Value.okWide Tryz.prog w r b0 23 v) (hd : DataW.Trod enc Tryz.prog w base spare held 23 v d ps)
    (hw : (d.weights Tryz.prog 23).all (· ≤ reachBytes) = true) : ∃ (ad : Option Addr) (c : Nat) (L : List CrdS), v = .slice ad L.length c ∧ CCame w ad L ∧ L.length ≤ 140737488355328 ∧ L.length ≤ c := by
  obtain ⟨a0, len, cap, rfl⟩ := okWide_slice Tryz.underlying23 hval
  obtain ⟨fuel, h⟩ := hd
  rcases DataW.trod_slice Tryz.underlying23 h with ⟨h0, _⟩ | ⟨a, len', cap', elems, rest, n, _, hcs, hx, hb, hl, hm, hlen, hel, _, _⟩
  · simp [Value.cells] at h0
    obtain ⟨rfl, rfl, rfl⟩ := h0
    exact ⟨none, 0, [], rfl, ⟨fun k hk => absurd hk (Nat.not_lt_zero k)⟩, by simp, by simp⟩
  · simp [Value.cells] at hcs
    obtain ⟨rfl, rfl, rfl⟩ := hcs
    rw [Prod.mk.injEq] at hx
    rw [hx.1] at hw
    simp only [DataW.weights, Tryz.underlying23, bytesCrd, List.all_cons, Bool.and_eq_true, decide_eq_true_eq, List.length_map, List.all_append] at hw
    obtain ⟨hq, hwe, _⟩ := hw
    have hwi : ∀ i (hi : i < elems.length), ((elems[i]).1.weights Tryz.prog 57).all (· ≤ reachBytes) = true := fun i hi => by
      rw [List.all_eq_true]
      intro m hmm
      exact List.all_eq_true.1 hwe m (weights_all (List.mem_map.2 ⟨elems[i], List.getElem_mem hi, rfl⟩) m hmm)
    have each : ∀ i, i < len → ∃ c : CrdS, ∃ b off, a = ⟨b, off, none⟩ ∧ w.cell? ⟨b, off + i * 2, none⟩ = some (.string c.name) ∧ w.cell? ⟨b, off + i * 2 + 1, none⟩ = some (.string c.value) ∧ c.name.size ≤ 140737488355328 ∧ c.value.size ≤ 140737488355328 := by
      intro i hi
      have h1 := hel i hi
      have h2 : elems[i]? = some (elems[i]'(by omega)) := by simp
      rw [h2, cellsCrd, Option.bind_eq_some_iff] at h1
      obtain ⟨cs', hcs, hy'⟩ := h1
      obtain ⟨c, rfl, hs1, hs2⟩ := crd_of_trod hy' (hwi i (by omega))
      obtain ⟨_, _, hcell⟩ := World.cells?_some hcs
      have h1' := hel 0 (by omega)
      have h2' : elems[0]? = some (elems[0]'(by omega)) := by simp
      rw [h2', cellsCrd, Option.bind_eq_some_iff] at h1'
      obtain ⟨cs2, hcs2, hy2⟩ := h1'
      obtain ⟨c2, rfl, _, _⟩ := crd_of_trod hy2 (hwi 0 (by omega))
      obtain ⟨_, _, hcell2⟩ := World.cells?_some hcs2
      obtain ⟨b, off, spot⟩ := a
      have hspot : spot = none := by
        have q : w.cell? (((⟨b, off, spot⟩ : Addr).add (0 * 2)).add 0) = some (.string c2.name) := hcell2 0 (by omega)
        have := World.cell?_spot q
        simpa [Addr.add] using this
      subst hspot
      rw [add_pl2] at hcell
      have q0 := hcell 0 (by omega)
      have q1 := hcell 1 (by omega)
      rw [add_pl2] at q0 q1
      exact ⟨c, b, off, rfl, q0, q1, hs1, hs2⟩
    refine ⟨some a, cap, (List.range len).map fun i => if h : i < len then Classical.choose (each i h) else crdS0, ?_, ⟨fun k hk => ?_⟩, ?_, by simpa using hl⟩
    · simp
    · have hk2 : k < len := by simpa using hk
      have e : ((List.range len).map fun i => if h : i < len then Classical.choose (each i h) else crdS0).getD k crdS0 = Classical.choose (each k hk2) := by
        simp [List.getD, hk2]
      rw [e]
      obtain ⟨b, off, e1, q0, q1, hs⟩ := Classical.choose_spec (each k hk2)
      exact ⟨b, off, by rw [e1], lt_of_cell q0, q0, q1, hs⟩
    · unfold reachBytes at hq
      simp only [List.length_map, List.length_range]
      omega
set_option maxRecDepth 100000 in
theorem ints_came {r : Reach} {b0 : Nat} {v : Value} {d : DataW H} {ps : List MemPlace} (hval : Value.okWide Tryz.prog w r b0 24 v) (hd : DataW.Trod enc Tryz.prog w base spare held 24 v d ps)
    (hw : (d.weights Tryz.prog 24).all (· ≤ reachBytes) = true) : ∃ (ad : Option Addr) (c : Nat) (L : List Int), v = .slice ad L.length c ∧ ICame w ad L ∧ L.length * 8 ≤ 140737488355328 := by
  obtain ⟨a0, len, cap, rfl⟩ := okWide_slice Tryz.underlying24 hval
  obtain ⟨fuel, h⟩ := hd
  rcases DataW.trod_slice Tryz.underlying24 h with ⟨h0, _⟩ | ⟨a, len', cap', elems, rest, n, _, hcs, hx, hb, hl, hm, hlen, hel, _, _⟩
  · simp [Value.cells] at h0
    obtain ⟨rfl, rfl, rfl⟩ := h0
    exact ⟨none, 0, [], rfl, ⟨fun k hk => absurd hk (Nat.not_lt_zero k)⟩, by simp⟩
  · simp [Value.cells] at hcs
    obtain ⟨rfl, rfl, rfl⟩ := hcs
    have each : ∀ i, i < len → ∃ s : Int, ∃ b off, a = ⟨b, off, none⟩ ∧ w.cell? ⟨b, off + i, none⟩ = some (.int .i64 s) := by
      intro i hi
      have h1 := hel i hi
      have h2 : elems[i]? = some (elems[i]'(by omega)) := by simp
      rw [h2, cellsI, Option.bind_eq_some_iff] at h1
      obtain ⟨cs', hcs, hy'⟩ := h1
      obtain ⟨s, rfl⟩ := int_of_trod Tryz.underlying3 hy'
      obtain ⟨_, _, hcell⟩ := World.cells?_some hcs
      have h1' := hel 0 (by omega)
      have h2' : elems[0]? = some (elems[0]'(by omega)) := by simp
      rw [h2', cellsI, Option.bind_eq_some_iff] at h1'
      obtain ⟨cs2, hcs2, hy2⟩ := h1'
      obtain ⟨s2, rfl⟩ := int_of_trod Tryz.underlying3 hy2
      obtain ⟨_, _, hcell2⟩ := World.cells?_some hcs2
      obtain ⟨b, off, spot⟩ := a
      have hspot : spot = none := by
        have q : w.cell? (((⟨b, off, spot⟩ : Addr).add (0 * 1)).add 0) = some (.int .i64 s2) := hcell2 0 (by omega)
        have := World.cell?_spot q
        simpa [Addr.add] using this
      subst hspot
      rw [add_pl2] at hcell
      refine ⟨s, b, off, rfl, ?_⟩
      have := hcell 0 (by omega)
      rw [add_pl2] at this
      rw [show off + i * 1 + 0 = off + i by omega] at this
      exact this
    refine ⟨some a, cap, (List.range len).map fun i => if h : i < len then Classical.choose (each i h) else 0, ?_, ⟨fun k hk => ?_⟩, ?_⟩
    · simp
    · have hk2 : k < len := by simpa using hk
      have e : ((List.range len).map fun i => if h : i < len then Classical.choose (each i h) else 0).getD k 0 = Classical.choose (each k hk2) := by
        simp [List.getD, hk2]
      rw [e]
      obtain ⟨b, off, e1, hat⟩ := Classical.choose_spec (each k hk2)
      exact ⟨b, off, by rw [e1], lt_of_cell hat, hat⟩
    · rw [Prod.mk.injEq] at hx
      rw [hx.1] at hw
      simp only [DataW.weights, Tryz.underlying24, bytesI, List.all_cons, Bool.and_eq_true, decide_eq_true_eq, List.length_map] at hw
      have hq := hw.1
      unfold reachBytes at hq
      simp only [List.length_map, List.length_range]
      omega
set_option maxRecDepth 100000 in
end
end Go.Proofs.YtncbmkflilcdgaiGreatDoor
