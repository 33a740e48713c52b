/-
  Rows of results and bytes that came in.
-/
import Derived.Test.YtfonpobdnhifganNgD2
import Derived.ProofKit
import Derived.OpenShut
import Derived.ChangeSlices
import Derived.Carry
namespace Go.Proofs.Ytfonpobdnhifgan
open Go Go.ChangeShapes Go.WideShapes Go.ChangeAt Go.RowKit

theorem cellsByN : Try.prog.cellsOf 5 = 1 := by kernel_rfl
theorem cellsInN : Try.prog.cellsOf 3 = 1 := by kernel_rfl
theorem cellsRs : Try.prog.cellsOf 30 = 3 := by kernel_rfl
theorem add_plN (b o k : Nat) : (⟨b, o, none⟩ : Addr).add k = ⟨b, o + k, none⟩ := by simp [Addr.add]
theorem range_u8N {l : List Int} (h : ∀ n ∈ l, (Lit.int .u8 n).wf = true) (j : Nat) : 0 ≤ l.getD j 0 ∧ l.getD j 0 ≤ 255 := by
  rw [List.getD_eq_getElem?_getD]
  cases e : l[j]? with
  | none => exact ⟨by simp, by simp⟩
  | some n =>
    have := h n (List.mem_of_getElem? e)
    simp only [Lit.wf, Bool.and_eq_true, decide_eq_true_eq] at this
    have h1 : IntKind.u8.min = 0 := by decide
    have h2 : IntKind.u8.max = 255 := by decide
    simp only [Option.getD_some]
    omega
section
variable {H : Type} {enc : TypeId × Value → H} {w : World} {base : Nat} {spare : Nat → Bool} {held : Bool}
theorem lt_of_cellN {b o : Nat} {u : Value} (h : w.cell? ⟨b, o, none⟩ = some u) : b < w.heap.size := by
  rcases Nat.lt_or_ge b w.heap.size with k | k
  · exact k
  · simp [World.cell?, Array.getElem?_eq_none k] at h
theorem int_of_trodN {P : Program} {e : TypeId} {n : Nat} {cs : List Value} {y : DataW H × List MemPlace} (he : P.underlying e = some (.int .i64)) (h : DataW.trod enc P w base spare held n e cs = some y) : ∃ b, cs = [.int .i64 b] ∧ in64 b := by
  cases n with
  | zero => simp [DataW.trod] at h
  | succ n =>
    unfold DataW.trod at h
    rw [he] at h
    split at h
    all_goals try (rename_i e1; cases e1)
    all_goals try (rename_i e1 e2; cases e1)
    all_goals try cases h
    · split at h
      · rename_i q
        have q2 := q.2
        simp only [Lit.wf, Bool.and_eq_true, decide_eq_true_eq] at q2
        have h1 : IntKind.i64.min = -9223372036854775808 := by decide
        have h2 : IntKind.i64.max = 9223372036854775807 := by decide
        exact ⟨_, rfl, by unfold in64; omega⟩
      · cases h
set_option maxRecDepth 100000 in
theorem res_of_trod {n : Nat} {cs : List Value} {y : DataW H × List MemPlace} (h : DataW.trod enc Try.prog w base spare held n 30 cs = some y) : ∃ s : Res, cs = [.int .i64 s.i, .int .i64 s.s, .int .i64 s.l] ∧ s.in := by
  obtain ⟨xs, m, _, _, hl, hlen, hf⟩ := DataW.trod_struct Try.underlying30 h
  rw [cellsRs] at hl
  match cs, hl with
  | [c0, c1, c2], _ =>
    have hx : ∀ i, i < 3 → ∃ yy, xs[i]? = some yy := fun i hi => by
      have : i < xs.length := by rw [hlen]; simpa using hi
      exact ⟨_, List.getElem?_eq_getElem this⟩
    have g0 := hf 0 _ rfl
    have g1 := hf 1 _ rfl
    have g2 := hf 2 _ rfl
    obtain ⟨y0, e0⟩ := hx 0 (by omega)
    obtain ⟨y1, e1⟩ := hx 1 (by omega)
    obtain ⟨y2, e2⟩ := hx 2 (by omega)
    rw [e0] at g0
    rw [e1] at g1
    rw [e2] at g2
    replace g0 : DataW.trod enc Try.prog w base spare held m 3 (([c0, c1, c2].drop 0).take (Try.prog.cellsOf 3)) = some y0 := g0
    replace g1 : DataW.trod enc Try.prog w base spare held m 3 (([c0, c1, c2].drop 1).take (Try.prog.cellsOf 3)) = some y1 := g1
    replace g2 : DataW.trod enc Try.prog w base spare held m 3 (([c0, c1, c2].drop 2).take (Try.prog.cellsOf 3)) = some y2 := g2
    rw [cellsInN] at g0 g1 g2
    obtain ⟨p, hp, ip⟩ := int_of_trodN Try.underlying3 g0
    obtain ⟨q, hq, iq⟩ := int_of_trodN Try.underlying3 g1
    obtain ⟨r, hr, ir⟩ := int_of_trodN Try.underlying3 g2
    simp at hp hq hr
    exact ⟨⟨p, q, r⟩, by simp [hp, hq, hr], ip, iq, ir⟩
set_option maxRecDepth 100000 in
theorem res_row_came {r : Reach} {b0 : Nat} {v : Value} {d : DataW H} {ps : List MemPlace} (hval : Value.okWide Try.prog w r b0 22 v) (hd : DataW.Trod enc Try.prog w base spare held 22 v d ps) : ∃ (ad : Option Addr) (c : Nat) (L : List Res), v = .slice ad L.length c ∧ RsCame w ad L ∧ (∀ x ∈ L, x.in) ∧ L.length ≤ c ∧ ((ad = none ∧ L.length = 0 ∧ c = 0) ∨ ∃ a0, ad = some a0) := by
  obtain ⟨a0, len, cap, rfl⟩ := okWide_slice Try.underlying22 hval
  obtain ⟨fuel, h⟩ := hd
  rcases DataW.trod_slice Try.underlying22 h with ⟨h0, _⟩ | ⟨a, len', cap', elems, rest, n, _, hcs, hx, hb, hl, hm, hlen, hel, _, _⟩
  · simp [Value.cells] at h0
    obtain ⟨rfl, rfl, rfl⟩ := h0
    exact ⟨none, 0, [], rfl, ⟨fun k hk => absurd hk (Nat.not_lt_zero k)⟩, fun x hx => (List.not_mem_nil hx).elim, Nat.le_refl _, .inl ⟨rfl, rfl, rfl⟩⟩
  · simp [Value.cells] at hcs
    obtain ⟨rfl, rfl, rfl⟩ := hcs
    have each : ∀ i, i < len → ∃ s : Res, ∃ b off, a = ⟨b, off, none⟩ ∧ RsAt w b (off + i * 3) s ∧ s.in := by
      intro i hi
      have h1 := hel i hi
      have h2 : elems[i]? = some (elems[i]'(by omega)) := by simp
      rw [h2, cellsRs, Option.bind_eq_some_iff] at h1
      obtain ⟨cs', hcs, hy'⟩ := h1
      obtain ⟨s, rfl, hs⟩ := res_of_trod hy'
      obtain ⟨_, _, hcell⟩ := World.cells?_some hcs
      have h1' := hel 0 (by omega)
      have h2' : elems[0]? = some (elems[0]'(by omega)) := by simp
      rw [h2', cellsRs, Option.bind_eq_some_iff] at h1'
      obtain ⟨cs2, hcs2, hy2⟩ := h1'
      obtain ⟨s2, rfl, _⟩ := res_of_trod hy2
      obtain ⟨_, _, hcell2⟩ := World.cells?_some hcs2
      obtain ⟨b, off, spot⟩ := a
      have hspot : spot = none := by
        have q : w.cell? (((⟨b, off, spot⟩ : Addr).add (0 * 3)).add 0) = some (.int .i64 s2.i) := hcell2 0 (by omega)
        have := World.cell?_spot q
        simpa [Addr.add] using this
      subst hspot
      rw [add_plN] at hcell
      have c0 := hcell 0 (by omega)
      have c1 := hcell 1 (by omega)
      have c2 := hcell 2 (by omega)
      rw [add_plN] at c0 c1 c2
      exact ⟨s, b, off, rfl, ⟨c0, c1, c2⟩, hs⟩
    have e0 : ∀ k (hk2 : k < len), ((List.range len).map fun i => if h : i < len then Classical.choose (each i h) else res0).getD k res0 = Classical.choose (each k hk2) := fun k hk2 => by
      simp [List.getD, hk2]
    refine ⟨some a, cap, (List.range len).map fun i => if h : i < len then Classical.choose (each i h) else res0, ?_, ⟨fun k hk => ?_⟩, fun x hx => ?_, by simpa using hl, .inr ⟨_, rfl⟩⟩
    · simp
    · have hk2 : k < len := by simpa using hk
      rw [e0 k hk2]
      obtain ⟨b, off, e1, hat, _⟩ := Classical.choose_spec (each k hk2)
      exact ⟨b, off, by rw [e1], lt_of_cellN hat.c0, hat⟩
    · obtain ⟨k, hk, rfl⟩ := List.mem_map.1 hx
      have hk2 : k < len := by simpa using hk
      rw [dif_pos hk2]
      obtain ⟨b, off, e1, _, hs⟩ := Classical.choose_spec (each k hk2)
      exact hs
set_option maxRecDepth 100000 in
theorem bytes_cameN {r : Reach} {b0 : Nat} {v : Value} {d : DataW H} {ps : List MemPlace} (hval : Value.okWide Try.prog w r b0 23 v) (hd : DataW.Trod enc Try.prog w base spare held 23 v d ps) :
    ∃ (ad : Option Addr) (c : Nat) (l : Bs), v = .slice ad l.length c ∧ BAt w ad l ∧ l.length ≤ c := by
  obtain ⟨a0, len, cap, rfl⟩ := okWide_slice Try.underlying23 hval
  obtain ⟨fuel, h⟩ := hd
  rcases open_ints Try.underlying23 Try.underlying5 cellsByN h with ⟨hcs, _⟩ | ⟨a, len', cap', zs, hcs, _, hl, hm, hz, _, hcell, hwz⟩
  · simp [Value.cells] at hcs
    obtain ⟨rfl, rfl, rfl⟩ := hcs
    exact ⟨none, 0, [], rfl, ⟨fun k hk => absurd hk (Nat.not_lt_zero k)⟩, Nat.le_refl _⟩
  · simp [Value.cells] at hcs
    obtain ⟨rfl, rfl, rfl⟩ := hcs
    have hzl : len ≤ zs.length := by rw [hz]; split <;> omega
    have hlen : ((zs.take len).map fun n => UInt8.ofNat n.toNat).length = len := by simp; omega
    refine ⟨some a, cap, (zs.take len).map fun n => UInt8.ofNat n.toNat, by rw [hlen], ⟨fun j hj => ?_⟩, by rw [hlen]; exact hl⟩
    rw [hlen] at hj
    obtain ⟨ab, ao, spot⟩ := a
    have hspot : spot = none := by simpa [Addr.add] using World.cell?_spot (hcell 0 (by omega))
    subst hspot
    have hcj := hcell j (by omega)
    rw [add_plN] at hcj
    have hb := range_u8N hwz j
    have e : zs.getD j 0 = zs[j]?.getD 0 := List.getD_eq_getElem?_getD
    have e2 : (((zs.take len).map fun n => UInt8.ofNat n.toNat).getD j 0).toNat = ((zs[j]?.getD 0).toNat) := by
      have hjz : j < zs.length := by omega
      simp only [List.getD_eq_getElem?_getD, List.getElem?_map, List.getElem?_take, if_pos hj, List.getElem?_eq_getElem hjz, Option.map_some, Option.getD_some, UInt8.toNat_ofNat'] at hb ⊢
      omega
    refine ⟨ab, ao, rfl, lt_of_cellN hcj, ?_⟩
    rw [hcj, e, e2]
    congr 2
    omega
end
end Go.Proofs.Ytfonpobdnhifgan
