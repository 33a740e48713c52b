/-
  Lists of pictures that came in.
-/
import Derived.Test.YtncbmkflilcdgahDoorFrArg0
namespace Go.Proofs.YtncbmkflilcdgahDoor
open Go Go.ChangeShapes Go.WideShapes Go.ChangeAt Go.RowKit

section
variable {H : Type} {enc : TypeId × Value → H} {w : World} {base : Nat} {spare : Nat → Bool} {held : Bool}
set_option maxRecDepth 100000 in
theorem pics_came {r : Reach} {b0 : Nat} {v : Value} {d : DataW H} {ps : List MemPlace} (hval : Value.okWide Tryd.prog w r b0 91 v) (hd : DataW.Trod enc Tryd.prog w base spare held 91 v d ps)
    (hw : (d.weights Tryd.prog 91).all (· ≤ reachBytes) = true) : ∃ (ad : Option Addr) (c : Nat) (Ls : List Pic), v = .slice ad Ls.length c ∧ PCame w ad Ls ∧ Ls.length * 40 ≤ 140737488355328 ∧ Ls.length ≤ c := by
  obtain ⟨a0, len, cap, rfl⟩ := okWide_slice Tryd.underlying91 hval
  obtain ⟨fuel, h⟩ := hd
  rcases DataW.trod_slice Tryd.underlying91 h with ⟨h0, _⟩ | ⟨a, len', cap', elems, rest, n, _, hcs, hx, hb, hl, hm, hlen, hel, _, _⟩
  · simp [Value.cells] at h0
    obtain ⟨rfl, rfl, rfl⟩ := h0
    exact ⟨none, 0, [], rfl, ⟨fun k hk => absurd hk (Nat.not_lt_zero k)⟩, by simp, by simp⟩
  · simp [Value.cells] at hcs
    obtain ⟨rfl, rfl, rfl⟩ := hcs
    rw [Prod.mk.injEq] at hx
    rw [hx.1] at hw
    simp only [DataW.weights, Tryd.underlying91, bytesPic, List.all_cons, Bool.and_eq_true, decide_eq_true_eq, List.length_map, List.all_append] at hw
    obtain ⟨hq, hwe, _⟩ := hw
    have hwi : ∀ i (hi : i < elems.length), ((elems[i]).1.weights Tryd.prog 94).all (· ≤ reachBytes) = true := fun i hi => by
      rw [List.all_eq_true]
      intro m hmm
      exact List.all_eq_true.1 hwe m (weights_all (List.mem_map.2 ⟨elems[i], List.getElem_mem hi, rfl⟩) m hmm)
    have each : ∀ i, i < len → ∃ p : Pic, ∃ b off adk capk, a = ⟨b, off, none⟩ ∧ PicAt w b (off + i * 3) adk capk p ∧ p.L.length * 8 ≤ 140737488355328 := by
      intro i hi
      have h1 := hel i hi
      have h2 : elems[i]? = some (elems[i]'(by omega)) := by simp
      rw [h2, cellsPic, Option.bind_eq_some_iff] at h1
      obtain ⟨cs', hcs, hy'⟩ := h1
      obtain ⟨p, adk, capk, rfl, hrow, hpl⟩ := pic_of_trod hy' (hwi i (by omega))
      obtain ⟨_, _, hcell⟩ := World.cells?_some hcs
      have h1' := hel 0 (by omega)
      have h2' : elems[0]? = some (elems[0]'(by omega)) := by simp
      rw [h2', cellsPic, Option.bind_eq_some_iff] at h1'
      obtain ⟨cs2, hcs2, hy2⟩ := h1'
      obtain ⟨p2, ad2, cap2, rfl, _, _⟩ := pic_of_trod hy2 (hwi 0 (by omega))
      obtain ⟨_, _, hcell2⟩ := World.cells?_some hcs2
      obtain ⟨b, off, spot⟩ := a
      have hspot : spot = none := by
        have q : w.cell? (((⟨b, off, spot⟩ : Addr).add (0 * 3)).add 0) = some (.int .i64 p2.wide) := hcell2 0 (by omega)
        have := World.cell?_spot q
        simpa [Addr.add] using this
      subst hspot
      rw [add_pl2] at hcell
      refine ⟨p, b, off, adk, capk, rfl, pic_at (fun m hm => ?_) hrow, hpl⟩
      have := hcell m (by omega)
      rw [add_pl2] at this
      exact this
    refine ⟨some a, cap, (List.range len).map fun i => if h : i < len then Classical.choose (each i h) else pic0, ?_, ⟨fun k hk => ?_⟩, ?_, by simpa using hl⟩
    · simp
    · have hk2 : k < len := by simpa using hk
      have e : ((List.range len).map fun i => if h : i < len then Classical.choose (each i h) else pic0).getD k pic0 = Classical.choose (each k hk2) := by
        simp [List.getD, hk2]
      rw [e]
      obtain ⟨b, off, adk, capk, e1, hat, hpl⟩ := Classical.choose_spec (each k hk2)
      exact ⟨b, off, adk, capk, by rw [e1], hat, hpl⟩
    · unfold reachBytes at hq
      simp only [List.length_map, List.length_range]
      omega
end
end Go.Proofs.YtncbmkflilcdgahDoor
