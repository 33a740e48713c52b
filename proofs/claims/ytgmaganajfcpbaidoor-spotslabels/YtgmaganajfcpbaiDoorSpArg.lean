/-
  Truths that came in.
-/
import Derived.Test.YtgmaganajfcpbaiDoorFrArg0
import Derived.Test.YtgmaganajfcpbaiDoorSpKb
namespace Go.Proofs.YtgmaganajfcpbaiDoor
open Go Go.ChangeShapes Go.WideShapes Go.ChangeAt Go.RowKit

theorem cellsB : Tryd.prog.cellsOf 4 = 1 := by kernel_rfl
section
variable {H : Type} {enc : TypeId × Value → H} {w : World} {base : Nat} {spare : Nat → Bool} {held : Bool}
theorem bool_of_trod {P : Program} {e : TypeId} {n : Nat} {cs : List Value} {y : DataW H × List MemPlace} (he : P.underlying e = some .bool) (h : DataW.trod enc P w base spare held n e cs = some y) : ∃ b, cs = [.bool b] := by
  cases n with
  | zero => simp [DataW.trod] at h
  | succ n =>
    unfold DataW.trod at h
    rw [he] at h
    split at h
    all_goals try (rename_i e1; cases e1)
    all_goals try (rename_i e1 e2; cases e1)
    all_goals try cases h
    all_goals exact ⟨_, rfl⟩
set_option maxRecDepth 100000 in
theorem bools_came {r : Reach} {b0 : Nat} {v : Value} {d : DataW H} {ps : List MemPlace} (hval : Value.okWide Tryd.prog w r b0 43 v) (hd : DataW.Trod enc Tryd.prog w base spare held 43 v d ps) :
    ∃ (ad : Option Addr) (c : Nat) (L : List Bool), v = .slice ad L.length c ∧ LCame w ad L := by
  obtain ⟨a0, len, cap, rfl⟩ := okWide_slice Tryd.underlying43 hval
  obtain ⟨fuel, h⟩ := hd
  rcases DataW.trod_slice Tryd.underlying43 h with ⟨h0, _⟩ | ⟨a, len', cap', elems, rest, n, _, hcs, hx, hb, hl, hm, hlen, hel, _, _⟩
  · simp [Value.cells] at h0
    obtain ⟨rfl, rfl, rfl⟩ := h0
    exact ⟨none, 0, [], rfl, ⟨fun k hk => absurd hk (Nat.not_lt_zero k)⟩⟩
  · simp [Value.cells] at hcs
    obtain ⟨rfl, rfl, rfl⟩ := hcs
    have each : ∀ i, i < len → ∃ s : Bool, ∃ b off, a = ⟨b, off, none⟩ ∧ w.cell? ⟨b, off + i, none⟩ = some (.bool s) := by
      intro i hi
      have h1 := hel i hi
      have h2 : elems[i]? = some (elems[i]'(by omega)) := by simp
      rw [h2, cellsB, Option.bind_eq_some_iff] at h1
      obtain ⟨cs', hcs, hy'⟩ := h1
      obtain ⟨s, rfl⟩ := bool_of_trod Tryd.underlying4 hy'
      obtain ⟨_, _, hcell⟩ := World.cells?_some hcs
      have h1' := hel 0 (by omega)
      have h2' : elems[0]? = some (elems[0]'(by omega)) := by simp
      rw [h2', cellsB, Option.bind_eq_some_iff] at h1'
      obtain ⟨cs2, hcs2, hy2⟩ := h1'
      obtain ⟨s2, rfl⟩ := bool_of_trod Tryd.underlying4 hy2
      obtain ⟨_, _, hcell2⟩ := World.cells?_some hcs2
      obtain ⟨b, off, spot⟩ := a
      have hspot : spot = none := by
        have q : w.cell? (((⟨b, off, spot⟩ : Addr).add (0 * 1)).add 0) = some (.bool s2) := hcell2 0 (by omega)
        have := World.cell?_spot q
        simpa [Addr.add] using this
      subst hspot
      rw [add_pl2] at hcell
      refine ⟨s, b, off, rfl, ?_⟩
      have := hcell 0 (by omega)
      rw [add_pl2] at this
      rw [show off + i * 1 + 0 = off + i by omega] at this
      exact this
    refine ⟨some a, cap, (List.range len).map fun i => if h : i < len then Classical.choose (each i h) else false, ?_, ⟨fun k hk => ?_⟩⟩
    · simp
    · have hk2 : k < len := by simpa using hk
      have e : ((List.range len).map fun i => if h : i < len then Classical.choose (each i h) else false).getD k false = Classical.choose (each k hk2) := by
        simp [List.getD, hk2]
      rw [e]
      obtain ⟨b, off, e1, hat⟩ := Classical.choose_spec (each k hk2)
      exact ⟨b, off, by rw [e1], lt_of_cell hat, hat⟩
end
end Go.Proofs.YtgmaganajfcpbaiDoor
