/-
  Rows of commands and ticks that came in.
-/
import Derived.Test.YteoappoijihomahDoorMtLw
import Derived.ProofKit
import Derived.OpenShut
import Derived.ChangeSlices
import Derived.Carry
namespace Go.Proofs.YteoappoijihomahDoor
open Go Go.ChangeShapes Go.WideShapes Go.ChangeAt Go.RowKit

/-- a command, or a tick. -/
structure OpS where
  tick : Bool
  c : CmdS
def op0 : OpS := ⟨false, ⟨0, ByteArray.empty, 0, 0⟩⟩
structure OpAt (w : World) (b o : Nat) (s : OpS) : Prop where
  c0 : w.cell? ⟨b, o, none⟩ = some (.bool s.tick)
  c1 : w.cell? ⟨b, o + 1, none⟩ = some (.int .i64 s.c.num)
  c2 : w.cell? ⟨b, o + 2, none⟩ = some (.string s.c.s)
  c3 : w.cell? ⟨b, o + 3, none⟩ = some (.int .i64 s.c.a)
  c4 : w.cell? ⟨b, o + 4, none⟩ = some (.int .i64 s.c.b)
theorem OpAt.chg {w v : World} {b o g : Nat} {s : OpS} (h : OpAt w b o s) (k : Chg g w v) (hb : b < w.heap.size) (hg : b ≠ g) : OpAt v b o s := by
  have e : ∀ i, v.cell? ⟨b, i, none⟩ = w.cell? ⟨b, i, none⟩ := fun i => by
    simp only [World.cell?, k.block b hb hg]
  exact ⟨(e _).trans h.c0, (e _).trans h.c1, (e _).trans h.c2, (e _).trans h.c3, (e _).trans h.c4⟩
/-- a row that came in, below B. -/
structure OpCame (w : World) (B : Nat) (ad : Option Addr) (L : List OpS) : Prop where
  at_ : ∀ k, k < L.length → ∃ b off, ad = some ⟨b, off, none⟩ ∧ b < B ∧ b < w.heap.size ∧ OpAt w b (off + k * 5) (L.getD k op0)
theorem OpCame.chg {w v : World} {B g : Nat} {ad : Option Addr} {L : List OpS} (h : OpCame w B ad L) (k : Chg g w v) (hg : B ≤ g) : OpCame v B ad L := ⟨fun j hj => by
  obtain ⟨b, off, e, hB, hb, h1⟩ := h.at_ j hj
  exact ⟨b, off, e, hB, Nat.lt_of_lt_of_le hb k.size, h1.chg k hb (by omega)⟩⟩
theorem OpCame.keep {w v : World} {B : Nat} {ad : Option Addr} {L : List OpS} (h : OpCame w B ad L) (k : Below w.heap.size w v) : OpCame v B ad L := h.chg (Chg.of (g := B) k) (Nat.le_refl _)
theorem OpCame.nil (w : World) (B : Nat) (ad : Option Addr) : OpCame w B ad [] := ⟨fun k hk => absurd hk (Nat.not_lt_zero k)⟩
theorem cellsI : Tryd.prog.cellsOf 3 = 1 := by kernel_rfl
theorem cellsBo : Tryd.prog.cellsOf 4 = 1 := by kernel_rfl
theorem cellsSt : Tryd.prog.cellsOf 9 = 1 := by kernel_rfl
theorem cellsCm : Tryd.prog.cellsOf 64 = 4 := by kernel_rfl
theorem cellsOp : Tryd.prog.cellsOf 66 = 5 := by kernel_rfl
theorem bytesOp : Tryd.prog.bytesOf 66 = 48 := by kernel_rfl
theorem add_plm (b o k : Nat) : (⟨b, o, none⟩ : Addr).add k = ⟨b, o + k, none⟩ := by simp [Addr.add]
section
variable {H : Type} {enc : TypeId × Value → H} {w : World} {base : Nat} {spare : Nat → Bool} {held : Bool}
theorem int_of_trod {P : Program} {e : TypeId} {n : Nat} {cs : List Value} {y : DataW H × List MemPlace} (he : P.underlying e = some (.int .i64)) (h : DataW.trod enc P w base spare held n e cs = some y) : ∃ b, cs = [.int .i64 b] := by
  cases n with
  | zero => simp [DataW.trod] at h
  | succ n =>
    unfold DataW.trod at h
    rw [he] at h
    split at h
    all_goals try (rename_i e1; cases e1)
    all_goals try (rename_i e1 e2; cases e1)
    all_goals try cases h
    · split at h
      · exact ⟨_, rfl⟩
      · cases h
theorem bool_of_trod {P : Program} {e : TypeId} {n : Nat} {cs : List Value} {y : DataW H × List MemPlace} (he : P.underlying e = some .bool) (h : DataW.trod enc P w base spare held n e cs = some y) : ∃ b, cs = [.bool b] := by
  cases n with
  | zero => simp [DataW.trod] at h
  | succ n =>
    unfold DataW.trod at h
    rw [he] at h
    split at h
    all_goals try (rename_i e1; cases e1)
    all_goals try (rename_i e1 e2; cases e1)
    all_goals try cases h
    all_goals exact ⟨_, rfl⟩
theorem str_of_trod {P : Program} {e : TypeId} {n : Nat} {cs : List Value} {y : DataW H × List MemPlace} (he : P.underlying e = some .string) (h : DataW.trod enc P w base spare held n e cs = some y) : ∃ b, cs = [.string b] := by
  cases n with
  | zero => simp [DataW.trod] at h
  | succ n =>
    unfold DataW.trod at h
    rw [he] at h
    split at h
    all_goals try (rename_i e1; cases e1)
    all_goals try (rename_i e1 e2; cases e1)
    all_goals try cases h
    all_goals exact ⟨_, rfl⟩
theorem lt_of_cell {b o : Nat} {u : Value} (h : w.cell? ⟨b, o, none⟩ = some u) : b < w.heap.size := by
  rcases Nat.lt_or_ge b w.heap.size with k | k
  · exact k
  · simp [World.cell?, Array.getElem?_eq_none k] at h
set_option maxRecDepth 100000 in
theorem cm_of_trod {n : Nat} {cs : List Value} {y : DataW H × List MemPlace} (h : DataW.trod enc Tryd.prog w base spare held n 64 cs = some y) : ∃ c : CmdS, cs = [.int .i64 c.num, .string c.s, .int .i64 c.a, .int .i64 c.b] := by
  obtain ⟨xs, m, _, _, hl, hlen, hf⟩ := DataW.trod_struct Tryd.underlying64 h
  rw [cellsCm] at hl
  match cs, hl with
  | [c0, c1, c2, c3], _ =>
    have hx : ∀ i, i < 4 → ∃ yy, xs[i]? = some yy := fun i hi => by
      have : i < xs.length := by rw [hlen]; simpa using hi
      exact ⟨_, List.getElem?_eq_getElem this⟩
    have g0 := hf 0 _ rfl
    have g1 := hf 1 _ rfl
    have g2 := hf 2 _ rfl
    have g3 := hf 3 _ rfl
    obtain ⟨y0, e0⟩ := hx 0 (by omega)
    obtain ⟨y1, e1⟩ := hx 1 (by omega)
    obtain ⟨y2, e2⟩ := hx 2 (by omega)
    obtain ⟨y3, e3⟩ := hx 3 (by omega)
    rw [e0] at g0
    rw [e1] at g1
    rw [e2] at g2
    rw [e3] at g3
    replace g0 : DataW.trod enc Tryd.prog w base spare held m 3 (([c0, c1, c2, c3].drop 0).take (Tryd.prog.cellsOf 3)) = some y0 := g0
    replace g1 : DataW.trod enc Tryd.prog w base spare held m 9 (([c0, c1, c2, c3].drop 1).take (Tryd.prog.cellsOf 9)) = some y1 := g1
    replace g2 : DataW.trod enc Tryd.prog w base spare held m 3 (([c0, c1, c2, c3].drop 2).take (Tryd.prog.cellsOf 3)) = some y2 := g2
    replace g3 : DataW.trod enc Tryd.prog w base spare held m 3 (([c0, c1, c2, c3].drop 3).take (Tryd.prog.cellsOf 3)) = some y3 := g3
    rw [cellsI] at g0 g2 g3
    rw [cellsSt] at g1
    obtain ⟨p, hp⟩ := int_of_trod Tryd.underlying3 g0
    obtain ⟨q, hq⟩ := str_of_trod Tryd.underlying9 g1
    obtain ⟨r, hr⟩ := int_of_trod Tryd.underlying3 g2
    obtain ⟨t, ht⟩ := int_of_trod Tryd.underlying3 g3
    simp at hp hq hr ht
    exact ⟨⟨p, q, r, t⟩, by simp [hp, hq, hr, ht]⟩
def valO (s : OpS) : List Value := [.bool s.tick, .int .i64 s.c.num, .string s.c.s, .int .i64 s.c.a, .int .i64 s.c.b]
theorem opat_of {w : World} {b o : Nat} {s : OpS} (h : ∀ i, i < 5 → w.cell? ⟨b, o + i, none⟩ = (valO s)[i]?) : OpAt w b o s :=
  ⟨h 0 (by decide), h 1 (by decide), h 2 (by decide), h 3 (by decide), h 4 (by decide)⟩
set_option maxRecDepth 100000 in
theorem op_of_trod {n : Nat} {cs : List Value} {y : DataW H × List MemPlace} (h : DataW.trod enc Tryd.prog w base spare held n 66 cs = some y) : ∃ s : OpS, cs = valO s := by
  obtain ⟨xs, m, _, _, hl, hlen, hf⟩ := DataW.trod_struct Tryd.underlying66 h
  rw [cellsOp] at hl
  match cs, hl with
  | [c0, c1, c2, c3, c4], _ =>
    have hx : ∀ i, i < 2 → ∃ yy, xs[i]? = some yy := fun i hi => by
      have : i < xs.length := by rw [hlen]; simpa using hi
      exact ⟨_, List.getElem?_eq_getElem this⟩
    have g0 := hf 0 _ rfl
    have g1 := hf 1 _ rfl
    obtain ⟨y0, e0⟩ := hx 0 (by omega)
    obtain ⟨y1, e1⟩ := hx 1 (by omega)
    rw [e0] at g0
    rw [e1] at g1
    replace g0 : DataW.trod enc Tryd.prog w base spare held m 4 (([c0, c1, c2, c3, c4].drop 0).take (Tryd.prog.cellsOf 4)) = some y0 := g0
    replace g1 : DataW.trod enc Tryd.prog w base spare held m 64 (([c0, c1, c2, c3, c4].drop 1).take (Tryd.prog.cellsOf 64)) = some y1 := g1
    rw [cellsBo] at g0
    rw [cellsCm] at g1
    obtain ⟨p, hp⟩ := bool_of_trod Tryd.underlying4 g0
    obtain ⟨c, hc⟩ := cm_of_trod g1
    simp at hp hc
    obtain ⟨h1, h2, h3, h4⟩ := hc
    exact ⟨⟨p, c⟩, by simp [valO, hp, h1, h2, h3, h4]⟩
set_option maxRecDepth 100000 in
theorem ops_came {r : Reach} {b0 : Nat} {v : Value} {d : DataW H} {ps : List MemPlace} (hval : Value.okWide Tryd.prog w r b0 54 v) (hd : DataW.Trod enc Tryd.prog w base spare held 54 v d ps)
    (hw : (d.weights Tryd.prog 54).all (· ≤ reachBytes) = true) : ∃ (ad : Option Addr) (c : Nat) (L : List OpS), v = .slice ad L.length c ∧ OpCame w w.heap.size ad L ∧ L.length * 48 ≤ 140737488355328 := by
  obtain ⟨a0, len, cap, rfl⟩ := okWide_slice Tryd.underlying54 hval
  obtain ⟨fuel, h⟩ := hd
  rcases DataW.trod_slice Tryd.underlying54 h with ⟨h0, _⟩ | ⟨a, len', cap', elems, rest, n, _, hcs, hx, hb, hl, hm, hlen, hel, _, _⟩
  · simp [Value.cells] at h0
    obtain ⟨rfl, rfl, rfl⟩ := h0
    exact ⟨none, 0, [], rfl, OpCame.nil _ _ _, by simp⟩
  · simp [Value.cells] at hcs
    obtain ⟨rfl, rfl, rfl⟩ := hcs
    have each : ∀ i, i < len → ∃ s : OpS, ∃ b off, a = ⟨b, off, none⟩ ∧ OpAt w b (off + i * 5) s := by
      intro i hi
      have h1 := hel i hi
      have h2 : elems[i]? = some (elems[i]'(by omega)) := by simp
      rw [h2, cellsOp, Option.bind_eq_some_iff] at h1
      obtain ⟨cs', hcs, hy'⟩ := h1
      obtain ⟨s, rfl⟩ := op_of_trod hy'
      obtain ⟨_, _, hcell⟩ := World.cells?_some hcs
      have h1' := hel 0 (by omega)
      have h2' : elems[0]? = some (elems[0]'(by omega)) := by simp
      rw [h2', cellsOp, Option.bind_eq_some_iff] at h1'
      obtain ⟨cs2, hcs2, hy2⟩ := h1'
      obtain ⟨s2, rfl⟩ := op_of_trod hy2
      obtain ⟨_, _, hcell2⟩ := World.cells?_some hcs2
      obtain ⟨b, off, spot⟩ := a
      have hspot : spot = none := by
        have q : w.cell? (((⟨b, off, spot⟩ : Addr).add (0 * 5)).add 0) = some (.bool s2.tick) := hcell2 0 (by omega)
        have := World.cell?_spot q
        simpa [Addr.add] using this
      subst hspot
      rw [add_plm] at hcell
      refine ⟨s, b, off, rfl, opat_of (fun m hm => ?_)⟩
      have := hcell m (by omega)
      rw [add_plm] at this
      exact this
    refine ⟨some a, cap, (List.range len).map fun i => if h : i < len then Classical.choose (each i h) else op0, ?_, ⟨fun k hk => ?_⟩, ?_⟩
    · simp
    · have hk2 : k < len := by simpa using hk
      have e : ((List.range len).map fun i => if h : i < len then Classical.choose (each i h) else op0).getD k op0 = Classical.choose (each k hk2) := by
        simp [List.getD, hk2]
      rw [e]
      obtain ⟨b, off, e1, hat⟩ := Classical.choose_spec (each k hk2)
      exact ⟨b, off, by rw [e1], lt_of_cell hat.c0, lt_of_cell hat.c0, hat⟩
    · rw [Prod.mk.injEq] at hx
      rw [hx.1] at hw
      simp only [DataW.weights, Tryd.underlying54, bytesOp, List.all_cons, Bool.and_eq_true, decide_eq_true_eq, List.length_map] at hw
      have hq := hw.1
      unfold reachBytes at hq
      simp only [List.length_map, List.length_range]
      omega
end
end Go.Proofs.YteoappoijihomahDoor
