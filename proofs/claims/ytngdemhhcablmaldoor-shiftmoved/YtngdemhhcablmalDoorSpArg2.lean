/-
  A picture behind a pointer that came in, with room to look at parts of it.
-/
import Derived.Test.YtngdemhhcablmalDoorFrA
import Derived.ProofKit
import Derived.OpenShut
import Derived.ChangeSlices
import Derived.Carry
namespace Go.Proofs.YtngdemhhcablmalDoor
open Go Go.ChangeShapes Go.WideShapes Go.ChangeAt Go.RowKit

/-- a picture behind a pointer that came in, with room to look at parts of it. -/
inductive PicArg2 (w : World) : Value → Option Pic → Prop where
  | none : PicArg2 w (.pointer none) none
  | some {b o cap : Nat} {ad : Option Addr} {p : Pic} (h : PicAt w b o ad cap p) (hl : p.L.length * 8 ≤ 140737488355328) (hc : p.L.length ≤ cap) (hb : cap ≤ 9223372036854775807) : PicArg2 w (.pointer (some ⟨b, o, none⟩)) (some p)
theorem PicArg2.arg {w : World} {v : Value} {o : Option Pic} (h : PicArg2 w v o) : PicArg w v o := by
  cases h with
  | none => exact .none
  | some h hl _ _ => exact .some h hl
theorem PicArg2.below {w u : World} {v : Value} {o : Option Pic} (h : PicArg2 w v o) (k : Below w.heap.size w u) : PicArg2 u v o := by
  cases h with
  | none => exact .none
  | some h hl hc hb => exact .some (h.below k) hl hc hb
theorem picArg2_is {w : World} {v : Value} {p : Pic} (h : PicArg2 w v (some p)) : ∃ (b o cap : Nat) (ad : Option Addr), v = .pointer (some ⟨b, o, none⟩) ∧ PicAt w b o ad cap p ∧ p.L.length * 8 ≤ 140737488355328 ∧ PicC w (.agg #[.int .i64 p.wide, .int .i64 p.high, .slice ad p.L.length cap]) p := by
  cases h with
  | some h hl hc hb => exact ⟨_, _, _, _, rfl, h, hl, _, _, rfl, h.row, hl, hc, hb⟩
section
variable {H : Type} {enc : TypeId × Value → H} {w : World} {base : Nat} {spare : Nat → Bool} {held : Bool}
set_option maxRecDepth 100000 in
theorem pic_of_trod2 {n : Nat} {cs : List Value} {y : DataW H × List MemPlace} (h : DataW.trod enc Tryd.prog w base spare held n 25 cs = some y) (hw : (y.1.weights Tryd.prog 25).all (· ≤ reachBytes) = true) :
    ∃ (p : Pic) (ad : Option Addr) (cap : Nat), cs = [.int .i64 p.wide, .int .i64 p.high, .slice ad p.L.length cap] ∧ ICame w ad p.L ∧ p.L.length * 8 ≤ 140737488355328 ∧ p.L.length ≤ cap ∧ cap ≤ 9223372036854775807 := by
  obtain ⟨xs, m, _, hx, hl, hlen, hf⟩ := DataW.trod_struct Tryd.underlying25 h
  rw [cellsPic] at hl
  match cs, hl with
  | [c0, c1, c2], _ =>
    have hxx : ∀ i, i < 3 → ∃ yy, xs[i]? = some yy := fun i hi => by
      have : i < xs.length := by rw [hlen]; simpa using hi
      exact ⟨_, List.getElem?_eq_getElem this⟩
    have g0 := hf 0 _ rfl
    have g1 := hf 1 _ rfl
    have g2 := hf 2 _ rfl
    obtain ⟨y0, e0⟩ := hxx 0 (by omega)
    obtain ⟨y1, e1⟩ := hxx 1 (by omega)
    obtain ⟨y2, e2⟩ := hxx 2 (by omega)
    rw [e0] at g0
    rw [e1] at g1
    rw [e2] at g2
    replace g0 : DataW.trod enc Tryd.prog w base spare held m 3 (([c0, c1, c2].drop 0).take (Tryd.prog.cellsOf 3)) = some y0 := g0
    replace g1 : DataW.trod enc Tryd.prog w base spare held m 3 (([c0, c1, c2].drop 1).take (Tryd.prog.cellsOf 3)) = some y1 := g1
    replace g2 : DataW.trod enc Tryd.prog w base spare held m 23 (([c0, c1, c2].drop 2).take (Tryd.prog.cellsOf 23)) = some y2 := g2
    rw [cellsI] at g0 g1
    rw [cellsSI] at g2
    obtain ⟨wd, hwd⟩ := int_of_trod Tryd.underlying3 g0
    obtain ⟨hg, hhg⟩ := int_of_trod Tryd.underlying3 g1
    simp at hwd hhg
    subst hwd hhg
    have hxs : xs = [y0, y1, y2] := by
      match xs, hlen, e0, e1, e2 with
      | [a0, a1, a2], _, e0, e1, e2 =>
        simp at e0 e1 e2
        rw [e0, e1, e2]
    rcases open_ints Tryd.underlying23 Tryd.underlying3 cellsI g2 with ⟨hcs, _⟩ | ⟨a, len, cap, zs, hcs, _, hlc, hm, hz, hx2, hce, _⟩
    · simp at hcs
      subst hcs
      exact ⟨⟨wd, hg, []⟩, none, 0, rfl, ⟨fun k hk => absurd hk (Nat.not_lt_zero k)⟩, by simp, by simp, by simp⟩
    · simp at hcs
      subst hcs
      have hzl : len ≤ zs.length := by
        rw [hz]
        split <;> omega
      have hlen2 : (zs.take len).length = len := by rw [List.length_take]; omega
      have hbytes : zs.length * 8 ≤ reachBytes := by
        rw [hx, hxs, hx2] at hw
        simp only [DataW.weights, Tryd.underlying25, DataW.weightsEach, List.map, Tryd.underlying23, bytesI, List.all_append, List.all_cons, Bool.and_eq_true, decide_eq_true_eq] at hw
        have e : (lits .i64 (zs.take len) : List (DataW H)).length + (lits .i64 (zs.drop len) : List (DataW H)).length = zs.length := by
          simp [lits]
          omega
        have hq := hw.2.2.1.1
        rw [e] at hq
        exact hq
      refine ⟨⟨wd, hg, zs.take len⟩, some a, cap, ?_, ⟨fun k hk => ?_⟩, ?_, by rw [show (Pic.mk wd hg (zs.take len)).L = zs.take len from rfl, hlen2]; exact hlc, hm⟩
      · show [Value.int .i64 wd, .int .i64 hg, .slice (some a) len cap] = [.int .i64 wd, .int .i64 hg, .slice (some a) (zs.take len).length cap]
        rw [hlen2]
      · have hk2 : k < len := by rw [← hlen2]; exact hk
        have hc := hce k (by omega)
        obtain ⟨ab, ao, spot⟩ := a
        have hspot : spot = none := by simpa [Addr.add] using World.cell?_spot (hce 0 (by omega))
        subst hspot
        rw [add_pl2] at hc
        refine ⟨ab, ao, rfl, lt_of_cell hc, ?_⟩
        rw [hc]
        have e : (zs.take len).getD k 0 = zs.getD k 0 := by simp [List.getD, hk2]
        rw [show (Pic.mk wd hg (zs.take len)).L = zs.take len from rfl, e]
      · show (zs.take len).length * 8 ≤ 140737488355328
        rw [hlen2]
        unfold reachBytes at hbytes
        omega
set_option maxRecDepth 100000 in
theorem pic_came2 {r : Reach} {b0 : Nat} {v : Value} {d : DataW H} {ps : List MemPlace} (hval : Value.okWide Tryd.prog w r b0 22 v) (hd : DataW.Trod enc Tryd.prog w base spare held 22 v d ps)
    (hw : (d.weights Tryd.prog 22).all (· ≤ reachBytes) = true) : ∃ o, PicArg2 w v o := by
  rcases open_ptr Tryd.underlying22 (by rw [cellsPic]; decide) hval hd with ⟨rfl, _, _⟩ | ⟨b, off, cs, y, fuel, rfl, rfl, _, hl, hcell, ht⟩
  · exact ⟨_, .none⟩
  · have hw' : (y.1.weights Tryd.prog 25).all (· ≤ reachBytes) = true := by
      simp only [DataW.weights, Tryd.underlying22] at hw
      exact hw
    obtain ⟨p, ad, cap, rfl, hrow, hpl, hp1, hp2⟩ := pic_of_trod2 ht hw'
    rw [cellsPic] at hcell
    exact ⟨_, .some (pic_at (fun i hi => hcell i hi) hrow) hpl hp1 hp2⟩
end
end Go.Proofs.YtngdemhhcablmalDoor
