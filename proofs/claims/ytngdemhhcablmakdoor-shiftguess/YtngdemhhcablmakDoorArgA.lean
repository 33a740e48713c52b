/-
  Numbers with a point that came in: by value, in a struct of three, in a slice. Rows of whole numbers and of numbers with a point that came in; five arguments.
-/
import Derived.WideShapes
import Derived.ChangeSlices
import Derived.ChangeShapes
import Derived.Test.YtngdemhhcablmakDoorFlK
import Derived.ProofKit
import Derived.OpenShut
import Derived.Carry
namespace Go.Proofs.YtngdemhhcablmakDoor
open Go Go.ChangeShapes Go.WideShapes

theorem cell_float {P : Program} {w : World} {r : Reach} {base : Nat} {t : TypeId} {v : Value} (ht : P.underlying t = some (.float .f64)) (h : Cell.okWide P w r base t v) : ∃ b, v = .float .f64 b ∧ b < 18446744073709551616 := by
  simp only [Cell.okWide, ht] at h
  cases v <;> simp_all [Cell.ok]
  simpa [FloatKind.has] using h.2
theorem okWide_float {P : Program} {w : World} {r : Reach} {base : Nat} {t : TypeId} {v : Value} (ht : P.underlying t = some (.float .f64)) (h : Value.okWide P w r base t v) : ∃ b, v = .float .f64 b ∧ b < 18446744073709551616 := by
  simp only [Value.okWide, ht] at h
  exact cell_float ht h
theorem okWide_three {P : Program} {w : World} {r : Reach} {base : Nat} {t e : TypeId} {fs : Array Field} {v : Value} (ht : P.underlying t = some (.struct fs)) (he : P.underlying e = some (.float .f64))
    (hc : P.cellsOf t = 3) (hts : P.cellTypes P.depth t = some [e, e, e]) (h : Value.okWide P w r base t v) :
    ∃ x y z, v = .agg #[.float .f64 x, .float .f64 y, .float .f64 z] := by
  simp only [Value.okWide, ht] at h
  obtain ⟨cs, rfl, h1, ts, h2, _, h4⟩ := h
  rw [hts] at h2
  cases h2
  rw [hc] at h1
  have g : ∀ i, i < 3 → ∃ b, cs[i]? = some (.float .f64 b) := by
    intro i hi
    have hs : i < cs.size := by omega
    obtain ⟨u, hu, hk⟩ := h4 i cs[i] (by simp [hs])
    have : u = e := by
      rcases (show i = 0 ∨ i = 1 ∨ i = 2 by omega) with rfl | rfl | rfl <;> simpa using hu.symm
    subst this
    obtain ⟨b, hb, _⟩ := cell_float he hk
    exact ⟨b, by simp [hs, hb]⟩
  obtain ⟨x, hx⟩ := g 0 (by omega)
  obtain ⟨y, hy⟩ := g 1 (by omega)
  obtain ⟨z, hz⟩ := g 2 (by omega)
  refine ⟨x, y, z, ?_⟩
  congr 1
  apply Array.ext_getElem?
  intro i
  rcases (show i = 0 ∨ i = 1 ∨ i = 2 ∨ 3 ≤ i by omega) with rfl | rfl | rfl | hi
  · rw [hx]; rfl
  · rw [hy]; rfl
  · rw [hz]; rfl
  · rw [Array.getElem?_eq_none (by omega), Array.getElem?_eq_none (by simpa using hi)]
section
variable {H : Type} {enc : TypeId × Value → H} {P : Program} {w : World} {base : Nat} {spare : Nat → Bool} {held : Bool}
theorem float_of_trod {e : TypeId} {n : Nat} {cs : List Value} {y : DataW H × List MemPlace} (he : P.underlying e = some (.float .f64)) (h : DataW.trod enc P w base spare held n e cs = some y) : ∃ b, cs = [.float .f64 b] ∧ b < 18446744073709551616 := by
  cases n with
  | zero => simp [DataW.trod] at h
  | succ n =>
    unfold DataW.trod at h
    rw [he] at h
    split at h
    all_goals try (rename_i e1; cases e1)
    all_goals try (rename_i e1 e2; cases e1)
    all_goals try cases h
    · split at h
      · rename_i hh
        refine ⟨_, rfl, ?_⟩
        simpa [Lit.wf, FloatKind.has] using hh.2
      · cases h
theorem open_floats {t e : TypeId} {fuel : Nat} {a : Addr} {len cap : Nat} {x : DataW H × List MemPlace} (ht : P.underlying t = some (.slice e)) (he : P.underlying e = some (.float .f64)) (hc : P.cellsOf e = 1)
    (h : DataW.trod enc P w base spare held fuel t [.slice (some a) len cap] = some x) :
    len ≤ cap ∧ cap ≤ maxLen ∧ ∃ zs : List Nat, zs.length = len ∧ (∀ i, i < len → w.cell? (a.add i) = some (.float .f64 (zs.getD i 0))) ∧ ∀ n ∈ zs, n < 18446744073709551616 := by
  rcases DataW.trod_slice ht h with ⟨h0, _⟩ | ⟨a', len', cap', elems, rest, n, _, hcs, rfl, hb, hl, hm, hlen, hel, _, _⟩
  · cases h0
  simp only [List.cons.injEq, Value.slice.injEq, Option.some.injEq, and_true] at hcs
  obtain ⟨rfl, rfl, rfl⟩ := hcs
  refine ⟨hl, hm, ?_⟩
  have each : ∀ i, i < len → ∃ b, w.cell? (a.add i) = some (.float .f64 b) ∧ b < 18446744073709551616 := by
    intro i hi
    have h1 := hel i hi
    have h2 : elems[i]? = some (elems[i]'(by omega)) := by simp
    rw [h2, hc, Nat.mul_one, Option.bind_eq_some_iff] at h1
    obtain ⟨cs', hcs, hy'⟩ := h1
    obtain ⟨b, rfl, hb⟩ := float_of_trod he hy'
    exact ⟨b, cell_of_cells?_one hcs, hb⟩
  refine ⟨(List.range len).map fun i => match w.cell? (a.add i) with | some (.float _ b) => b | _ => 0, by simp, ?_, ?_⟩
  · intro i hi
    obtain ⟨b, hb, _⟩ := each i hi
    simp [List.getD, hi, hb]
  · intro n hn
    simp only [List.mem_map, List.mem_range] at hn
    obtain ⟨i, hi, rfl⟩ := hn
    obtain ⟨b, hb, hlt⟩ := each i hi
    rw [hb]
    exact hlt
end
end Go.Proofs.YtngdemhhcablmakDoor
namespace Go.Proofs.YtngdemhhcablmakDoor
open Go Go.ChangeShapes Go.WideShapes Go.ChangeAt Go.RowKit

section
variable {H : Type} {enc : TypeId × Value → H} {P : Program} {w : World} {base : Nat} {spare : Nat → Bool} {held : Bool}
theorem trodAll_five {t0 t1 t2 t3 t4 : TypeId} {args : Array Value} {ds : List (DataW H)} {ps : List MemPlace} (h : DataW.TrodAll enc P w base spare held [t0, t1, t2, t3, t4] args.toList ds ps) :
    ∃ v0 v1 v2 v3 v4 d0 d1 d2 d3 d4 p0 p1 p2 p3 p4, args = #[v0, v1, v2, v3, v4] ∧ ds = [d0, d1, d2, d3, d4] ∧ ps = p0 ++ p1 ++ p2 ++ p3 ++ p4 ∧ DataW.Trod enc P w base spare held t0 v0 d0 p0 ∧ DataW.Trod enc P w base spare held t1 v1 d1 p1 ∧ DataW.Trod enc P w base spare held t2 v2 d2 p2 ∧ DataW.Trod enc P w base spare held t3 v3 d3 p3 ∧ DataW.Trod enc P w base spare held t4 v4 d4 p4 := by
  obtain ⟨v0, vs0, d0, ds0, p0, q0, hargs, rfl, rfl, h0, r0⟩ := trodAll_cons h
  obtain ⟨v1, vs1, d1, ds1, p1, q1, rfl, rfl, rfl, h1, r1⟩ := trodAll_cons r0
  obtain ⟨v2, vs2, d2, ds2, p2, q2, rfl, rfl, rfl, h2, r2⟩ := trodAll_cons r1
  obtain ⟨v3, vs3, d3, ds3, p3, q3, rfl, rfl, rfl, h3, r3⟩ := trodAll_cons r2
  obtain ⟨v4, vs4, d4, ds4, p4, q4, rfl, rfl, rfl, h4, r4⟩ := trodAll_cons r3
  obtain ⟨rfl, rfl, rfl⟩ := trodAll_nil r4
  exact ⟨v0, v1, v2, v3, v4, d0, d1, d2, d3, d4, p0, p1, p2, p3, p4, by cases args; simp_all, rfl, by simp, h0, h1, h2, h3, h4⟩
theorem trodAll_mk5 {t0 t1 t2 t3 t4 : TypeId} {v0 v1 v2 v3 v4 : Value} {d0 d1 d2 d3 d4 : DataW H} {p0 p1 p2 p3 p4 : List MemPlace} (h0 : DataW.Trod enc P w base spare held t0 v0 d0 p0) (h1 : DataW.Trod enc P w base spare held t1 v1 d1 p1) (h2 : DataW.Trod enc P w base spare held t2 v2 d2 p2) (h3 : DataW.Trod enc P w base spare held t3 v3 d3 p3) (h4 : DataW.Trod enc P w base spare held t4 v4 d4 p4) :
    DataW.TrodAll enc P w base spare held [t0, t1, t2, t3, t4] [v0, v1, v2, v3, v4] [d0, d1, d2, d3, d4] (p0 ++ (p1 ++ (p2 ++ (p3 ++ p4)))) := ⟨p0, p1 ++ (p2 ++ (p3 ++ p4)), h0, trodAll_mk4 h1 h2 h3 h4, rfl⟩
end
theorem cellI1 : Tryd.prog.cellsOf 3 = 1 := by kernel_rfl
theorem cellF1 : Tryd.prog.cellsOf 36 = 1 := by kernel_rfl
section
variable {H : Type} {enc : TypeId × Value → H} {w : World} {base : Nat} {spare : Nat → Bool} {held : Bool}
set_option maxRecDepth 100000 in
theorem int_row_came {r : Reach} {b0 : Nat} {v : Value} {d : DataW H} {ps : List MemPlace} (hval : Value.okWide Tryd.prog w r b0 43 v) (hd : DataW.Trod enc Tryd.prog w base spare held 43 v d ps) : ∃ (ad : Option Addr) (c : Nat) (L : List Int), v = .slice ad L.length c ∧ ICame w ad L ∧ L.length ≤ 9223372036854775807 := by
  obtain ⟨a0, len, cap, rfl⟩ := okWide_slice Tryd.underlying43 hval
  obtain ⟨fuel, h⟩ := hd
  rcases open_ints Tryd.underlying43 Tryd.underlying3 cellI1 h with ⟨hcs, _⟩ | ⟨a, len', cap', zs, hcs, _, hlc, hm, hz, _, hce, _⟩
  · simp [Value.cells] at hcs
    obtain ⟨rfl, rfl, rfl⟩ := hcs
    exact ⟨none, 0, [], rfl, ⟨fun k hk => absurd hk (Nat.not_lt_zero k)⟩, by simp⟩
  · simp [Value.cells] at hcs
    obtain ⟨rfl, rfl, rfl⟩ := hcs
    have hzl : len ≤ zs.length := by
      rw [hz]
      split <;> omega
    have hlen2 : (zs.take len).length = len := by rw [List.length_take]; omega
    refine ⟨some a, cap, zs.take len, by rw [hlen2], ⟨fun k hk => ?_⟩, by rw [hlen2]; unfold maxLen at hm; omega⟩
    have hk2 : k < len := by rw [← hlen2]; exact hk
    have hc := hce k (by omega)
    obtain ⟨ab, ao, spot⟩ := a
    have hspot : spot = none := by simpa [Addr.add] using World.cell?_spot (hce 0 (by omega))
    subst hspot
    rw [add_pl2] at hc
    have e : (zs.take len).getD k 0 = zs.getD k 0 := by simp [List.getD, hk2]
    refine ⟨ab, ao, rfl, ?_, by rw [hc, e]⟩
    rcases Nat.lt_or_ge ab w.heap.size with q | q
    · exact q
    · simp [World.cell?, Array.getElem?_eq_none q] at hc
set_option maxRecDepth 100000 in
theorem float_row_came {r : Reach} {b0 : Nat} {v : Value} {d : DataW H} {ps : List MemPlace} (hval : Value.okWide Tryd.prog w r b0 69 v) (hd : DataW.Trod enc Tryd.prog w base spare held 69 v d ps) : ∃ (ad : Option Addr) (c : Nat) (L : List Nat), v = .slice ad L.length c ∧ FCame w ad L ∧ L.length ≤ 9223372036854775807 := by
  obtain ⟨a0, len, cap, rfl⟩ := okWide_slice Tryd.underlying69 hval
  obtain ⟨fuel, h⟩ := hd
  cases a0 with
  | none =>
    rcases DataW.trod_slice Tryd.underlying69 h with ⟨h0, _⟩ | ⟨a, len', cap', elems, rest, n, _, hcs, _⟩
    · simp [Value.cells] at h0
      obtain ⟨rfl, rfl⟩ := h0
      exact ⟨none, 0, [], rfl, FCame.nil _ _, by simp⟩
    · simp [Value.cells] at hcs
  | some a =>
    obtain ⟨hlc, hm, zs, hz, hce, _⟩ := open_floats Tryd.underlying69 Tryd.underlying36 cellF1 (show DataW.trod enc Tryd.prog w base spare held fuel 69 [.slice (some a) len cap] = some _ from h)
    refine ⟨some a, cap, zs, by rw [hz], ⟨fun k hk => ?_⟩, by rw [hz]; unfold maxLen at hm; omega⟩
    rw [hz] at hk
    have hc := hce k hk
    obtain ⟨ab, ao, spot⟩ := a
    have hspot : spot = none := by simpa [Addr.add] using World.cell?_spot (hce 0 (by omega))
    subst hspot
    rw [add_pl2] at hc
    refine ⟨ab, ao, rfl, ?_, hc⟩
    rcases Nat.lt_or_ge ab w.heap.size with q | q
    · exact q
    · simp [World.cell?, Array.getElem?_eq_none q] at hc
end
end Go.Proofs.YtngdemhhcablmakDoor
