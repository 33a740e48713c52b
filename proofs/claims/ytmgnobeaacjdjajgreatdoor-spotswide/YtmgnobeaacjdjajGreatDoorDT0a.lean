/-
  Two rows of whole numbers beside a picture: medians that are kept, counts that are put in order.
-/
import Derived.Test.YtmgnobeaacjdjajGreatDoorSpKA
import Derived.Test.YtmgnobeaacjdjajGreatDoorOwnTwo
import Derived.Test.YtmgnobeaacjdjajGreatDoorPureA
import Derived.Sort.OwnSortedInts
import Derived.Laws.MakeOwn
namespace Go.Proofs.YtmgnobeaacjdjajGreatDoor
open Go Go.RowKit Go.Sort

theorem IOwn.ne_pic {u : World} {B b : Nat} {v : Value} {C : List Int} {x0 x1 x2 : Value} (h : IOwn u B v C) (hb : u.heap[b]? = some (.cells #[x0, x1, x2] 31)) : v.ownBlock ≠ some b := by
  intro q
  unfold IOwn at h
  rcases h.2 with ⟨h1, _⟩ | ⟨g, c, cur, h1, _, h3, _⟩
  · rw [h1] at q; cases q
  · rw [h1] at q
    have e : g = b := by simpa [Value.ownBlock] using q
    subst e
    rw [hb] at h3
    injection h3 with h3
    injection h3 with _ h4
    revert h4
    decide
/-- cut to nothing. -/
theorem IOwn.cut0 {u : World} {B n c : Nat} {ad : Option Addr} {C : List Int} (h : IOwn u B (.slice ad n c) C) : IOwn u B (.slice ad 0 c) [] := by
  unfold IOwn at h ⊢
  refine ⟨rfl, ?_⟩
  rcases h.2 with ⟨h1, _⟩ | ⟨g, c', cur, h1, h2, h3, h4, h5, h6, h7⟩
  · injection h1 with e1 e2 e3
    subst e1
    subst e3
    exact .inl ⟨rfl, rfl⟩
  · injection h1 with e1 e2 e3
    subst e1
    subst e3
    exact .inr ⟨g, c, cur, rfl, h2, h3, Nat.zero_le _, h5, h6, by simp⟩
set_option maxRecDepth 100000 in
theorem slice_none (u : World) {w : World} {B n c : Nat} {ad : Option Addr} {C : List Int} (h : IOwn w B (.slice ad n c) C) : (Instr.slice 29 (.slice ad n c) none (some (.int .i64 0)) none).run Tryz.prog u = .ok (.slice ad 0 c) u := by
  rw [run_slice_h u 29 ad n c Tryz.underlying29 .i64 0 (by omega) (by omega)]
  unfold IOwn at h
  rcases h.2 with ⟨h1, _⟩ | ⟨g, c', cur, h1, _⟩
  · injection h1 with e1 e2 e3
    subst e1
    subst e3
    simp [go_sem, sliced]
  · injection h1 with e1 e2 e3
    subst e1
    simp [go_sem, sliced]
theorem make_capS {w : World} {n : Nat} (B : Nat) (hB : B ≤ w.heap.size) (hn : n ≤ 100000) : ∃ w', (Instr.makeSlice 29 (.int .i64 0) (.int .i64 (n : Int))).run Tryz.prog w = .ok (.slice (some ⟨w.heap.size, 0, none⟩) 0 n) w' ∧ IOwn w' B (.slice (some ⟨w.heap.size, 0, none⟩) 0 n) [] ∧ Below w.heap.size w w' := by
  obtain ⟨i0, hi0, hz0, hz1, hz2⟩ := info_parts infoI
  obtain ⟨w', h1, h2, h3⟩ := run_make_own (P := Tryz.prog) w B 29 3 i0 (.int .i64 0) 1 (by kernel_rfl) hi0 hz0 hz1 .i64 .i64 n (by rw [hz2]; omega) (by simp [maxLen]; omega) hB
  exact ⟨w', h1, h2, (Below.refl _ _).grown h3 (Nat.le_refl _) (fun k hk => by cases hk)⟩
structure TmS (p : Pic) (w : World) (b : Nat) (ad : Option Addr) (cap : Nat) (lv cv : Value) (A Y : List Int) (u : World) : Prop where
  bel : Below w.heap.size w u
  g : u.heap[b]? = some (.cells #[.int .i64 p.wide, .int .i64 p.high, .slice ad p.L.length cap] 31)
  l : IOwn u w.heap.size lv A
  c : IOwn u w.heap.size cv Y
  ap : Apart2 cv lv
theorem own_gr {u v : World} {B n s : Nat} {e : TypeId} {x : Value} {xs : List Value} {r : Option Nat} (h : u.ownsRow B e s x n xs) (g : u.grownBy v r) (ne : ∀ k, x.ownBlock = some k → some k ≠ r) : v.ownsRow B e s x n xs := by
  obtain ⟨a1, a2⟩ := h
  refine ⟨a1, ?_⟩
  rcases a2 with a2 | ⟨k, cap, cur, hv, hB, hh, q⟩
  · exact .inl a2
  · refine .inr ⟨k, cap, cur, hv, hB, ?_, q⟩
    rw [g.block k (Array.getElem?_eq_some_iff.1 hh).1 (ne k (by rw [hv]; rfl))]
    exact hh
theorem TmS.addC {p : Pic} {w u v : World} {b cap : Nat} {ad : Option Addr} {lv cv cv' : Value} {A Y Z : List Int} (h : TmS p w b ad cap lv cv A Y u) (ho : v.ownsRow w.heap.size 3 1 cv' (Y.length + Z.length) (Y.map (Value.int .i64) ++ Z.map (Value.int .i64))) (hg : u.grownBy v cv.ownBlock) (hb : cv'.ownBlock = cv.ownBlock ∨ cv'.ownBlock = some u.heap.size) : TmS p w b ad cap lv cv' A (Y ++ Z) v := by
  have k := two_keep h.l h.ap hg hb (Nat.le_refl _)
  refine ⟨h.bel.grown hg h.bel.size (fun q hq => own_at2 h.c q hq), ?_, k.1, ?_, k.2⟩
  · rw [hg.block b (ltB h.g) (fun e => h.c.ne_pic h.g e.symm)]
    exact h.g
  · unfold IOwn
    rw [List.length_append, List.map_append]
    exact ho
theorem TmS.addL {p : Pic} {w u v : World} {b cap : Nat} {ad : Option Addr} {lv cv lv' : Value} {A Y : List Int} {x : Int} {o : Obj} (h : TmS p w b ad cap lv cv A Y u) (ho : v.ownsRow w.heap.size 3 1 lv' (A.length + 1) (A.map (Value.int .i64) ++ [.int .i64 x])) (hg : (u.alloc o).grownBy v lv.ownBlock) (hb : lv'.ownBlock = lv.ownBlock ∨ lv'.ownBlock = some (u.alloc o).heap.size) : TmS p w b ad cap lv' cv (A ++ [x]) Y v := by
  have k := two_keep (own_below2 h.c (below_a u o)) h.ap.symm hg hb (Nat.le_refl _)
  refine ⟨(h.bel.alloc h.bel.size o).grown hg (by have := h.bel.size; simp; omega) (fun q hq => own_at2 h.l q hq), ?_, ?_, k.1, k.2.symm⟩
  · rw [hg.block b (by have := ltB h.g; simp; omega) (fun e => h.l.ne_pic h.g e.symm), alloc_block (ltB h.g)]
    exact h.g
  · unfold IOwn
    rw [List.length_append, List.map_append]
    exact ho
theorem TmS.cut {p : Pic} {w u : World} {b cap n c : Nat} {ad a2 : Option Addr} {lv : Value} {A Y : List Int} (h : TmS p w b ad cap lv (.slice a2 n c) A Y u) : TmS p w b ad cap lv (.slice a2 0 c) A [] u :=
  ⟨h.bel, h.g, h.l, h.c.cut0, fun g hg => h.ap g (by cases a2 <;> exact hg)⟩
theorem TmS.sort {p : Pic} {w u v : World} {b cap n c gy : Nat} {ad : Option Addr} {lv : Value} {A Y : List Int} (h : TmS p w b ad cap lv (.slice (some ⟨gy, 0, none⟩) n c) A Y u) (hY : Y.length = n)
    (hv : ∃ q os, v = grow (putRow (Value.int .i64) (Sort.ahead u q) gy 0 (Y.mergeSort fun x y => decide (x ≤ y)).toArray) os) : TmS p w b ad cap lv (.slice (some ⟨gy, 0, none⟩) n c) A (Y.mergeSort fun x y => decide (x ≤ y)) v := by
  obtain ⟨q, os, rfl⟩ := hv
  have gr := grownBy_sortedI (w := u) (g := gy) (n := q) (os := os) (Y.mergeSort fun x y => decide (x ≤ y)).toArray
  have hc := h.c
  unfold IOwn at hc
  rcases hc.2 with ⟨h1, _⟩ | ⟨g', c', cur, h1, h2, h3, h4, h5, h6, h7⟩
  · cases h1
  injection h1 with h1 _ hcc
  injection h1 with h1
  injection h1 with h1
  subst h1
  subst hcc
  refine ⟨h.bel.grown gr h.bel.size (fun j hj => by cases hj; exact h2), ?_, ?_, ?_, h.ap⟩
  · rw [gr.block b (ltB h.g) (fun e => h.c.ne_pic h.g (by simpa [Value.ownBlock] using e.symm))]
    exact h.g
  · exact own_gr h.l gr (fun k hk e => by
      cases e
      exact h.ap gy rfl hk)
  · unfold IOwn
    have := ownsRow_sortedI (w := u) (base := w.heap.size) (g := gy) (cap := c) (n := q) (e := 3) (os := os) (cur := cur) (ss := Y) (ts := Y.mergeSort fun x y => decide (x ≤ y)) (List.length_mergeSort _) h2 h3 h4 h5 h6
    rw [List.length_mergeSort, hY] at *
    exact this
theorem IOwn.holds {u : World} {B gy n c : Nat} {Y : List Int} (h : IOwn u B (.slice (some ⟨gy, 0, none⟩) n c) Y) : Holds (Value.int .i64) u gy 0 Y.toArray := by
  unfold IOwn at h
  rcases h.2 with ⟨h1, _⟩ | ⟨g', c', cur, h1, _, h3, _, _, _, h7⟩
  · cases h1
  · injection h1 with h1
    injection h1 with h1
    injection h1 with h1
    subst h1
    exact holds_of_blockI h3 (by simpa using h7)
theorem own_some {u : World} {B : Nat} {v : Value} {C : List Int} (h : IOwn u B v C) (hn : 0 < C.length) : ∃ g c, v = .slice (some ⟨g, 0, none⟩) C.length c := by
  unfold IOwn at h
  rcases h.2 with ⟨_, h1⟩ | ⟨g, c, cur, h1, _⟩
  · omega
  · exact ⟨g, c, h1⟩
theorem IOwn.lt0 {w : World} {B g n c : Nat} {C : List Int} (h : IOwn w B (.slice (some ⟨g, 0, none⟩) n c) C) : g < w.heap.size := by
  unfold IOwn at h
  rcases h.2 with ⟨h1, _⟩ | ⟨g', c, cur, h1, _, hh, _⟩
  · cases h1
  · injection h1 with h1 _ _
    injection h1 with h1
    injection h1 with h1
    subst h1
    exact (Array.getElem?_eq_some_iff.1 hh).1
end Go.Proofs.YtmgnobeaacjdjajGreatDoor
