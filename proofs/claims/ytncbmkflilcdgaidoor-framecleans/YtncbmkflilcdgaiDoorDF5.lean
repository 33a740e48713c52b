/-
  The program's Clean.
-/
import Derived.Test.YtncbmkflilcdgaiDoorDF4
import Derived.Test.YtncbmkflilcdgaiDoorFrCw
import Derived.Test.YtncbmkflilcdgaiDoorDF5a
namespace Go.Proofs.YtncbmkflilcdgaiDoor
open Go Go.RowKit

theorem pair_came {w : World} {g : Nat} {d f : Pic} {ad af : Option Addr} {cd cf : Nat} (h : w.heap[g]? = some (.cells #[.int .i64 d.wide, .int .i64 d.high, .slice ad d.L.length cd, .int .i64 f.wide, .int .i64 f.high, .slice af f.L.length cf] 27)) (hd : ICame w ad d.L) (hf : ICame w af f.L) (ld : d.L.length ≤ 700) (lf : f.L.length ≤ 700) : PCame w (some ⟨g, 0, none⟩) [d, f] := ⟨fun k hk => by
  have hk2 : k < 2 := hk
  have low := ltB h
  rcases k with _ | _ | k
  · exact ⟨g, 0, ad, cd, rfl, ⟨low, (cell_in h 0 (by simp)).1, (cell_in h 1 (by simp)).1, (cell_in h 2 (by simp)).1, hd⟩, by show d.L.length * 8 ≤ _; omega⟩
  · exact ⟨g, 0, af, cf, rfl, ⟨low, (cell_in h 3 (by simp)).1, (cell_in h 4 (by simp)).1, (cell_in h 5 (by simp)).1, hf⟩, by show f.L.length * 8 ≤ _; omega⟩
  · omega⟩
theorem wt_clean (p d f : Pic) (full : Int) : cleanE p d f full = if wtE p [d, f] ≠ 0 then wtE p [d, f] else if full < 1 ∨ 65535 < full ∨ someN f.L = 0 then 5 else 0 := by
  have hall : ([d, f].all fun q => decide (q.wide = p.wide) && decide (q.high = p.high)) = decide (p.wide = d.wide ∧ p.high = d.high ∧ p.wide = f.wide ∧ p.high = f.high) := by
    rw [Bool.eq_iff_iff]
    simp only [List.all_cons, List.all_nil, Bool.and_true, Bool.and_eq_true, decide_eq_true_eq]
    constructor
    · rintro ⟨⟨h1, h2⟩, h3, h4⟩
      exact ⟨h1.symm, h2.symm, h3.symm, h4.symm⟩
    · rintro ⟨h1, h2, h3, h4⟩
      exact ⟨⟨h1.symm, h2.symm⟩, h3.symm, h4.symm⟩
  have h5 : (5 : Int) ≠ 0 := by decide
  unfold cleanE wtE firstE firstE firstE
  rw [hall]
  generalize picE p = e1
  generalize picE d = e2
  generalize picE f = e3
  by_cases h1 : e1 = 0
  · by_cases h2 : e2 = 0
    · by_cases h3 : e3 = 0
      · subst h1 h2 h3
        by_cases hz : p.wide = d.wide ∧ p.high = d.high ∧ p.wide = f.wide ∧ p.high = f.high
        · rw [decide_eq_true hz]
          have e : (¬ (p.wide = d.wide ∧ p.high = d.high ∧ p.wide = f.wide ∧ p.high = f.high) ∨ full < 1 ∨ 65535 < full ∨ someN f.L = 0) ↔ (full < 1 ∨ 65535 < full ∨ someN f.L = 0) := ⟨fun k => k.elim (fun k => absurd hz k) id, .inr⟩
          simp only [e]
          simp
        · rw [decide_eq_false hz]
          have e : (¬ (p.wide = d.wide ∧ p.high = d.high ∧ p.wide = f.wide ∧ p.high = f.high) ∨ full < 1 ∨ 65535 < full ∨ someN f.L = 0) ↔ True := ⟨fun _ => trivial, fun _ => .inl hz⟩
          simp only [e]
          simp
      · simp [h1, h2, h3]
    · simp [h1, h2]
  · simp [h1]
theorem wt_zero {p d f : Pic} (h : wtE p [d, f] = 0) : PicOk p ∧ PicOk d ∧ PicOk f ∧ d.wide = p.wide ∧ d.high = p.high ∧ f.wide = p.wide ∧ f.high = p.high := by
  unfold wtE firstE firstE firstE at h
  by_cases h1 : picE p = 0
  · by_cases h2 : picE d = 0
    · by_cases h3 : picE f = 0
      · simp [h1, h2, h3] at h
        exact ⟨pic_ok h1, pic_ok h2, pic_ok h3, h.1, h.2.1, h.2.2.1, h.2.2.2⟩
      · simp [h1, h2, h3] at h
    · simp [h1, h2] at h
  · simp [h1] at h
theorem same_len {p d : Pic} (hp : PicOk p) (hd : PicOk d) (h1 : d.wide = p.wide) (h2 : d.high = p.high) : d.L.length = p.L.length := by
  have a := hp.len
  have b := hd.len
  rw [h1, h2, ← a] at b
  exact_mod_cast b
def CleanP (a : Nat → Addr) (p d f : Pic) (full : Int) (w : World) (e : Ending) (w' : World) : Prop := ∃ (X Y : List Int) (ax ay : Option Addr) (cx cy : Nat) (er : Value) (Wd Hg : Int), e = .returned (.tuple #[.agg #[.int .i64 Wd, .int .i64 Hg, .slice ax X.length cx], .slice ay Y.length cy, er]) ∧ ErrIs a (cleanE p d f full) er ∧
    (cleanE p d f full = 0 → X = cleanV p d f ∧ Y = fullV p full ∧ Wd = p.wide ∧ Hg = p.high) ∧ (cleanE p d f full ≠ 0 → X = [] ∧ Y = []) ∧ ITyped w' ax X ∧ ITyped w' ay Y ∧ Below w.heap.size w w'
theorem typed_nil (w : World) : ITyped w none [] := ⟨⟨fun k hk => absurd hk (Nat.not_lt_zero k)⟩, fun a0 h => by cases h⟩
theorem clean_bad {a : Nat → Addr} {p d f : Pic} {full : Int} {w u : World} {er : Value} (h : ErrIs a (cleanE p d f full) er) (h0 : cleanE p d f full ≠ 0) (k : Below w.heap.size w u) : CleanP a p d f full w (.returned (.tuple #[.agg #[.int .i64 0, .int .i64 0, .slice none 0 0], .slice none 0 0, er])) u :=
  ⟨[], [], none, none, 0, 0, er, 0, 0, rfl, h, fun q => absurd q h0, fun _ => ⟨rfl, rfl⟩, typed_nil _, typed_nil _, k⟩
/-- how far the loop has come. -/
structure ClAt (a : Nat → Addr) (p d f : Pic) (ap ad af : Option Addr) (cp cd cf : Nat) (full M : Int) (w : World) (B C g k : Nat) (fv : Value) (u : World) : Prop where
  bel : Below w.heap.size w u
  g1 : u.heap[w.heap.size]? = some (.cells #[.int .i64 d.wide, .int .i64 d.high, .slice ad d.L.length cd, .int .i64 f.wide, .int .i64 f.high, .slice af f.L.length cf, .int .i64 full] 32)
  g2 : u.heap[w.heap.size + 1]? = some (.cells #[.int .i64 p.wide, .int .i64 p.high, .slice ap p.L.length cp] 27)
  g3 : u.heap[w.heap.size + 1 + 1]? = some (.cells #[.int .i64 p.wide, .int .i64 p.high, .slice (some ⟨g, 0, none⟩) p.L.length p.L.length] 27)
  row : u.ownsRow B 3 1 (.slice (some ⟨g, 0, none⟩) p.L.length p.L.length) p.L.length ((cleanK M p d f k ++ List.replicate (p.L.length - k) 0).map (Value.int .i64))
  full_ : u.ownsRow C 3 1 fv (fullK p full k).length ((fullK p full k).map (Value.int .i64))
  lo : w.heap.size + 1 + 1 < B
  hg : B ≤ g
  hC : g < C
  sz : C ≤ u.heap.size
theorem ClAt.go {a : Nat → Addr} {p d f : Pic} {ap ad af : Option Addr} {cp cd cf : Nat} {full M : Int} {w : World} {B C g k : Nat} {fv : Value} {u v : World} (h : ClAt a p d f ap ad af cp cd cf full M w B C g k fv u) (b : Below u.heap.size u v) : ClAt a p d f ap ad af cp cd cf full M w B C g k fv v :=
  ⟨below_go h.bel b, keepB h.g1 b, keepB h.g2 b, keepB h.g3 b, own_below2 h.row b, own_below2 h.full_ b, h.lo, h.hg, h.hC, Nat.le_trans h.sz b.size⟩
theorem light_set {p d f : Pic} {M : Int} {k : Nat} (hk : k < p.L.length) : ((cleanK M p d f k ++ List.replicate (p.L.length - k) 0).map (Value.int .i64)).set k (.int .i64 (lightV M (p.L.getD k 0) (d.L.getD k 0) (f.L.getD k 0))) = (cleanK M p d f (k + 1) ++ List.replicate (p.L.length - (k + 1)) 0).map (Value.int .i64) := by
  rw [cleanK_next, show p.L.length - k = (p.L.length - (k + 1)) + 1 by omega, List.replicate_succ, List.map_append, List.map_append, List.map_append, List.map_cons]
  have l : ((cleanK M p d f k).map (Value.int .i64)).length = k := by rw [List.length_map, cleanK_length]
  rw [List.set_append_right _ _ (by omega), l, Nat.sub_self]
  simp
theorem ClAt.put {a : Nat → Addr} {p d f : Pic} {ap ad af : Option Addr} {cp cd cf : Nat} {full M : Int} {w : World} {B C g k : Nat} {fv : Value} {u : World} (h : ClAt a p d f ap ad af cp cd cf full M w B C g k fv u) (hk : k < p.L.length) :
    ClAt a p d f ap ad af cp cd cf full M w B C g k fv u → (u.setCell ⟨g, k, none⟩ (.int .i64 (lightV M (p.L.getD k 0) (d.L.getD k 0) (f.L.getD k 0)))).ownsRow B 3 1 (.slice (some ⟨g, 0, none⟩) p.L.length p.L.length) p.L.length ((cleanK M p d f (k + 1) ++ List.replicate (p.L.length - (k + 1)) 0).map (Value.int .i64)) := fun _ => by
  have := (h.row.stored k (.int .i64 (lightV M (p.L.getD k 0) (d.L.getD k 0) (f.L.getD k 0)))).1
  rwa [light_set hk] at this
/-- .. the light of pixel k stored, its count not yet looked at. -/
structure ClHalf (a : Nat → Addr) (p d f : Pic) (ap ad af : Option Addr) (cp cd cf : Nat) (full M : Int) (w : World) (B C g k : Nat) (fv : Value) (u : World) : Prop where
  bel : Below w.heap.size w u
  g1 : u.heap[w.heap.size]? = some (.cells #[.int .i64 d.wide, .int .i64 d.high, .slice ad d.L.length cd, .int .i64 f.wide, .int .i64 f.high, .slice af f.L.length cf, .int .i64 full] 32)
  g2 : u.heap[w.heap.size + 1]? = some (.cells #[.int .i64 p.wide, .int .i64 p.high, .slice ap p.L.length cp] 27)
  g3 : u.heap[w.heap.size + 1 + 1]? = some (.cells #[.int .i64 p.wide, .int .i64 p.high, .slice (some ⟨g, 0, none⟩) p.L.length p.L.length] 27)
  row : u.ownsRow B 3 1 (.slice (some ⟨g, 0, none⟩) p.L.length p.L.length) p.L.length ((cleanK M p d f (k + 1) ++ List.replicate (p.L.length - (k + 1)) 0).map (Value.int .i64))
  full_ : u.ownsRow C 3 1 fv (fullK p full k).length ((fullK p full k).map (Value.int .i64))
  lo : w.heap.size + 1 + 1 < B
  hg : B ≤ g
  hC : g < C
  sz : C ≤ u.heap.size
theorem ClAt.half {a : Nat → Addr} {p d f : Pic} {ap ad af : Option Addr} {cp cd cf : Nat} {full M : Int} {w : World} {B C g k : Nat} {fv : Value} {u : World} (h : ClAt a p d f ap ad af cp cd cf full M w B C g k fv u) (hk : k < p.L.length) :
    ClHalf a p d f ap ad af cp cd cf full M w B C g k fv (u.setCell ⟨g, k, none⟩ (.int .i64 (lightV M (p.L.getD k 0) (d.L.getD k 0) (f.L.getD k 0)))) := by
  have hb := h.lo
  have hg := h.hg
  have ne : ∀ b, b < B → b ≠ (⟨g, k, none⟩ : Addr).block := fun b hb q => by simp only at q; omega
  exact ⟨h.bel.setCell (by show w.heap.size ≤ g; omega) _, (heap_setCell_other u ⟨g, k, none⟩ _ _ (ne _ (by omega))).trans h.g1, (heap_setCell_other u ⟨g, k, none⟩ _ _ (ne _ (by omega))).trans h.g2, (heap_setCell_other u ⟨g, k, none⟩ _ _ (ne _ (by omega))).trans h.g3, h.put hk h, ownsRow_setCell_below h.full_ h.hC _, h.lo, h.hg, h.hC, by simpa [World.setCell] using h.sz⟩
theorem ClHalf.small {a : Nat → Addr} {p d f : Pic} {ap ad af : Option Addr} {cp cd cf : Nat} {full M : Int} {w : World} {B C g k : Nat} {fv : Value} {u : World} (h : ClHalf a p d f ap ad af cp cd cf full M w B C g k fv u) (hx : ¬ full ≤ p.L.getD k 0) : ClAt a p d f ap ad af cp cd cf full M w B C g (k + 1) fv u := by
  have e : fullK p full (k + 1) = fullK p full k := by rw [fullK_next, if_neg hx, List.append_nil]
  exact ⟨h.bel, h.g1, h.g2, h.g3, h.row, by rw [e]; exact h.full_, h.lo, h.hg, h.hC, h.sz⟩
theorem ClHalf.big {a : Nat → Addr} {p d f : Pic} {ap ad af : Option Addr} {cp cd cf : Nat} {full M : Int} {w : World} {B C g k : Nat} {fv fv' : Value} {u v : World} (o : Obj) (h : ClHalf a p d f ap ad af cp cd cf full M w B C g k fv u) (hx : full ≤ p.L.getD k 0)
    (ho : v.ownsRow C 3 1 fv' ((fullK p full k).length + 1) ((fullK p full k).map (Value.int .i64) ++ [.int .i64 (k : Int)])) (hgr : (u.alloc o).grownBy v fv.ownBlock) : ClAt a p d f ap ad af cp cd cf full M w B C g (k + 1) fv' v := by
  have e : fullK p full (k + 1) = fullK p full k ++ [(k : Int)] := by rw [fullK_next, if_pos hx]
  have ge : ∀ j, fv.ownBlock = some j → C ≤ j := own_at2 h.full_
  have h1 := h.lo
  have h2 := h.hg
  have h3 := h.hC
  have h4 := h.sz
  have kp : ∀ b, b < C → ∀ {x : Obj}, u.heap[b]? = some x → v.heap[b]? = some x := fun b hb x hx => by
    have := hgr.block b (by simp; omega) (fun q => by have := ge b q.symm; omega)
    rw [this]
    exact keepA hx
  refine ⟨((below_go h.bel (below_a u o)).grown hgr (by have := (below_go h.bel (below_a u o)).size; exact this) (fun j hj => by have := ge j hj; omega)), kp _ (by omega) h.g1, kp _ (by omega) h.g2, kp _ (by omega) h.g3, ?_, ?_, h1, h2, h3, by have := hgr.size; simp at this; omega⟩
  · refine World.ownsRow.kept (own_below2 h.row (below_a u o)) hgr (.inr ?_)
    intro q
    have : fv.ownBlock = some g := by rw [← q]; rfl
    have := ge g this
    omega
  · rw [e, List.length_append, List.map_append]
    exact ho
theorem own_typed {w : World} {B : Nat} {v : Value} {L : List Int} (h : w.ownsRow B 3 1 v L.length (L.map (Value.int .i64))) : ∃ ad cap, v = .slice ad L.length cap ∧ ITyped w ad L := by
  obtain ⟨ad, cap, e, hr, _⟩ := own_ints h
  refine ⟨ad, cap, e, hr, fun a0 ha => ?_⟩
  subst ha
  rcases h.2 with ⟨h1, _⟩ | ⟨g, c, cur, h1, _, h3, _⟩
  · rw [e] at h1; cases h1
  · rw [e] at h1
    injection h1 with h1
    injection h1 with h1
    subst h1
    exact ⟨_, _, h3⟩
theorem clean_good {a : Nat → Addr} {p d f : Pic} {ap ad af : Option Addr} {cp cd cf : Nat} {full M : Int} {w : World} {B C g : Nat} {fv : Value} {u : World} (hM : sumV f.L / (someN f.L : Int) = M) (h0 : cleanE p d f full = 0) (h : ClAt a p d f ap ad af cp cd cf full M w B C g p.L.length fv u) :
    CleanP a p d f full w (.returned (.tuple #[.agg #[.int .i64 p.wide, .int .i64 p.high, .slice (some ⟨g, 0, none⟩) p.L.length p.L.length], fv, .nilIface])) (((u.setCell ⟨w.heap.size + 1 + 1, 0, none⟩ (.int .i64 p.wide)).setCell ⟨w.heap.size + 1 + 1, 1, none⟩ (.int .i64 p.high)).setCell ⟨w.heap.size + 1 + 1, 2, none⟩ (.slice (some ⟨g, 0, none⟩) p.L.length p.L.length)) := by
  have lo := h.lo
  have hg := h.hg
  have hC := h.hC
  have hrow := three_own (y0 := .int .i64 p.wide) (y1 := .int .i64 p.high) (y2 := .slice (some ⟨g, 0, none⟩) p.L.length p.L.length) h.row lo
  have hful := three_own (y0 := .int .i64 p.wide) (y1 := .int .i64 p.high) (y2 := .slice (some ⟨g, 0, none⟩) p.L.length p.L.length) h.full_ (show w.heap.size + 1 + 1 < C by omega)
  have eX : cleanK M p d f p.L.length ++ List.replicate (p.L.length - p.L.length) 0 = cleanV p d f := by
    rw [Nat.sub_self, List.replicate_zero, List.append_nil, ← hM]
    rfl
  have eL : (cleanV p d f).length = p.L.length := by simp [cleanV]
  rw [eX] at hrow
  have hrow2 : (((u.setCell ⟨w.heap.size + 1 + 1, 0, none⟩ (.int .i64 p.wide)).setCell ⟨w.heap.size + 1 + 1, 1, none⟩ (.int .i64 p.high)).setCell ⟨w.heap.size + 1 + 1, 2, none⟩ (.slice (some ⟨g, 0, none⟩) p.L.length p.L.length)).ownsRow B 3 1 (.slice (some ⟨g, 0, none⟩) p.L.length p.L.length) (cleanV p d f).length ((cleanV p d f).map (Value.int .i64)) := by rw [eL]; exact hrow
  obtain ⟨ax, cx, e1, t1⟩ := own_typed hrow2
  obtain ⟨ay, cy, e2, t2⟩ := own_typed hful
  rw [e1, e2]
  refine ⟨cleanV p d f, fullV p full, ax, ay, cx, cy, .nilIface, p.wide, p.high, rfl, .inl ⟨h0, rfl⟩, fun _ => ⟨rfl, rfl, rfl, rfl⟩, fun q => absurd h0 q, ?_, ?_, three_below h.bel (by omega)⟩
  · rw [e1] at t1
    exact t1
  · rw [e1] at t2
    exact t2
end Go.Proofs.YtncbmkflilcdgaiDoor
