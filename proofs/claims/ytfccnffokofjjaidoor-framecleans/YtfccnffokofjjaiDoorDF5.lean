/-
  The program's Clean.
-/
import Derived.Test.YtfccnffokofjjaiDoorDF4
import Derived.Test.YtfccnffokofjjaiDoorFrCw
namespace Go.Proofs.YtfccnffokofjjaiDoor
open Go Go.RowKit

theorem cell_in {w : World} {g : Nat} {cs : Array Value} {ty : TypeId} (h : w.heap[g]? = some (.cells cs ty)) (k : Nat) (hk : k < cs.size) : w.cell? ⟨g, k, none⟩ = some cs[k] ∧ w.frozen? ⟨g, k, none⟩ = false := by
  constructor
  · simp [World.cell?, h, hk]
  · simp [World.frozen?, h]
def SlZ (n : Nat) (v : Value) : Prop := ∃ g, v = .slice (some ⟨g, 0, none⟩) n n
def OwnZ (B n : Nat) (v : Value) (w : World) : Prop := w.ownsRow B 3 1 v n ((List.replicate n (0 : Int)).map (Value.int .i64))
theorem ownZ_stb (B n : Nat) (v : Value) : Stb (OwnZ B n v) := fun _ _ h k => own_below2 h k
theorem make_zero {w : World} {n : Nat} (B : Nat) (hB : B ≤ w.heap.size) (hn : n ≤ 65536) : ∃ w', (Instr.makeSlice 25 (.int .i64 (n : Int)) (.int .i64 (n : Int))).run Tryd.prog w = .ok (.slice (some ⟨w.heap.size, 0, none⟩) n n) w' ∧ OwnZ B n (.slice (some ⟨w.heap.size, 0, none⟩) n n) w' ∧ Below w.heap.size w w' := by
  obtain ⟨i0, hi0, hz0, hz1, hz2⟩ := info_parts infoI
  obtain ⟨w', h1, h2, h3⟩ := run_make_full (P := Tryd.prog) w B 25 3 i0 (.int .i64 0) 1 (by kernel_rfl) hi0 hz0 hz1 .i64 .i64 n (by rw [hz2]; omega) (by simp [maxLen]; omega) hB
  refine ⟨w', h1, ?_, (Below.refl _ _).grown h3 (Nat.le_refl _) (fun k hk => by cases hk)⟩
  unfold OwnZ
  have e : (madeCells (Value.cells (.int .i64 0)) (n * 1)).toList = (List.replicate n (0 : Int)).map (Value.int .i64) := by
    rw [Nat.mul_one, show (Value.cells (.int .i64 0)) = #[.int .i64 0] from rfl, toList_madeCells_one, List.map_replicate]
  rw [← e]
  exact h2
theorem own_low {w : World} {B C n s : Nat} {e : TypeId} {v : Value} {xs : List Value} (h : w.ownsRow B e s v n xs) (hb : C ≤ B) : w.ownsRow C e s v n xs := by
  obtain ⟨h1, h2⟩ := h
  refine ⟨h1, ?_⟩
  rcases h2 with h2 | ⟨g, cap, cur, hv, hg, hh⟩
  · exact Or.inl h2
  · exact Or.inr ⟨g, cap, cur, hv, Nat.le_trans hb hg, hh⟩
def EmptyPost (W H : Int) (n : Nat) (w : World) (e : Ending) (w' : World) : Prop := ∃ g, e = .returned (.agg #[.int .i64 W, .int .i64 H, .slice (some ⟨g, 0, none⟩) n n]) ∧ OwnZ w.heap.size n (.slice (some ⟨g, 0, none⟩) n n) w' ∧ Below w.heap.size w w'
theorem three_set {w : World} {g : Nat} {x0 x1 x2 y0 y1 y2 : Value} {ty : TypeId} (h : w.heap[g]? = some (.cells #[x0, x1, x2] ty)) : (((w.setCell ⟨g, 0, none⟩ y0).setCell ⟨g, 1, none⟩ y1).setCell ⟨g, 2, none⟩ y2).heap[g]? = some (.cells #[y0, y1, y2] ty) := by
  have h1 := heap_setCell_same w g 0 _ _ y0 h
  have h2 := heap_setCell_same _ g 1 _ _ y1 h1
  have h3 := heap_setCell_same _ g 2 _ _ y2 h2
  exact h3
theorem three_below {w u : World} {B g : Nat} {y0 y1 y2 : Value} (h : Below B w u) (hg : B ≤ g) : Below B w (((u.setCell ⟨g, 0, none⟩ y0).setCell ⟨g, 1, none⟩ y1).setCell ⟨g, 2, none⟩ y2) := ((h.setCell (by simpa using hg) _).setCell (by simpa using hg) _).setCell (by simpa using hg) _
theorem three_own {w : World} {B g n s : Nat} {e : TypeId} {v : Value} {xs : List Value} {y0 y1 y2 : Value} (h : w.ownsRow B e s v n xs) (hg : g < B) : (((w.setCell ⟨g, 0, none⟩ y0).setCell ⟨g, 1, none⟩ y1).setCell ⟨g, 2, none⟩ y2).ownsRow B e s v n xs :=
  ownsRow_setCell_below (ownsRow_setCell_below (ownsRow_setCell_below h (by simpa using hg) _) (by simpa using hg) _) (by simpa using hg) _
set_option maxRecDepth 100000 in
set_option maxHeartbeats 1600000 in
theorem empty_any (W H : Int) (ad : Option Addr) (n cap : Nat) (w : World) (hn : n ≤ 65536) : Calls Tryd.prog 13 #[.agg #[.int .i64 W, .int .i64 H, .slice ad n cap]] w (EmptyPost W H n w) := by
  have HG := hideR (alloc_last w (.cells #[.int .i64 W, .int .i64 H, .slice ad n cap] 27))
  have HB := hideR (below_a w (.cells #[.int .i64 W, .int .i64 H, .slice ad n cap] 27))
  go_enter Tryd.func13, Tryd.ntmps13
  go_wp2_with fail
  replace HG := hideR (keepA (o' := .cells #[.int .i64 0, .int .i64 0, .slice none 0 0] 27) (unhideR HG))
  replace HB := hideR (below_go (unhideR HB) (below_a _ (.cells #[.int .i64 0, .int .i64 0, .slice none 0 0] 27)))
  have HC := hideR (alloc_last (w.alloc (.cells #[.int .i64 W, .int .i64 H, .slice ad n cap] 27)) (.cells #[.int .i64 0, .int .i64 0, .slice none 0 0] 27))
  have hsz : (w.alloc (.cells #[.int .i64 W, .int .i64 H, .slice ad n cap] 27)).heap.size = w.heap.size + 1 := by simp
  rw [hsz] at HC
  generalize (w.alloc (.cells #[.int .i64 W, .int .i64 H, .slice ad n cap] 27)).alloc (.cells #[.int .i64 0, .int .i64 0, .slice none 0 0] 27) = W0 at *
  clear hsz
  refine wp_region_made 1 #[true, true, true, true, true, true, true, true, false, false] [.lets (· = .pointer (some ⟨w.heap.size, 0, none⟩)),
    .lets (· = .int .i64 W),
    .lets (· = .pointer (some ⟨w.heap.size, 1, none⟩)),
    .lets (· = .int .i64 H),
    .lets (· = .pointer (some ⟨w.heap.size, 2, none⟩)),
    .lets (· = .slice ad n cap),
    .lets (· = .int .i64 (n : Nat)),
    .made (SlZ n) (OwnZ W0.heap.size n)] [7] [] (by kernel_rfl) (by kernel_rfl) rfl ?kinds (by kernel_rfl) (by kernel_rfl) (by kernel_rfl) ?_
  case kinds =>
    constructor
    · intro i h
      rcases i with _ | _ | _ | _ | _ | _ | _ | _ | i <;> simp [Kx.isMade] at h ⊢
    · intro i h
      rcases i with _ | _ | _ | _ | _ | _ | _ | _ | i <;> simp [Kx.isUse] at h
  refine lexX_step (fun K hK => ⟨by kernel_rfl, ⟨_, rfl⟩, fun v hv => ?_, fun v hv => ?_⟩)
  · go_simp
    exact mUpon_b
  subst hv
  go_simp
  refine hK _ ?_
  clear hK K
  refine lexX_step (fun K hK => ⟨by kernel_rfl, ⟨_, rfl⟩, fun v hv => ?_, fun v hv => ?_⟩)
  · obtain ⟨c0, c1, c2⟩ := pic_three (keepB (unhideR HG) hv)
    go_simp
    exact mUpon_b
  subst hv
  go_simp
  refine hK _ ?_
  clear hK K
  refine lexX_step (fun K hK => ⟨by kernel_rfl, ⟨_, rfl⟩, fun v hv => ?_, fun v hv => ?_⟩)
  · go_simp
    exact mUpon_b
  subst hv
  go_simp
  refine hK _ ?_
  clear hK K
  refine lexX_step (fun K hK => ⟨by kernel_rfl, ⟨_, rfl⟩, fun v hv => ?_, fun v hv => ?_⟩)
  · obtain ⟨c0, c1, c2⟩ := pic_three (keepB (unhideR HG) hv)
    go_simp
    exact mUpon_b
  subst hv
  go_simp
  refine hK _ ?_
  clear hK K
  refine lexX_step (fun K hK => ⟨by kernel_rfl, ⟨_, rfl⟩, fun v hv => ?_, fun v hv => ?_⟩)
  · go_simp
    exact mUpon_b
  subst hv
  go_simp
  refine hK _ ?_
  clear hK K
  refine lexX_step (fun K hK => ⟨by kernel_rfl, ⟨_, rfl⟩, fun v hv => ?_, fun v hv => ?_⟩)
  · obtain ⟨c0, c1, c2⟩ := pic_three (keepB (unhideR HG) hv)
    go_simp
    exact mUpon_b
  subst hv
  go_simp
  refine hK _ ?_
  clear hK K
  refine lexX_step (fun K hK => ⟨by kernel_rfl, ⟨_, rfl⟩, fun v hv => ?_, fun v hv => ?_⟩)
  · go_simp
    exact mUpon_b
  subst hv
  go_simp
  refine hK _ ?_
  clear hK K
  refine lexX_made ⟨by kernel_rfl, ⟨_, 0, rfl⟩, ownZ_stb _ _, fun v hv => ?_, ?_⟩
  · obtain ⟨v', hr, ho, hb⟩ := make_zero (n := n) W0.heap.size hv.size hn
    go_simp
    exact ⟨hb, ⟨_, rfl⟩, ho⟩
  rintro _ ⟨g, rfl⟩ K hK
  go_simp
  refine hK _ ?_
  clear hK K
  refine lexX_end (fun v5 hv => ?_)
  have HO := hideR hv.fact.2
  have HV := hideR hv.low
  have hc := keepB (unhideR HC) hv.low
  obtain ⟨q0, q1, q2⟩ := pic_three hc
  obtain ⟨z0, z1, z2⟩ := pic_open hc
  clear hv hc
  refine wpAny_step (i := 8) (by kernel_rfl) rfl (by kernel_rfl) (fun K hK => ?_)
  unfold Oper.wp
  go_simp
  refine hK _ _ ?_
  clear hK K
  refine wpAny_step (i := 9) (by kernel_rfl) rfl (by kernel_rfl) (fun K hK => ?_)
  unfold Oper.wp
  go_simp
  refine hK _ _ ?_
  clear hK K
  refine wpAny_end (by kernel_rfl) ?_
  have hc := three_set (y0 := .int .i64 W) (y1 := .int .i64 H) (y2 := .slice (some ⟨g, 0, none⟩) n n) (keepB (unhideR HC) (unhideR HV))
  have HO2 := hideR (three_own (y0 := .int .i64 W) (y1 := .int .i64 H) (y2 := .slice (some ⟨g, 0, none⟩) n n) (unhideR HO) (ltB (unhideR HC)))
  have HB2 := hideR (three_below (g := w.heap.size + 1) (y0 := .int .i64 W) (y1 := .int .i64 H) (y2 := .slice (some ⟨g, 0, none⟩) n n) (below_go (unhideR HB) (unhideR HV)) (by omega))
  clear q0 q1 q2 z0 z1 z2
  generalize ((v5.setCell ⟨w.heap.size + 1, 0, none⟩ (.int .i64 W)).setCell ⟨w.heap.size + 1, 1, none⟩ (.int .i64 H)).setCell ⟨w.heap.size + 1, 2, none⟩ (.slice (some ⟨g, 0, none⟩) n n) = u5 at *
  obtain ⟨q0, q1, q2⟩ := pic_three hc
  clear hc
  go_wp2
  simp [bodyPost, results, Tryd.results13, go_sem, q0, q1, q2]
  exact ⟨g, rfl, own_low (unhideR HO2) (unhideR HB).size, unhideR HB2⟩
theorem pair_came {w : World} {g : Nat} {d f : Pic} {ad af : Option Addr} {cd cf : Nat} (h : w.heap[g]? = some (.cells #[.int .i64 d.wide, .int .i64 d.high, .slice ad d.L.length cd, .int .i64 f.wide, .int .i64 f.high, .slice af f.L.length cf] 27)) (hd : ICame w ad d.L) (hf : ICame w af f.L) (ld : d.L.length ≤ 700) (lf : f.L.length ≤ 700) : PCame w (some ⟨g, 0, none⟩) [d, f] := ⟨fun k hk => by
  have hk2 : k < 2 := hk
  have low := ltB h
  rcases k with _ | _ | k
  · exact ⟨g, 0, ad, cd, rfl, ⟨low, (cell_in h 0 (by simp)).1, (cell_in h 1 (by simp)).1, (cell_in h 2 (by simp)).1, hd⟩, by show d.L.length * 8 ≤ _; omega⟩
  · exact ⟨g, 0, af, cf, rfl, ⟨low, (cell_in h 3 (by simp)).1, (cell_in h 4 (by simp)).1, (cell_in h 5 (by simp)).1, hf⟩, by show f.L.length * 8 ≤ _; omega⟩
  · omega⟩
theorem wt_clean (p d f : Pic) (full : Int) : cleanE p d f full = if wtE p [d, f] ≠ 0 then wtE p [d, f] else if full < 1 ∨ 65535 < full ∨ someN f.L = 0 then 5 else 0 := by
  have hall : ([d, f].all fun q => decide (q.wide = p.wide) && decide (q.high = p.high)) = decide (p.wide = d.wide ∧ p.high = d.high ∧ p.wide = f.wide ∧ p.high = f.high) := by
    rw [Bool.eq_iff_iff]
    simp only [List.all_cons, List.all_nil, Bool.and_true, Bool.and_eq_true, decide_eq_true_eq]
    constructor
    · rintro ⟨⟨h1, h2⟩, h3, h4⟩
      exact ⟨h1.symm, h2.symm, h3.symm, h4.symm⟩
    · rintro ⟨h1, h2, h3, h4⟩
      exact ⟨⟨h1.symm, h2.symm⟩, h3.symm, h4.symm⟩
  have h5 : (5 : Int) ≠ 0 := by decide
  unfold cleanE wtE firstE firstE firstE
  rw [hall]
  generalize picE p = e1
  generalize picE d = e2
  generalize picE f = e3
  by_cases h1 : e1 = 0
  · by_cases h2 : e2 = 0
    · by_cases h3 : e3 = 0
      · subst h1 h2 h3
        by_cases hz : p.wide = d.wide ∧ p.high = d.high ∧ p.wide = f.wide ∧ p.high = f.high
        · rw [decide_eq_true hz]
          have e : (¬ (p.wide = d.wide ∧ p.high = d.high ∧ p.wide = f.wide ∧ p.high = f.high) ∨ full < 1 ∨ 65535 < full ∨ someN f.L = 0) ↔ (full < 1 ∨ 65535 < full ∨ someN f.L = 0) := ⟨fun k => k.elim (fun k => absurd hz k) id, .inr⟩
          simp only [e]
          simp
        · rw [decide_eq_false hz]
          have e : (¬ (p.wide = d.wide ∧ p.high = d.high ∧ p.wide = f.wide ∧ p.high = f.high) ∨ full < 1 ∨ 65535 < full ∨ someN f.L = 0) ↔ True := ⟨fun _ => trivial, fun _ => .inl hz⟩
          simp only [e]
          simp
      · simp [h1, h2, h3]
    · simp [h1, h2]
  · simp [h1]
theorem wt_zero {p d f : Pic} (h : wtE p [d, f] = 0) : PicOk p ∧ PicOk d ∧ PicOk f ∧ d.wide = p.wide ∧ d.high = p.high ∧ f.wide = p.wide ∧ f.high = p.high := by
  unfold wtE firstE firstE firstE at h
  by_cases h1 : picE p = 0
  · by_cases h2 : picE d = 0
    · by_cases h3 : picE f = 0
      · simp [h1, h2, h3] at h
        exact ⟨pic_ok h1, pic_ok h2, pic_ok h3, h.1, h.2.1, h.2.2.1, h.2.2.2⟩
      · simp [h1, h2, h3] at h
    · simp [h1, h2] at h
  · simp [h1] at h
theorem same_len {p d : Pic} (hp : PicOk p) (hd : PicOk d) (h1 : d.wide = p.wide) (h2 : d.high = p.high) : d.L.length = p.L.length := by
  have a := hp.len
  have b := hd.len
  rw [h1, h2, ← a] at b
  exact_mod_cast b
def CleanP (a : Nat → Addr) (p d f : Pic) (full : Int) (w : World) (e : Ending) (w' : World) : Prop := ∃ (X Y : List Int) (ax ay : Option Addr) (cx cy : Nat) (er : Value) (Wd Hg : Int), e = .returned (.tuple #[.agg #[.int .i64 Wd, .int .i64 Hg, .slice ax X.length cx], .slice ay Y.length cy, er]) ∧ ErrIs a (cleanE p d f full) er ∧
    (cleanE p d f full = 0 → X = cleanV p d f ∧ Y = fullV p full ∧ Wd = p.wide ∧ Hg = p.high) ∧ (cleanE p d f full ≠ 0 → X = [] ∧ Y = []) ∧ ITyped w' ax X ∧ ITyped w' ay Y ∧ Below w.heap.size w w'
theorem typed_nil (w : World) : ITyped w none [] := ⟨⟨fun k hk => absurd hk (Nat.not_lt_zero k)⟩, fun a0 h => by cases h⟩
theorem clean_bad {a : Nat → Addr} {p d f : Pic} {full : Int} {w u : World} {er : Value} (h : ErrIs a (cleanE p d f full) er) (h0 : cleanE p d f full ≠ 0) (k : Below w.heap.size w u) : CleanP a p d f full w (.returned (.tuple #[.agg #[.int .i64 0, .int .i64 0, .slice none 0 0], .slice none 0 0, er])) u :=
  ⟨[], [], none, none, 0, 0, er, 0, 0, rfl, h, fun q => absurd q h0, fun _ => ⟨rfl, rfl⟩, typed_nil _, typed_nil _, k⟩
/-- how far the loop has come. -/
structure ClAt (a : Nat → Addr) (p d f : Pic) (ap ad af : Option Addr) (cp cd cf : Nat) (full M : Int) (w : World) (B C g k : Nat) (fv : Value) (u : World) : Prop where
  bel : Below w.heap.size w u
  g1 : u.heap[w.heap.size]? = some (.cells #[.int .i64 d.wide, .int .i64 d.high, .slice ad d.L.length cd, .int .i64 f.wide, .int .i64 f.high, .slice af f.L.length cf, .int .i64 full] 32)
  g2 : u.heap[w.heap.size + 1]? = some (.cells #[.int .i64 p.wide, .int .i64 p.high, .slice ap p.L.length cp] 27)
  g3 : u.heap[w.heap.size + 1 + 1]? = some (.cells #[.int .i64 p.wide, .int .i64 p.high, .slice (some ⟨g, 0, none⟩) p.L.length p.L.length] 27)
  row : u.ownsRow B 3 1 (.slice (some ⟨g, 0, none⟩) p.L.length p.L.length) p.L.length ((cleanK M p d f k ++ List.replicate (p.L.length - k) 0).map (Value.int .i64))
  full_ : u.ownsRow C 3 1 fv (fullK p full k).length ((fullK p full k).map (Value.int .i64))
  lo : w.heap.size + 1 + 1 < B
  hg : B ≤ g
  hC : g < C
  sz : C ≤ u.heap.size
theorem ClAt.go {a : Nat → Addr} {p d f : Pic} {ap ad af : Option Addr} {cp cd cf : Nat} {full M : Int} {w : World} {B C g k : Nat} {fv : Value} {u v : World} (h : ClAt a p d f ap ad af cp cd cf full M w B C g k fv u) (b : Below u.heap.size u v) : ClAt a p d f ap ad af cp cd cf full M w B C g k fv v :=
  ⟨below_go h.bel b, keepB h.g1 b, keepB h.g2 b, keepB h.g3 b, own_below2 h.row b, own_below2 h.full_ b, h.lo, h.hg, h.hC, Nat.le_trans h.sz b.size⟩
theorem light_set {p d f : Pic} {M : Int} {k : Nat} (hk : k < p.L.length) : ((cleanK M p d f k ++ List.replicate (p.L.length - k) 0).map (Value.int .i64)).set k (.int .i64 (lightV M (p.L.getD k 0) (d.L.getD k 0) (f.L.getD k 0))) = (cleanK M p d f (k + 1) ++ List.replicate (p.L.length - (k + 1)) 0).map (Value.int .i64) := by
  rw [cleanK_next, show p.L.length - k = (p.L.length - (k + 1)) + 1 by omega, List.replicate_succ, List.map_append, List.map_append, List.map_append, List.map_cons]
  have l : ((cleanK M p d f k).map (Value.int .i64)).length = k := by rw [List.length_map, cleanK_length]
  rw [List.set_append_right _ _ (by omega), l, Nat.sub_self]
  simp
theorem ClAt.put {a : Nat → Addr} {p d f : Pic} {ap ad af : Option Addr} {cp cd cf : Nat} {full M : Int} {w : World} {B C g k : Nat} {fv : Value} {u : World} (h : ClAt a p d f ap ad af cp cd cf full M w B C g k fv u) (hk : k < p.L.length) :
    ClAt a p d f ap ad af cp cd cf full M w B C g k fv u → (u.setCell ⟨g, k, none⟩ (.int .i64 (lightV M (p.L.getD k 0) (d.L.getD k 0) (f.L.getD k 0)))).ownsRow B 3 1 (.slice (some ⟨g, 0, none⟩) p.L.length p.L.length) p.L.length ((cleanK M p d f (k + 1) ++ List.replicate (p.L.length - (k + 1)) 0).map (Value.int .i64)) := fun _ => by
  have := (h.row.stored k (.int .i64 (lightV M (p.L.getD k 0) (d.L.getD k 0) (f.L.getD k 0)))).1
  rwa [light_set hk] at this
/-- .. the light of pixel k stored, its count not yet looked at. -/
structure ClHalf (a : Nat → Addr) (p d f : Pic) (ap ad af : Option Addr) (cp cd cf : Nat) (full M : Int) (w : World) (B C g k : Nat) (fv : Value) (u : World) : Prop where
  bel : Below w.heap.size w u
  g1 : u.heap[w.heap.size]? = some (.cells #[.int .i64 d.wide, .int .i64 d.high, .slice ad d.L.length cd, .int .i64 f.wide, .int .i64 f.high, .slice af f.L.length cf, .int .i64 full] 32)
  g2 : u.heap[w.heap.size + 1]? = some (.cells #[.int .i64 p.wide, .int .i64 p.high, .slice ap p.L.length cp] 27)
  g3 : u.heap[w.heap.size + 1 + 1]? = some (.cells #[.int .i64 p.wide, .int .i64 p.high, .slice (some ⟨g, 0, none⟩) p.L.length p.L.length] 27)
  row : u.ownsRow B 3 1 (.slice (some ⟨g, 0, none⟩) p.L.length p.L.length) p.L.length ((cleanK M p d f (k + 1) ++ List.replicate (p.L.length - (k + 1)) 0).map (Value.int .i64))
  full_ : u.ownsRow C 3 1 fv (fullK p full k).length ((fullK p full k).map (Value.int .i64))
  lo : w.heap.size + 1 + 1 < B
  hg : B ≤ g
  hC : g < C
  sz : C ≤ u.heap.size
theorem ClAt.half {a : Nat → Addr} {p d f : Pic} {ap ad af : Option Addr} {cp cd cf : Nat} {full M : Int} {w : World} {B C g k : Nat} {fv : Value} {u : World} (h : ClAt a p d f ap ad af cp cd cf full M w B C g k fv u) (hk : k < p.L.length) :
    ClHalf a p d f ap ad af cp cd cf full M w B C g k fv (u.setCell ⟨g, k, none⟩ (.int .i64 (lightV M (p.L.getD k 0) (d.L.getD k 0) (f.L.getD k 0)))) := by
  have hb := h.lo
  have hg := h.hg
  have ne : ∀ b, b < B → b ≠ (⟨g, k, none⟩ : Addr).block := fun b hb q => by simp only at q; omega
  exact ⟨h.bel.setCell (by show w.heap.size ≤ g; omega) _, (heap_setCell_other u ⟨g, k, none⟩ _ _ (ne _ (by omega))).trans h.g1, (heap_setCell_other u ⟨g, k, none⟩ _ _ (ne _ (by omega))).trans h.g2, (heap_setCell_other u ⟨g, k, none⟩ _ _ (ne _ (by omega))).trans h.g3, h.put hk h, ownsRow_setCell_below h.full_ h.hC _, h.lo, h.hg, h.hC, by simpa [World.setCell] using h.sz⟩
theorem ClHalf.small {a : Nat → Addr} {p d f : Pic} {ap ad af : Option Addr} {cp cd cf : Nat} {full M : Int} {w : World} {B C g k : Nat} {fv : Value} {u : World} (h : ClHalf a p d f ap ad af cp cd cf full M w B C g k fv u) (hx : ¬ full ≤ p.L.getD k 0) : ClAt a p d f ap ad af cp cd cf full M w B C g (k + 1) fv u := by
  have e : fullK p full (k + 1) = fullK p full k := by rw [fullK_next, if_neg hx, List.append_nil]
  exact ⟨h.bel, h.g1, h.g2, h.g3, h.row, by rw [e]; exact h.full_, h.lo, h.hg, h.hC, h.sz⟩
theorem ClHalf.big {a : Nat → Addr} {p d f : Pic} {ap ad af : Option Addr} {cp cd cf : Nat} {full M : Int} {w : World} {B C g k : Nat} {fv fv' : Value} {u v : World} (o : Obj) (h : ClHalf a p d f ap ad af cp cd cf full M w B C g k fv u) (hx : full ≤ p.L.getD k 0)
    (ho : v.ownsRow C 3 1 fv' ((fullK p full k).length + 1) ((fullK p full k).map (Value.int .i64) ++ [.int .i64 (k : Int)])) (hgr : (u.alloc o).grownBy v fv.ownBlock) : ClAt a p d f ap ad af cp cd cf full M w B C g (k + 1) fv' v := by
  have e : fullK p full (k + 1) = fullK p full k ++ [(k : Int)] := by rw [fullK_next, if_pos hx]
  have ge : ∀ j, fv.ownBlock = some j → C ≤ j := own_at2 h.full_
  have h1 := h.lo
  have h2 := h.hg
  have h3 := h.hC
  have h4 := h.sz
  have kp : ∀ b, b < C → ∀ {x : Obj}, u.heap[b]? = some x → v.heap[b]? = some x := fun b hb x hx => by
    have := hgr.block b (by simp; omega) (fun q => by have := ge b q.symm; omega)
    rw [this]
    exact keepA hx
  refine ⟨((below_go h.bel (below_a u o)).grown hgr (by have := (below_go h.bel (below_a u o)).size; exact this) (fun j hj => by have := ge j hj; omega)), kp _ (by omega) h.g1, kp _ (by omega) h.g2, kp _ (by omega) h.g3, ?_, ?_, h1, h2, h3, by have := hgr.size; simp at this; omega⟩
  · refine World.ownsRow.kept (own_below2 h.row (below_a u o)) hgr (.inr ?_)
    intro q
    have : fv.ownBlock = some g := by rw [← q]; rfl
    have := ge g this
    omega
  · rw [e, List.length_append, List.map_append]
    exact ho
theorem own_typed {w : World} {B : Nat} {v : Value} {L : List Int} (h : w.ownsRow B 3 1 v L.length (L.map (Value.int .i64))) : ∃ ad cap, v = .slice ad L.length cap ∧ ITyped w ad L := by
  obtain ⟨ad, cap, e, hr, _⟩ := own_ints h
  refine ⟨ad, cap, e, hr, fun a0 ha => ?_⟩
  subst ha
  rcases h.2 with ⟨h1, _⟩ | ⟨g, c, cur, h1, _, h3, _⟩
  · rw [e] at h1; cases h1
  · rw [e] at h1
    injection h1 with h1
    injection h1 with h1
    subst h1
    exact ⟨_, _, h3⟩
theorem clean_good {a : Nat → Addr} {p d f : Pic} {ap ad af : Option Addr} {cp cd cf : Nat} {full M : Int} {w : World} {B C g : Nat} {fv : Value} {u : World} (hM : sumV f.L / (someN f.L : Int) = M) (h0 : cleanE p d f full = 0) (h : ClAt a p d f ap ad af cp cd cf full M w B C g p.L.length fv u) :
    CleanP a p d f full w (.returned (.tuple #[.agg #[.int .i64 p.wide, .int .i64 p.high, .slice (some ⟨g, 0, none⟩) p.L.length p.L.length], fv, .nilIface])) (((u.setCell ⟨w.heap.size + 1 + 1, 0, none⟩ (.int .i64 p.wide)).setCell ⟨w.heap.size + 1 + 1, 1, none⟩ (.int .i64 p.high)).setCell ⟨w.heap.size + 1 + 1, 2, none⟩ (.slice (some ⟨g, 0, none⟩) p.L.length p.L.length)) := by
  have lo := h.lo
  have hg := h.hg
  have hC := h.hC
  have hrow := three_own (y0 := .int .i64 p.wide) (y1 := .int .i64 p.high) (y2 := .slice (some ⟨g, 0, none⟩) p.L.length p.L.length) h.row lo
  have hful := three_own (y0 := .int .i64 p.wide) (y1 := .int .i64 p.high) (y2 := .slice (some ⟨g, 0, none⟩) p.L.length p.L.length) h.full_ (show w.heap.size + 1 + 1 < C by omega)
  have eX : cleanK M p d f p.L.length ++ List.replicate (p.L.length - p.L.length) 0 = cleanV p d f := by
    rw [Nat.sub_self, List.replicate_zero, List.append_nil, ← hM]
    rfl
  have eL : (cleanV p d f).length = p.L.length := by simp [cleanV]
  rw [eX] at hrow
  have hrow2 : (((u.setCell ⟨w.heap.size + 1 + 1, 0, none⟩ (.int .i64 p.wide)).setCell ⟨w.heap.size + 1 + 1, 1, none⟩ (.int .i64 p.high)).setCell ⟨w.heap.size + 1 + 1, 2, none⟩ (.slice (some ⟨g, 0, none⟩) p.L.length p.L.length)).ownsRow B 3 1 (.slice (some ⟨g, 0, none⟩) p.L.length p.L.length) (cleanV p d f).length ((cleanV p d f).map (Value.int .i64)) := by rw [eL]; exact hrow
  obtain ⟨ax, cx, e1, t1⟩ := own_typed hrow2
  obtain ⟨ay, cy, e2, t2⟩ := own_typed hful
  rw [e1, e2]
  refine ⟨cleanV p d f, fullV p full, ax, ay, cx, cy, .nilIface, p.wide, p.high, rfl, .inl ⟨h0, rfl⟩, fun _ => ⟨rfl, rfl, rfl, rfl⟩, fun q => absurd h0 q, ?_, ?_, three_below h.bel (by omega)⟩
  · rw [e1] at t1
    exact t1
  · rw [e1] at t2
    exact t2
end Go.Proofs.YtfccnffokofjjaiDoor
