/-
  An orbit by three places: the document's answer, by its contract.
-/
import Derived.Test.YtfamndjiaebmbafBits1
import Derived.Test.YtfamndjiaebmbafGibV
import Derived.Test.YtfamndjiaebmbafFin1
namespace Go.Proofs.Ytfamndjiaebmbaf
open Go Go.RowKit

/-- boxes of vectors. -/
structure Bx (l : List (Nat × V3)) (w : World) : Prop where
  all : ∀ p ∈ l, VBox w p.1 p.2
theorem Bx.go {l : List (Nat × V3)} {w u : World} (h : Bx l w) (k : Below w.heap.size w u) : Bx l u := ⟨fun p hp => (h.all p hp).go k⟩
theorem Bx.get {l : List (Nat × V3)} {w : World} (h : Bx l w) {b : Nat} {q : V3} (hm : (b, q) ∈ l) : VBox w b q := h.all (b, q) hm
theorem Bx.cons {l : List (Nat × V3)} {w : World} (h : Bx l w) {b : Nat} {q : V3} (hv : VBox w b q) : Bx ((b, q) :: l) w := ⟨fun p hp => by
  rcases List.mem_cons.1 hp with rfl | hp
  · exact hv
  · exact h.all p hp⟩
theorem Bx.set {l : List (Nat × V3)} {w : World} (h : Bx l w) {b : Nat} (hb : ∀ p ∈ l, p.1 ≠ b) (q : V3) : Bx l (((w.setCell ⟨b, 0, none⟩ (.float .f64 q.x)).setCell ⟨b, 1, none⟩ (.float .f64 q.y)).setCell ⟨b, 2, none⟩ (.float .f64 q.z)) :=
  ⟨fun p hp => ⟨(set3_other (hb p hp)).trans (h.all p hp).at_⟩⟩
theorem Bx.lt {l : List (Nat × V3)} {w : World} (h : Bx l w) : ∀ p ∈ l, p.1 < w.heap.size := fun p hp => ltB (h.all p hp).at_
def SetV (P : V3 → Prop) (v : Value) : Prop := ∃ r : V3, v = r.val ∧ P r
theorem sc_some (f : Nat) (v : V3) : ∃ u, SetV (ScV f v) u := by
  obtain ⟨x, hx⟩ := fop_some .mul f v.x
  obtain ⟨y, hy⟩ := fop_some .mul f v.y
  obtain ⟨z, hz⟩ := fop_some .mul f v.z
  exact ⟨_, ⟨x, y, z⟩, rfl, hx, hy, hz⟩
theorem bo_some (v u : V3) : ∃ r, BoV v u r := by
  obtain ⟨x, hx⟩ := fop_some .add v.x u.x
  obtain ⟨y, hy⟩ := fop_some .add v.y u.y
  obtain ⟨z, hz⟩ := fop_some .add v.z u.z
  exact ⟨⟨x, y, z⟩, hx, hy, hz⟩
theorem cr_some (p q : V3) : ∃ r, CrV p q r := by
  obtain ⟨x, hx⟩ := ev_some (crE p.y q.z p.z q.y)
  obtain ⟨y, hy⟩ := ev_some (crE p.z q.x p.x q.z)
  obtain ⟨z, hz⟩ := ev_some (crE p.x q.y p.y q.x)
  exact ⟨⟨x, y, z⟩, hx, hy, hz⟩
/-- a sum of two multiples. -/
def MM (f : Nat) (v : V3) (g : Nat) (u : V3) (r : V3) : Prop := ∃ s t, ScV f v s ∧ ScV g u t ∧ BoV s t r
def PM (n : V3) (f : Nat) (v r : V3) : Prop := ∃ s, ScV f v s ∧ BoV n s r
def BB (p q s r : V3) : Prop := ∃ t, BoV p q t ∧ BoV t s r
theorem mm_some (f : Nat) (v : V3) (g : Nat) (u : V3) : ∃ r, SetV (MM f v g u) r := by
  obtain ⟨_, s, _, hs⟩ := sc_some f v
  obtain ⟨_, t, _, ht⟩ := sc_some g u
  obtain ⟨r, hr⟩ := bo_some s t
  exact ⟨_, r, rfl, s, t, hs, ht, hr⟩
theorem pm_some (n : V3) (f : Nat) (v : V3) : ∃ r, SetV (PM n f v) r := by
  obtain ⟨_, s, _, hs⟩ := sc_some f v
  obtain ⟨r, hr⟩ := bo_some n s
  exact ⟨_, r, rfl, s, hs, hr⟩
theorem bb_some (p q s : V3) : ∃ r, SetV (BB p q s) r := by
  obtain ⟨t, ht⟩ := bo_some p q
  obtain ⟨r, hr⟩ := bo_some t s
  exact ⟨_, r, rfl, t, ht, hr⟩
def zero3 : Obj := .cells #[.float .f64 0, .float .f64 0, .float .f64 0] 24
def FS2 (op : BinOp) (x y : Nat) (v : Value) : Prop := ∃ r, v = .float .f64 r ∧ FOp op x y r
theorem fs_some (op : BinOp) (x y : Nat) : ∃ v, FS2 op x y v := by
  obtain ⟨r, h⟩ := fop_some op x y
  exact ⟨_, r, rfl, h⟩
def SS (f g : Nat) (v r : V3) : Prop := ∃ k, FOp .sub f g k ∧ ScV k v r
def DM (f g : Nat) (v : V3) (f' g' : Nat) (u r : V3) : Prop := ∃ s t, SS f g v s ∧ SS f' g' u t ∧ BoV s t r
def PS (n : V3) (f g : Nat) (v r : V3) : Prop := ∃ t, SS f g v t ∧ BoV n t r
def Q1 (l : Nat) (d b r : V3) : Prop := ∃ g x, FOp .quo 4607182418800017408 l g ∧ CrV d b x ∧ ScV g x r
def Q2 (l : Nat) (d b s r : V3) : Prop := ∃ x, Q1 l d b x ∧ BoV x s r
def Q3' (f l : Nat) (d b s r : V3) : Prop := ∃ x, Q2 l d b s x ∧ ScV f x r
theorem ss_some (f g : Nat) (v : V3) : ∃ u, SetV (SS f g v) u := by
  obtain ⟨k, hk⟩ := fop_some .sub f g
  obtain ⟨_, r, _, hr⟩ := sc_some k v
  exact ⟨_, r, rfl, k, hk, hr⟩
theorem dm_some (f g : Nat) (v : V3) (f' g' : Nat) (u : V3) : ∃ r, SetV (DM f g v f' g' u) r := by
  obtain ⟨_, s, _, hs⟩ := ss_some f g v
  obtain ⟨_, t, _, ht⟩ := ss_some f' g' u
  obtain ⟨r, hr⟩ := bo_some s t
  exact ⟨_, r, rfl, s, t, hs, ht, hr⟩
theorem ps_some (n : V3) (f g : Nat) (v : V3) : ∃ r, SetV (PS n f g v) r := by
  obtain ⟨_, s, _, hs⟩ := ss_some f g v
  obtain ⟨r, hr⟩ := bo_some n s
  exact ⟨_, r, rfl, s, hs, hr⟩
theorem crv_some (p q : V3) : ∃ r, SetV (CrV p q) r := by
  obtain ⟨r, hr⟩ := cr_some p q
  exact ⟨_, r, rfl, hr⟩
theorem bov_some (p q : V3) : ∃ r, SetV (BoV p q) r := by
  obtain ⟨r, hr⟩ := bo_some p q
  exact ⟨_, r, rfl, hr⟩
theorem q1_some (l : Nat) (d b : V3) : ∃ r, SetV (Q1 l d b) r := by
  obtain ⟨g, hg⟩ := fop_some .quo 4607182418800017408 l
  obtain ⟨x, hx⟩ := cr_some d b
  obtain ⟨_, r, _, hr⟩ := sc_some g x
  exact ⟨_, r, rfl, g, x, hg, hx, hr⟩
theorem q2_some (l : Nat) (d b s : V3) : ∃ r, SetV (Q2 l d b s) r := by
  obtain ⟨_, x, _, hx⟩ := q1_some l d b
  obtain ⟨r, hr⟩ := bo_some x s
  exact ⟨_, r, rfl, x, hx, hr⟩
theorem q3_some (f l : Nat) (d b s : V3) : ∃ r, SetV (Q3' f l d b s) r := by
  obtain ⟨_, x, _, hx⟩ := q2_some l d b s
  obtain ⟨_, r, _, hr⟩ := sc_some f x
  exact ⟨_, r, rfl, x, hx, hr⟩
/-- the velocity. -/
structure GibR (a b c : V3) (mu : Nat) (r : V3) : Prop where
  ex : ∃ la lb lc ln ld p q f, ∃ bc ca ab n0 n d s0 s : V3, LnV a la ∧ LnV b lb ∧ LnV c lc ∧ CrV b c bc ∧ CrV c a ca ∧ CrV a b ab ∧ MM la bc lb ca n0 ∧ PM n0 lc ab n ∧ BB ab bc ca d ∧ DM lb lc a lc la b s0 ∧ PS s0 la lb c s ∧ LnV n ln ∧ LnV d ld ∧ FOp .mul ln ld p ∧ FOp .quo mu p q ∧ FSq q f ∧ Q3' f lb d b s r
def GibEnd (a b c : V3) (mu : Nat) (e : Ending) : Prop := ∃ r, GibR a b c mu r ∧ e = .returned (.tuple #[(if finB r.x && finB r.y && finB r.z then r else ⟨0, 0, 0⟩).val, .bool (finB r.x && finB r.y && finB r.z)])
theorem four_blocks {w w1 : World} {A B C D : Obj} (hB : Below ((((w.alloc A).alloc B).alloc C).alloc D).heap.size ((((w.alloc A).alloc B).alloc C).alloc D) w1) :
    w1.heap[w.heap.size]? = some A ∧ w1.heap[w.heap.size + 1]? = some B ∧ w1.heap[w.heap.size + 1 + 1]? = some C ∧ w1.heap[w.heap.size + 1 + 1 + 1]? = some D ∧ Below w.heap.size w w1 := by
  have h3 := three_blocks (w := w) (A := A) (R := B) (X := C) (w1 := w1) (below_go (below_a _ D) hB)
  obtain ⟨h0, h1, h2, hb⟩ := h3
  refine ⟨h0, h1, h2, ?_, hb⟩
  have := keepB (alloc_last (((w.alloc A).alloc B).alloc C) D) hB
  simpa using this
theorem mem0 {α : Type} {x : α} {l : List α} : x ∈ x :: l := List.mem_cons_self
theorem memS {α : Type} {x y : α} {l : List α} (h : x ∈ l) : x ∈ y :: l := List.mem_cons_of_mem _ h
set_option maxRecDepth 100000 in
set_option maxHeartbeats 16000000 in
theorem gibbsOf_any (a b c : V3) (mu : Nat) (w : World) : Calls Try.prog 5 #[a.val, b.val, c.val, .float .f64 mu] w fun e w' => GibEnd a b c mu e ∧ Below w.heap.size w w' := by
  have hsf := run_store_float Try.prog
  have hu := fun t x y v => run_fsub (P := Try.prog) t x y v
  have hq := fun t x y v => run_fquo (P := Try.prog) t x y v
  unfold V3.val
  go_enter Try.func5, Try.ntmps5
  go_wp2_with fail
  refine (lenV_any a _).mono ?_
  rintro e w1 ⟨la, rfl, hla, k1⟩
  obtain ⟨b0, b1, b2, b3, hB⟩ := four_blocks k1
  have HX : HeldR (Bx [(w.heap.size, a), (w.heap.size + 1, b), (w.heap.size + 1 + 1, c)] w1) := hideR ((((Bx.mk (fun p hp => by cases hp)).cons ⟨b2⟩).cons ⟨b1⟩).cons ⟨b0⟩)
  have HR := hideR (VBox.mk (q := ⟨0, 0, 0⟩) b3)
  have HW := hideR hB
  have Hla := hideR hla
  clear k1 b0 b1 b2 b3 hB hla
  obtain ⟨⟨c00, c01, c02⟩, _⟩ := three_at ((unhideR HX).get (memS mem0)).at_
  go_wp2_with fail
  refine (lenV_any b _).mono ?_
  rintro e w2 ⟨lb, rfl, hlb, k2⟩
  have Hlb := hideR hlb
  replace HX := hideR ((unhideR HX).go k2)
  replace HR := hideR ((unhideR HR).go k2)
  replace HW := hideR (below_go (unhideR HW) k2)
  clear k2 hlb c00 c01 c02
  obtain ⟨⟨c00, c01, c02⟩, _⟩ := three_at ((unhideR HX).get (memS (memS mem0))).at_
  go_wp2_with fail
  refine (lenV_any c _).mono ?_
  rintro e w3 ⟨lc, rfl, hlc, k3⟩
  have Hlc := hideR hlc
  replace HX := hideR ((unhideR HX).go k3)
  replace HR := hideR ((unhideR HR).go k3)
  replace HW := hideR (below_go (unhideR HW) k3)
  clear k3 hlc c00 c01 c02
  obtain ⟨⟨c00, c01, c02⟩, _⟩ := three_at ((unhideR HX).get (memS mem0)).at_
  obtain ⟨⟨c10, c11, c12⟩, _⟩ := three_at ((unhideR HX).get (memS (memS mem0))).at_
  go_wp2_with fail
  refine (crossV_any b c _).mono ?_
  rintro e w4 ⟨bc, rfl, hbc, k4⟩
  have Hbc := hideR hbc
  replace HX := hideR ((unhideR HX).go k4)
  replace HR := hideR ((unhideR HR).go k4)
  replace HW := hideR (below_go (unhideR HW) k4)
  unfold V3.val
  clear k4 hbc c00 c01 c02 c10 c11 c12
  obtain ⟨⟨c00, c01, c02⟩, _⟩ := three_at ((unhideR HX).get (memS (memS mem0))).at_
  obtain ⟨⟨c10, c11, c12⟩, _⟩ := three_at ((unhideR HX).get mem0).at_
  have lz := ltB ((unhideR HX).get (memS (memS mem0))).at_
  have lz2 := ltB ((unhideR HX).get mem0).at_
  go_wp2_with fail
  refine (crossV_any c a _).mono ?_
  rintro e w5 ⟨ca, rfl, hca, k⟩
  have Hca := hideR hca
  replace HX := hideR ((((unhideR HX).go (below_a _ _)).cons (VBox.new w4 bc)).go k)
  replace HR := hideR (((unhideR HR).go (below_a _ _)).go k)
  replace HW := hideR (below_go (below_go (unhideR HW) (below_a _ _)) k)
  unfold V3.val
  clear k hca lz lz2 c00 c01 c02 c10 c11 c12
  obtain ⟨⟨c00, c01, c02⟩, _⟩ := three_at ((unhideR HX).get (memS mem0)).at_
  obtain ⟨⟨c10, c11, c12⟩, _⟩ := three_at ((unhideR HX).get (memS (memS mem0))).at_
  have lz := ltB ((unhideR HX).get (memS mem0)).at_
  have lz2 := ltB ((unhideR HX).get (memS (memS mem0))).at_
  go_wp2_with fail
  refine (crossV_any a b _).mono ?_
  rintro e w6 ⟨ab, rfl, hab, k⟩
  have Hab := hideR hab
  replace HX := hideR ((((unhideR HX).go (below_a _ _)).cons (VBox.new w5 ca)).go k)
  replace HR := hideR (((unhideR HR).go (below_a _ _)).go k)
  replace HW := hideR (below_go (below_go (unhideR HW) (below_a _ _)) k)
  unfold V3.val
  clear k hab lz lz2 c00 c01 c02 c10 c11 c12
  have lz := ltB ((unhideR HX).get mem0).at_
  go_wp2_with fail
  obtain ⟨W7, hW7⟩ : ∃ W7, w6.alloc (.cells #[.float .f64 ab.x, .float .f64 ab.y, .float .f64 ab.z] 24) = W7 := ⟨_, rfl⟩
  replace HX := hideR (show Bx ((w6.heap.size, ab) :: _) W7 from hW7 ▸ ((unhideR HX).go (below_a _ _)).cons (VBox.new w6 ab))
  replace HR := hideR (show VBox W7 (w.heap.size + 1 + 1 + 1) ⟨0, 0, 0⟩ from hW7 ▸ (unhideR HR).go (below_a _ _))
  replace HW := hideR (show Below w.heap.size w W7 from hW7 ▸ below_go (unhideR HW) (below_a _ _))
  rw [hW7]
  clear hW7 lz
  refine wp_region_made 0 #[true, true, true, true, true, true, true, true, false] [.lets (· = .float .f64 la),
    .lets (· = .agg #[.float .f64 bc.x, .float .f64 bc.y, .float .f64 bc.z]),
    .lets (SetV (ScV la bc)),
    .lets (· = .float .f64 lb),
    .lets (· = .agg #[.float .f64 ca.x, .float .f64 ca.y, .float .f64 ca.z]),
    .lets (SetV (ScV lb ca)),
    .lets (SetV (MM la bc lb ca)),
    .new zero3] [] [] (by kernel_rfl) (by kernel_rfl) rfl ?kinds (by kernel_rfl) (by kernel_rfl) (by kernel_rfl) ?_
  case kinds =>
    constructor
    · intro i h
      rcases i with _ | _ | _ | _ | _ | _ | _ | _ | i <;> simp [Kx.isMade] at h
    · intro i h
      rcases i with _ | _ | _ | _ | _ | _ | _ | _ | i <;> simp [Kx.isUse] at h
  refine lexX_step (fun K hK => ⟨by kernel_rfl, ⟨_, rfl⟩, fun v hv => ?_, fun v hv => ?_⟩)
  · go_simp
    exact mUpon_b
  subst hv
  go_simp
  refine hK _ ?_
  clear hK K
  refine lexX_step (fun K hK => ⟨by kernel_rfl, ⟨_, rfl⟩, fun v hv => ?_, fun v hv => ?_⟩)
  · obtain ⟨⟨c0, c1, c2⟩, _⟩ := three_at (((unhideR HX).go hv).get (memS (memS mem0))).at_
    go_simp
    exact mUpon_b
  subst hv
  go_simp
  refine hK _ ?_
  clear hK K
  refine lexX_step (fun K hK => ⟨by kernel_rfl, sc_some _ _, fun v hv => ?_, fun v hv => ?_⟩)
  · go_simp
    refine (scaled_any la bc _).mono ?_
    rintro e w9 ⟨r, rfl, hr, k⟩
    exact ⟨_, rfl, ⟨r, rfl, hr⟩, k⟩
  obtain ⟨s1, rfl, h_s1⟩ := hv
  unfold V3.val
  go_simp
  refine hK _ ?_
  clear hK K
  have H_s1 := hideR h_s1
  clear h_s1
  refine lexX_step (fun K hK => ⟨by kernel_rfl, ⟨_, rfl⟩, fun v hv => ?_, fun v hv => ?_⟩)
  · go_simp
    exact mUpon_b
  subst hv
  go_simp
  refine hK _ ?_
  clear hK K
  refine lexX_step (fun K hK => ⟨by kernel_rfl, ⟨_, rfl⟩, fun v hv => ?_, fun v hv => ?_⟩)
  · obtain ⟨⟨c0, c1, c2⟩, _⟩ := three_at (((unhideR HX).go hv).get (memS mem0)).at_
    go_simp
    exact mUpon_b
  subst hv
  go_simp
  refine hK _ ?_
  clear hK K
  refine lexX_step (fun K hK => ⟨by kernel_rfl, sc_some _ _, fun v hv => ?_, fun v hv => ?_⟩)
  · go_simp
    refine (scaled_any lb ca _).mono ?_
    rintro e w9 ⟨r, rfl, hr, k⟩
    exact ⟨_, rfl, ⟨r, rfl, hr⟩, k⟩
  obtain ⟨s2, rfl, h_s2⟩ := hv
  unfold V3.val
  go_simp
  refine hK _ ?_
  clear hK K
  have H_s2 := hideR h_s2
  clear h_s2
  refine lexX_step (fun K hK => ⟨by kernel_rfl, mm_some _ _ _ _, fun v hv => ?_, fun v hv => ?_⟩)
  · go_simp
    refine (both_any s1 s2 _).mono ?_
    rintro e w9 ⟨r, rfl, hr, k⟩
    exact ⟨_, rfl, ⟨r, rfl, ⟨s1, s2, unhideR H_s1, unhideR H_s2, hr⟩⟩, k⟩
  obtain ⟨n0, rfl, h_n0⟩ := hv
  unfold V3.val
  go_simp
  refine hK _ ?_
  clear hK K
  have H_n0 := hideR h_n0
  clear h_n0
  clear H_s1 H_s2
  refine lexX_new (fin0.some _) (fun b7 fb7 K hK => ⟨by kernel_rfl, fun v => ?_, ?_⟩)
  · go_simp
    exact ⟨rfl, rfl⟩
  unfold ptr
  go_simp
  refine hK _ ?_
  clear hK K
  refine lexX_end (fun v hv => ?_)
  have h0 : v.heap[b7]? = some zero3 := hv.held b7 zero3 (by unfold Hd.put; rw [if_pos rfl])
  unfold zero3 at h0
  have HLow := hideR hv.low
  have hge := fb7.ge
  have hlx := (unhideR HX).lt
  have hlr := ltB (unhideR HR).at_
  clear hv fb7
  obtain ⟨⟨c0, c1, c2⟩, f0, f1, f2⟩ := three_at h0
  refine wpAny_step (i := 8) (by kernel_rfl) rfl (by kernel_rfl) (fun K hK => ?_)
  unfold Oper.wp
  go_simp
  refine hK _ _ ?_
  clear hK K
  refine wpAny_end (by kernel_rfl) ?_
  have hnew : VBox (((v.setCell ⟨b7, 0, none⟩ (.float .f64 n0.x)).setCell ⟨b7, 1, none⟩ (.float .f64 n0.y)).setCell ⟨b7, 2, none⟩ (.float .f64 n0.z)) b7 n0 := ⟨set3 h0⟩
  have hR2 : VBox (((v.setCell ⟨b7, 0, none⟩ (.float .f64 n0.x)).setCell ⟨b7, 1, none⟩ (.float .f64 n0.y)).setCell ⟨b7, 2, none⟩ (.float .f64 n0.z)) (w.heap.size + 1 + 1 + 1) ⟨0, 0, 0⟩ := ⟨(set3_other (by omega)).trans ((unhideR HR).go (unhideR HLow)).at_⟩
  have hX2 := ((unhideR HX).go (unhideR HLow)).set (b := b7) (fun p hp => by have := hlx p hp; omega) n0
  have hW2 := below_three (below_go (unhideR HW) (unhideR HLow)) (show w.heap.size ≤ b7 by have := (unhideR HW).size; omega) (.float .f64 n0.x) (.float .f64 n0.y) (.float .f64 n0.z)
  replace HR := hideR hR2
  replace HW := hideR hW2
  have HXo := hideR hX2
  have HNo := hideR hnew
  have hlb2 := fun p hp => Nat.lt_of_lt_of_le (hlx p hp) hge
  have hrb : w.heap.size + 1 + 1 + 1 < b7 := Nat.lt_of_lt_of_le hlr hge
  clear hR2 hW2 hX2 hnew h0 c0 c1 c2 f0 f1 f2 HLow hlx hge HX hlr
  generalize ((v.setCell ⟨b7, 0, none⟩ (.float .f64 n0.x)).setCell ⟨b7, 1, none⟩ (.float .f64 n0.y)).setCell ⟨b7, 2, none⟩ (.float .f64 n0.z) = W8 at *
  go_wp2_with fail
  refine wp_region_made 0 #[true, true, true, true, true, false] [.lets (· = .agg #[.float .f64 n0.x, .float .f64 n0.y, .float .f64 n0.z]),
    .lets (· = .float .f64 lc),
    .lets (· = .agg #[.float .f64 ab.x, .float .f64 ab.y, .float .f64 ab.z]),
    .lets (SetV (ScV lc ab)),
    .lets (SetV (PM n0 lc ab))] [] [] (by kernel_rfl) (by kernel_rfl) rfl ?kinds (by kernel_rfl) (by kernel_rfl) (by kernel_rfl) ?_
  case kinds =>
    constructor
    · intro i h
      rcases i with _ | _ | _ | _ | _ | i <;> simp [Kx.isMade] at h
    · intro i h
      rcases i with _ | _ | _ | _ | _ | i <;> simp [Kx.isUse] at h
  refine lexX_step (fun K hK => ⟨by kernel_rfl, ⟨_, rfl⟩, fun v hv => ?_, fun v hv => ?_⟩)
  · obtain ⟨⟨c0, c1, c2⟩, _⟩ := three_at ((unhideR HNo).go hv).at_
    go_simp
    exact mUpon_b
  subst hv
  go_simp
  refine hK _ ?_
  clear hK K
  refine lexX_step (fun K hK => ⟨by kernel_rfl, ⟨_, rfl⟩, fun v hv => ?_, fun v hv => ?_⟩)
  · go_simp
    exact mUpon_b
  subst hv
  go_simp
  refine hK _ ?_
  clear hK K
  refine lexX_step (fun K hK => ⟨by kernel_rfl, ⟨_, rfl⟩, fun v hv => ?_, fun v hv => ?_⟩)
  · obtain ⟨⟨c0, c1, c2⟩, _⟩ := three_at (((unhideR HXo).go hv).get mem0).at_
    go_simp
    exact mUpon_b
  subst hv
  go_simp
  refine hK _ ?_
  clear hK K
  refine lexX_step (fun K hK => ⟨by kernel_rfl, sc_some _ _, fun v hv => ?_, fun v hv => ?_⟩)
  · go_simp
    refine (scaled_any lc ab _).mono ?_
    rintro e w9 ⟨r, rfl, hr, k⟩
    exact ⟨_, rfl, ⟨r, rfl, hr⟩, k⟩
  obtain ⟨s3, rfl, h_s3⟩ := hv
  unfold V3.val
  go_simp
  refine hK _ ?_
  clear hK K
  have H_s3 := hideR h_s3
  clear h_s3
  refine lexX_step (fun K hK => ⟨by kernel_rfl, pm_some _ _ _, fun v hv => ?_, fun v hv => ?_⟩)
  · go_simp
    refine (both_any n0 s3 _).mono ?_
    rintro e w9 ⟨r, rfl, hr, k⟩
    exact ⟨_, rfl, ⟨r, rfl, ⟨s3, unhideR H_s3, hr⟩⟩, k⟩
  obtain ⟨n, rfl, h_n⟩ := hv
  unfold V3.val
  go_simp
  refine hK _ ?_
  clear hK K
  have H_n := hideR h_n
  clear h_n
  clear H_s3
  refine lexX_end (fun v hv => ?_)
  have hb2 := hv.low
  clear hv
  have h0 := ((unhideR HNo).go hb2).at_
  have hX1 := (unhideR HXo).go hb2
  have hR1 := (unhideR HR).go hb2
  have hW1 := below_go (unhideR HW) hb2
  clear hb2
  obtain ⟨⟨c0, c1, c2⟩, f0, f1, f2⟩ := three_at h0
  refine wpAny_step (i := 5) (by kernel_rfl) rfl (by kernel_rfl) (fun K hK => ?_)
  unfold Oper.wp
  go_simp
  refine hK _ _ ?_
  clear hK K
  refine wpAny_end (by kernel_rfl) ?_
  have hnew : VBox (((v.setCell ⟨b7, 0, none⟩ (.float .f64 n.x)).setCell ⟨b7, 1, none⟩ (.float .f64 n.y)).setCell ⟨b7, 2, none⟩ (.float .f64 n.z)) b7 n := ⟨set3 h0⟩
  have hR2 : VBox (((v.setCell ⟨b7, 0, none⟩ (.float .f64 n.x)).setCell ⟨b7, 1, none⟩ (.float .f64 n.y)).setCell ⟨b7, 2, none⟩ (.float .f64 n.z)) (w.heap.size + 1 + 1 + 1) ⟨0, 0, 0⟩ := ⟨(set3_other (by omega)).trans hR1.at_⟩
  have hX2 := hX1.set (b := b7) (fun p hp => by have := hlb2 p hp; omega) n
  have hW2 := below_three hW1 (show w.heap.size ≤ b7 by omega) (.float .f64 n.x) (.float .f64 n.y) (.float .f64 n.z)
  replace HR := hideR hR2
  replace HW := hideR hW2
  have HX := hideR (hX2.cons hnew)
  clear hR2 hW2 hX2 hnew h0 c0 c1 c2 f0 f1 f2 HXo HNo hlb2 hrb hX1 hR1 hW1
  generalize ((v.setCell ⟨b7, 0, none⟩ (.float .f64 n.x)).setCell ⟨b7, 1, none⟩ (.float .f64 n.y)).setCell ⟨b7, 2, none⟩ (.float .f64 n.z) = W9 at *
  go_wp2_with fail
  refine wp_region_made 0 #[true, true, true, true, true, true, false] [.lets (· = .agg #[.float .f64 ab.x, .float .f64 ab.y, .float .f64 ab.z]),
    .lets (· = .agg #[.float .f64 bc.x, .float .f64 bc.y, .float .f64 bc.z]),
    .lets (SetV (BoV ab bc)),
    .lets (· = .agg #[.float .f64 ca.x, .float .f64 ca.y, .float .f64 ca.z]),
    .lets (SetV (BB ab bc ca)),
    .new zero3] [] [] (by kernel_rfl) (by kernel_rfl) rfl ?kinds (by kernel_rfl) (by kernel_rfl) (by kernel_rfl) ?_
  case kinds =>
    constructor
    · intro i h
      rcases i with _ | _ | _ | _ | _ | _ | i <;> simp [Kx.isMade] at h
    · intro i h
      rcases i with _ | _ | _ | _ | _ | _ | i <;> simp [Kx.isUse] at h
  refine lexX_step (fun K hK => ⟨by kernel_rfl, ⟨_, rfl⟩, fun v hv => ?_, fun v hv => ?_⟩)
  · obtain ⟨⟨c0, c1, c2⟩, _⟩ := three_at (((unhideR HX).go hv).get (memS mem0)).at_
    go_simp
    exact mUpon_b
  subst hv
  go_simp
  refine hK _ ?_
  clear hK K
  refine lexX_step (fun K hK => ⟨by kernel_rfl, ⟨_, rfl⟩, fun v hv => ?_, fun v hv => ?_⟩)
  · obtain ⟨⟨c0, c1, c2⟩, _⟩ := three_at (((unhideR HX).go hv).get (memS (memS (memS mem0)))).at_
    go_simp
    exact mUpon_b
  subst hv
  go_simp
  refine hK _ ?_
  clear hK K
  refine lexX_step (fun K hK => ⟨by kernel_rfl, bov_some _ _, fun v hv => ?_, fun v hv => ?_⟩)
  · go_simp
    refine (both_any ab bc _).mono ?_
    rintro e w9 ⟨r, rfl, hr, k⟩
    exact ⟨_, rfl, ⟨r, rfl, hr⟩, k⟩
  obtain ⟨d0, rfl, h_d0⟩ := hv
  unfold V3.val
  go_simp
  refine hK _ ?_
  clear hK K
  have H_d0 := hideR h_d0
  clear h_d0
  refine lexX_step (fun K hK => ⟨by kernel_rfl, ⟨_, rfl⟩, fun v hv => ?_, fun v hv => ?_⟩)
  · obtain ⟨⟨c0, c1, c2⟩, _⟩ := three_at (((unhideR HX).go hv).get (memS (memS mem0))).at_
    go_simp
    exact mUpon_b
  subst hv
  go_simp
  refine hK _ ?_
  clear hK K
  refine lexX_step (fun K hK => ⟨by kernel_rfl, bb_some _ _ _, fun v hv => ?_, fun v hv => ?_⟩)
  · go_simp
    refine (both_any d0 ca _).mono ?_
    rintro e w9 ⟨r, rfl, hr, k⟩
    exact ⟨_, rfl, ⟨r, rfl, ⟨d0, unhideR H_d0, hr⟩⟩, k⟩
  obtain ⟨d, rfl, h_d⟩ := hv
  unfold V3.val
  go_simp
  refine hK _ ?_
  clear hK K
  have H_d := hideR h_d
  clear h_d
  clear H_d0
  refine lexX_new (fin0.some _) (fun b9 fb9 K hK => ⟨by kernel_rfl, fun v => ?_, ?_⟩)
  · go_simp
    exact ⟨rfl, rfl⟩
  unfold ptr
  go_simp
  refine hK _ ?_
  clear hK K
  refine lexX_end (fun v hv => ?_)
  have h0 : v.heap[b9]? = some zero3 := hv.held b9 zero3 (by unfold Hd.put; rw [if_pos rfl])
  unfold zero3 at h0
  have HLow := hideR hv.low
  have hge := fb9.ge
  have hlx := (unhideR HX).lt
  have hlr := ltB (unhideR HR).at_
  clear hv fb9
  obtain ⟨⟨c0, c1, c2⟩, f0, f1, f2⟩ := three_at h0
  refine wpAny_step (i := 6) (by kernel_rfl) rfl (by kernel_rfl) (fun K hK => ?_)
  unfold Oper.wp
  go_simp
  refine hK _ _ ?_
  clear hK K
  refine wpAny_end (by kernel_rfl) ?_
  have hnew : VBox (((v.setCell ⟨b9, 0, none⟩ (.float .f64 d.x)).setCell ⟨b9, 1, none⟩ (.float .f64 d.y)).setCell ⟨b9, 2, none⟩ (.float .f64 d.z)) b9 d := ⟨set3 h0⟩
  have hR2 : VBox (((v.setCell ⟨b9, 0, none⟩ (.float .f64 d.x)).setCell ⟨b9, 1, none⟩ (.float .f64 d.y)).setCell ⟨b9, 2, none⟩ (.float .f64 d.z)) (w.heap.size + 1 + 1 + 1) ⟨0, 0, 0⟩ := ⟨(set3_other (by omega)).trans ((unhideR HR).go (unhideR HLow)).at_⟩
  have hX2 := ((unhideR HX).go (unhideR HLow)).set (b := b9) (fun p hp => by have := hlx p hp; omega) d
  have hW2 := below_three (below_go (unhideR HW) (unhideR HLow)) (show w.heap.size ≤ b9 by have := (unhideR HW).size; omega) (.float .f64 d.x) (.float .f64 d.y) (.float .f64 d.z)
  replace HR := hideR hR2
  replace HW := hideR hW2
  have HXo := hideR hX2
  have HNo := hideR hnew
  have hlb2 := fun p hp => Nat.lt_of_lt_of_le (hlx p hp) hge
  have hrb : w.heap.size + 1 + 1 + 1 < b9 := Nat.lt_of_lt_of_le hlr hge
  clear hR2 hW2 hX2 hnew h0 c0 c1 c2 f0 f1 f2 HLow hlx hge HX hlr
  generalize ((v.setCell ⟨b9, 0, none⟩ (.float .f64 d.x)).setCell ⟨b9, 1, none⟩ (.float .f64 d.y)).setCell ⟨b9, 2, none⟩ (.float .f64 d.z) = W10 at *
  have HX := hideR ((unhideR HXo).cons (unhideR HNo))
  clear HXo HNo hlb2 hrb
  go_wp2_with fail
  refine wp_region_made 0 #[true, true, true, true, true, true, true, true, true, true, true, true, false] [.lets (· = .float .f64 lb),
    .lets (· = .float .f64 lc),
    .lets (FS2 .sub lb lc),
    .lets (· = .agg #[.float .f64 a.x, .float .f64 a.y, .float .f64 a.z]),
    .lets (SetV (SS lb lc a)),
    .lets (· = .float .f64 lc),
    .lets (· = .float .f64 la),
    .lets (FS2 .sub lc la),
    .lets (· = .agg #[.float .f64 b.x, .float .f64 b.y, .float .f64 b.z]),
    .lets (SetV (SS lc la b)),
    .lets (SetV (DM lb lc a lc la b)),
    .new zero3] [] [] (by kernel_rfl) (by kernel_rfl) rfl ?kinds (by kernel_rfl) (by kernel_rfl) (by kernel_rfl) ?_
  case kinds =>
    constructor
    · intro i h
      rcases i with _ | _ | _ | _ | _ | _ | _ | _ | _ | _ | _ | _ | i <;> simp [Kx.isMade] at h
    · intro i h
      rcases i with _ | _ | _ | _ | _ | _ | _ | _ | _ | _ | _ | _ | i <;> simp [Kx.isUse] at h
  refine lexX_step (fun K hK => ⟨by kernel_rfl, ⟨_, rfl⟩, fun v hv => ?_, fun v hv => ?_⟩)
  · go_simp
    exact mUpon_b
  subst hv
  go_simp
  refine hK _ ?_
  clear hK K
  refine lexX_step (fun K hK => ⟨by kernel_rfl, ⟨_, rfl⟩, fun v hv => ?_, fun v hv => ?_⟩)
  · go_simp
    exact mUpon_b
  subst hv
  go_simp
  refine hK _ ?_
  clear hK K
  refine lexX_step (fun K hK => ⟨by kernel_rfl, fs_some _ _ _, fun v hv => ?_, fun v hv => ?_⟩)
  · go_simp
    exact ⟨below_drewN (Below.refl _ _) _, _, rfl, fnum_is _ _ _ _⟩
  obtain ⟨k1, rfl, h_k1⟩ := hv
  go_simp
  refine hK _ ?_
  clear hK K
  have H_k1 := hideR h_k1
  clear h_k1
  refine lexX_step (fun K hK => ⟨by kernel_rfl, ⟨_, rfl⟩, fun v hv => ?_, fun v hv => ?_⟩)
  · obtain ⟨⟨c0, c1, c2⟩, _⟩ := three_at (((unhideR HX).go hv).get (memS (memS (memS (memS (memS mem0)))))).at_
    go_simp
    exact mUpon_b
  subst hv
  go_simp
  refine hK _ ?_
  clear hK K
  refine lexX_step (fun K hK => ⟨by kernel_rfl, ss_some _ _ _, fun v hv => ?_, fun v hv => ?_⟩)
  · go_simp
    refine (scaled_any k1 a _).mono ?_
    rintro e w9 ⟨r, rfl, hr, k⟩
    exact ⟨_, rfl, ⟨r, rfl, ⟨k1, unhideR H_k1, hr⟩⟩, k⟩
  obtain ⟨t1, rfl, h_t1⟩ := hv
  unfold V3.val
  go_simp
  refine hK _ ?_
  clear hK K
  have H_t1 := hideR h_t1
  clear h_t1
  refine lexX_step (fun K hK => ⟨by kernel_rfl, ⟨_, rfl⟩, fun v hv => ?_, fun v hv => ?_⟩)
  · go_simp
    exact mUpon_b
  subst hv
  go_simp
  refine hK _ ?_
  clear hK K
  refine lexX_step (fun K hK => ⟨by kernel_rfl, ⟨_, rfl⟩, fun v hv => ?_, fun v hv => ?_⟩)
  · go_simp
    exact mUpon_b
  subst hv
  go_simp
  refine hK _ ?_
  clear hK K
  refine lexX_step (fun K hK => ⟨by kernel_rfl, fs_some _ _ _, fun v hv => ?_, fun v hv => ?_⟩)
  · go_simp
    exact ⟨below_drewN (Below.refl _ _) _, _, rfl, fnum_is _ _ _ _⟩
  obtain ⟨k2, rfl, h_k2⟩ := hv
  go_simp
  refine hK _ ?_
  clear hK K
  have H_k2 := hideR h_k2
  clear h_k2
  refine lexX_step (fun K hK => ⟨by kernel_rfl, ⟨_, rfl⟩, fun v hv => ?_, fun v hv => ?_⟩)
  · obtain ⟨⟨c0, c1, c2⟩, _⟩ := three_at (((unhideR HX).go hv).get (memS (memS (memS (memS (memS (memS mem0))))))).at_
    go_simp
    exact mUpon_b
  subst hv
  go_simp
  refine hK _ ?_
  clear hK K
  refine lexX_step (fun K hK => ⟨by kernel_rfl, ss_some _ _ _, fun v hv => ?_, fun v hv => ?_⟩)
  · go_simp
    refine (scaled_any k2 b _).mono ?_
    rintro e w9 ⟨r, rfl, hr, k⟩
    exact ⟨_, rfl, ⟨r, rfl, ⟨k2, unhideR H_k2, hr⟩⟩, k⟩
  obtain ⟨t2, rfl, h_t2⟩ := hv
  unfold V3.val
  go_simp
  refine hK _ ?_
  clear hK K
  have H_t2 := hideR h_t2
  clear h_t2
  refine lexX_step (fun K hK => ⟨by kernel_rfl, dm_some _ _ _ _ _ _, fun v hv => ?_, fun v hv => ?_⟩)
  · go_simp
    refine (both_any t1 t2 _).mono ?_
    rintro e w9 ⟨r, rfl, hr, k⟩
    exact ⟨_, rfl, ⟨r, rfl, ⟨t1, t2, unhideR H_t1, unhideR H_t2, hr⟩⟩, k⟩
  obtain ⟨s0, rfl, h_s0⟩ := hv
  unfold V3.val
  go_simp
  refine hK _ ?_
  clear hK K
  have H_s0 := hideR h_s0
  clear h_s0
  clear H_k1 H_k2 H_t1 H_t2
  refine lexX_new (fin0.some _) (fun b10 fb10 K hK => ⟨by kernel_rfl, fun v => ?_, ?_⟩)
  · go_simp
    exact ⟨rfl, rfl⟩
  unfold ptr
  go_simp
  refine hK _ ?_
  clear hK K
  refine lexX_end (fun v hv => ?_)
  have h0 : v.heap[b10]? = some zero3 := hv.held b10 zero3 (by unfold Hd.put; rw [if_pos rfl])
  unfold zero3 at h0
  have HLow := hideR hv.low
  have hge := fb10.ge
  have hlx := (unhideR HX).lt
  have hlr := ltB (unhideR HR).at_
  clear hv fb10
  obtain ⟨⟨c0, c1, c2⟩, f0, f1, f2⟩ := three_at h0
  refine wpAny_step (i := 12) (by kernel_rfl) rfl (by kernel_rfl) (fun K hK => ?_)
  unfold Oper.wp
  go_simp
  refine hK _ _ ?_
  clear hK K
  refine wpAny_end (by kernel_rfl) ?_
  have hnew : VBox (((v.setCell ⟨b10, 0, none⟩ (.float .f64 s0.x)).setCell ⟨b10, 1, none⟩ (.float .f64 s0.y)).setCell ⟨b10, 2, none⟩ (.float .f64 s0.z)) b10 s0 := ⟨set3 h0⟩
  have hR2 : VBox (((v.setCell ⟨b10, 0, none⟩ (.float .f64 s0.x)).setCell ⟨b10, 1, none⟩ (.float .f64 s0.y)).setCell ⟨b10, 2, none⟩ (.float .f64 s0.z)) (w.heap.size + 1 + 1 + 1) ⟨0, 0, 0⟩ := ⟨(set3_other (by omega)).trans ((unhideR HR).go (unhideR HLow)).at_⟩
  have hX2 := ((unhideR HX).go (unhideR HLow)).set (b := b10) (fun p hp => by have := hlx p hp; omega) s0
  have hW2 := below_three (below_go (unhideR HW) (unhideR HLow)) (show w.heap.size ≤ b10 by have := (unhideR HW).size; omega) (.float .f64 s0.x) (.float .f64 s0.y) (.float .f64 s0.z)
  replace HR := hideR hR2
  replace HW := hideR hW2
  have HXo := hideR hX2
  have HNo := hideR hnew
  have hlb2 := fun p hp => Nat.lt_of_lt_of_le (hlx p hp) hge
  have hrb : w.heap.size + 1 + 1 + 1 < b10 := Nat.lt_of_lt_of_le hlr hge
  clear hR2 hW2 hX2 hnew h0 c0 c1 c2 f0 f1 f2 HLow hlx hge HX hlr
  generalize ((v.setCell ⟨b10, 0, none⟩ (.float .f64 s0.x)).setCell ⟨b10, 1, none⟩ (.float .f64 s0.y)).setCell ⟨b10, 2, none⟩ (.float .f64 s0.z) = W11 at *
  go_wp2_with fail
  refine wp_region_made 0 #[true, true, true, true, true, true, true, false] [.lets (· = .agg #[.float .f64 s0.x, .float .f64 s0.y, .float .f64 s0.z]),
    .lets (· = .float .f64 la),
    .lets (· = .float .f64 lb),
    .lets (FS2 .sub la lb),
    .lets (· = .agg #[.float .f64 c.x, .float .f64 c.y, .float .f64 c.z]),
    .lets (SetV (SS la lb c)),
    .lets (SetV (PS s0 la lb c))] [] [] (by kernel_rfl) (by kernel_rfl) rfl ?kinds (by kernel_rfl) (by kernel_rfl) (by kernel_rfl) ?_
  case kinds =>
    constructor
    · intro i h
      rcases i with _ | _ | _ | _ | _ | _ | _ | i <;> simp [Kx.isMade] at h
    · intro i h
      rcases i with _ | _ | _ | _ | _ | _ | _ | i <;> simp [Kx.isUse] at h
  refine lexX_step (fun K hK => ⟨by kernel_rfl, ⟨_, rfl⟩, fun v hv => ?_, fun v hv => ?_⟩)
  · obtain ⟨⟨c0, c1, c2⟩, _⟩ := three_at ((unhideR HNo).go hv).at_
    go_simp
    exact mUpon_b
  subst hv
  go_simp
  refine hK _ ?_
  clear hK K
  refine lexX_step (fun K hK => ⟨by kernel_rfl, ⟨_, rfl⟩, fun v hv => ?_, fun v hv => ?_⟩)
  · go_simp
    exact mUpon_b
  subst hv
  go_simp
  refine hK _ ?_
  clear hK K
  refine lexX_step (fun K hK => ⟨by kernel_rfl, ⟨_, rfl⟩, fun v hv => ?_, fun v hv => ?_⟩)
  · go_simp
    exact mUpon_b
  subst hv
  go_simp
  refine hK _ ?_
  clear hK K
  refine lexX_step (fun K hK => ⟨by kernel_rfl, fs_some _ _ _, fun v hv => ?_, fun v hv => ?_⟩)
  · go_simp
    exact ⟨below_drewN (Below.refl _ _) _, _, rfl, fnum_is _ _ _ _⟩
  obtain ⟨k3, rfl, h_k3⟩ := hv
  go_simp
  refine hK _ ?_
  clear hK K
  have H_k3 := hideR h_k3
  clear h_k3
  refine lexX_step (fun K hK => ⟨by kernel_rfl, ⟨_, rfl⟩, fun v hv => ?_, fun v hv => ?_⟩)
  · obtain ⟨⟨c0, c1, c2⟩, _⟩ := three_at (((unhideR HXo).go hv).get (memS (memS (memS (memS (memS (memS (memS mem0)))))))).at_
    go_simp
    exact mUpon_b
  subst hv
  go_simp
  refine hK _ ?_
  clear hK K
  refine lexX_step (fun K hK => ⟨by kernel_rfl, ss_some _ _ _, fun v hv => ?_, fun v hv => ?_⟩)
  · go_simp
    refine (scaled_any k3 c _).mono ?_
    rintro e w9 ⟨r, rfl, hr, k⟩
    exact ⟨_, rfl, ⟨r, rfl, ⟨k3, unhideR H_k3, hr⟩⟩, k⟩
  obtain ⟨t3, rfl, h_t3⟩ := hv
  unfold V3.val
  go_simp
  refine hK _ ?_
  clear hK K
  have H_t3 := hideR h_t3
  clear h_t3
  refine lexX_step (fun K hK => ⟨by kernel_rfl, ps_some _ _ _ _, fun v hv => ?_, fun v hv => ?_⟩)
  · go_simp
    refine (both_any s0 t3 _).mono ?_
    rintro e w9 ⟨r, rfl, hr, k⟩
    exact ⟨_, rfl, ⟨r, rfl, ⟨t3, unhideR H_t3, hr⟩⟩, k⟩
  obtain ⟨s, rfl, h_s⟩ := hv
  unfold V3.val
  go_simp
  refine hK _ ?_
  clear hK K
  have H_s := hideR h_s
  clear h_s
  clear H_k3 H_t3
  refine lexX_end (fun v hv => ?_)
  have hb2 := hv.low
  clear hv
  have h0 := ((unhideR HNo).go hb2).at_
  have hX1 := (unhideR HXo).go hb2
  have hR1 := (unhideR HR).go hb2
  have hW1 := below_go (unhideR HW) hb2
  clear hb2
  obtain ⟨⟨c0, c1, c2⟩, f0, f1, f2⟩ := three_at h0
  refine wpAny_step (i := 7) (by kernel_rfl) rfl (by kernel_rfl) (fun K hK => ?_)
  unfold Oper.wp
  go_simp
  refine hK _ _ ?_
  clear hK K
  refine wpAny_end (by kernel_rfl) ?_
  have hnew : VBox (((v.setCell ⟨b10, 0, none⟩ (.float .f64 s.x)).setCell ⟨b10, 1, none⟩ (.float .f64 s.y)).setCell ⟨b10, 2, none⟩ (.float .f64 s.z)) b10 s := ⟨set3 h0⟩
  have hR2 : VBox (((v.setCell ⟨b10, 0, none⟩ (.float .f64 s.x)).setCell ⟨b10, 1, none⟩ (.float .f64 s.y)).setCell ⟨b10, 2, none⟩ (.float .f64 s.z)) (w.heap.size + 1 + 1 + 1) ⟨0, 0, 0⟩ := ⟨(set3_other (by omega)).trans hR1.at_⟩
  have hX2 := hX1.set (b := b10) (fun p hp => by have := hlb2 p hp; omega) s
  have hW2 := below_three hW1 (show w.heap.size ≤ b10 by omega) (.float .f64 s.x) (.float .f64 s.y) (.float .f64 s.z)
  replace HR := hideR hR2
  replace HW := hideR hW2
  have HX := hideR (hX2.cons hnew)
  clear hR2 hW2 hX2 hnew h0 c0 c1 c2 f0 f1 f2 HXo HNo hlb2 hrb hX1 hR1 hW1
  generalize ((v.setCell ⟨b10, 0, none⟩ (.float .f64 s.x)).setCell ⟨b10, 1, none⟩ (.float .f64 s.y)).setCell ⟨b10, 2, none⟩ (.float .f64 s.z) = W12 at *
  obtain ⟨⟨c00, c01, c02⟩, _⟩ := three_at ((unhideR HX).get (memS (memS mem0))).at_
  go_wp2_with fail
  refine (lenV_any n _).mono ?_
  rintro e w13 ⟨ln, rfl, hln, k⟩
  have Hln := hideR hln
  replace HX := hideR ((unhideR HX).go k)
  replace HR := hideR ((unhideR HR).go k)
  replace HW := hideR (below_go (unhideR HW) k)
  clear k hln c00 c01 c02
  obtain ⟨⟨c00, c01, c02⟩, _⟩ := three_at ((unhideR HX).get (memS mem0)).at_
  go_wp2_with fail
  refine (lenV_any d _).mono ?_
  rintro e w14 ⟨ld, rfl, hld, k⟩
  have Hld := hideR hld
  replace HX := hideR ((unhideR HX).go k)
  replace HR := hideR ((unhideR HR).go k)
  replace HW := hideR (below_go (unhideR HW) k)
  clear k hld c00 c01 c02
  go_wp2_with fail
  refine upon_float four_mul ?_
  intro p np hp
  have Hq := hideR (fnum_is .quo mu p (w14.drewN np))
  go_wp2_with fail
  refine (mathSqrt_any _ _).mono ?_
  rintro e w15 ⟨f, rfl, hf, nf, rfl⟩
  have Hp := hideR hp
  have Hf := hideR hf
  clear hp hf
  replace HX := hideR ((unhideR HX).go (below_drewN (Below.refl _ _) (np + fdraw .quo mu p + nf)))
  replace HR := hideR ((unhideR HR).go (below_drewN (Below.refl _ _) (np + fdraw .quo mu p + nf)))
  replace HW := hideR (below_drewN (unhideR HW) (np + fdraw .quo mu p + nf))
  generalize fnum .quo mu p (w14.drewN np) = q at *
  go_wp2_with fail
  generalize w14.drewN (np + fdraw .quo mu p + nf) = W15 at *
  refine wp_region_made 0 #[true, true, true, true, true, true, true, true, true, true, true, false] [.lets (· = .float .f64 f),
    .lets (· = .float .f64 lb),
    .lets (FS2 .quo 4607182418800017408 lb),
    .lets (· = .agg #[.float .f64 d.x, .float .f64 d.y, .float .f64 d.z]),
    .lets (· = .agg #[.float .f64 b.x, .float .f64 b.y, .float .f64 b.z]),
    .lets (SetV (CrV d b)),
    .lets (SetV (Q1 lb d b)),
    .lets (· = .agg #[.float .f64 s.x, .float .f64 s.y, .float .f64 s.z]),
    .lets (SetV (Q2 lb d b s)),
    .lets (SetV (Q3' f lb d b s)),
    .new zero3] [] [] (by kernel_rfl) (by kernel_rfl) rfl ?kinds (by kernel_rfl) (by kernel_rfl) (by kernel_rfl) ?_
  case kinds =>
    constructor
    · intro i h
      rcases i with _ | _ | _ | _ | _ | _ | _ | _ | _ | _ | _ | i <;> simp [Kx.isMade] at h
    · intro i h
      rcases i with _ | _ | _ | _ | _ | _ | _ | _ | _ | _ | _ | i <;> simp [Kx.isUse] at h
  refine lexX_step (fun K hK => ⟨by kernel_rfl, ⟨_, rfl⟩, fun v hv => ?_, fun v hv => ?_⟩)
  · go_simp
    exact mUpon_b
  subst hv
  go_simp
  refine hK _ ?_
  clear hK K
  refine lexX_step (fun K hK => ⟨by kernel_rfl, ⟨_, rfl⟩, fun v hv => ?_, fun v hv => ?_⟩)
  · go_simp
    exact mUpon_b
  subst hv
  go_simp
  refine hK _ ?_
  clear hK K
  refine lexX_step (fun K hK => ⟨by kernel_rfl, fs_some _ _ _, fun v hv => ?_, fun v hv => ?_⟩)
  · go_simp
    exact ⟨below_drewN (Below.refl _ _) _, _, rfl, fnum_is _ _ _ _⟩
  obtain ⟨g, rfl, h_g⟩ := hv
  go_simp
  refine hK _ ?_
  clear hK K
  have H_g := hideR h_g
  clear h_g
  refine lexX_step (fun K hK => ⟨by kernel_rfl, ⟨_, rfl⟩, fun v hv => ?_, fun v hv => ?_⟩)
  · obtain ⟨⟨c0, c1, c2⟩, _⟩ := three_at (((unhideR HX).go hv).get (memS mem0)).at_
    go_simp
    exact mUpon_b
  subst hv
  go_simp
  refine hK _ ?_
  clear hK K
  refine lexX_step (fun K hK => ⟨by kernel_rfl, ⟨_, rfl⟩, fun v hv => ?_, fun v hv => ?_⟩)
  · obtain ⟨⟨c0, c1, c2⟩, _⟩ := three_at (((unhideR HX).go hv).get (memS (memS (memS (memS (memS (memS (memS mem0)))))))).at_
    go_simp
    exact mUpon_b
  subst hv
  go_simp
  refine hK _ ?_
  clear hK K
  refine lexX_step (fun K hK => ⟨by kernel_rfl, crv_some _ _, fun v hv => ?_, fun v hv => ?_⟩)
  · go_simp
    refine (crossV_any d b _).mono ?_
    rintro e w9 ⟨r, rfl, hr, k⟩
    exact ⟨_, rfl, ⟨r, rfl, hr⟩, k⟩
  obtain ⟨db, rfl, h_db⟩ := hv
  unfold V3.val
  go_simp
  refine hK _ ?_
  clear hK K
  have H_db := hideR h_db
  clear h_db
  refine lexX_step (fun K hK => ⟨by kernel_rfl, q1_some _ _ _, fun v hv => ?_, fun v hv => ?_⟩)
  · go_simp
    refine (scaled_any g db _).mono ?_
    rintro e w9 ⟨r, rfl, hr, k⟩
    exact ⟨_, rfl, ⟨r, rfl, ⟨g, db, unhideR H_g, unhideR H_db, hr⟩⟩, k⟩
  obtain ⟨e1, rfl, h_e1⟩ := hv
  unfold V3.val
  go_simp
  refine hK _ ?_
  clear hK K
  have H_e1 := hideR h_e1
  clear h_e1
  refine lexX_step (fun K hK => ⟨by kernel_rfl, ⟨_, rfl⟩, fun v hv => ?_, fun v hv => ?_⟩)
  · obtain ⟨⟨c0, c1, c2⟩, _⟩ := three_at (((unhideR HX).go hv).get mem0).at_
    go_simp
    exact mUpon_b
  subst hv
  go_simp
  refine hK _ ?_
  clear hK K
  refine lexX_step (fun K hK => ⟨by kernel_rfl, q2_some _ _ _ _, fun v hv => ?_, fun v hv => ?_⟩)
  · go_simp
    refine (both_any e1 s _).mono ?_
    rintro e w9 ⟨r, rfl, hr, k⟩
    exact ⟨_, rfl, ⟨r, rfl, ⟨e1, unhideR H_e1, hr⟩⟩, k⟩
  obtain ⟨e2, rfl, h_e2⟩ := hv
  unfold V3.val
  go_simp
  refine hK _ ?_
  clear hK K
  have H_e2 := hideR h_e2
  clear h_e2
  refine lexX_step (fun K hK => ⟨by kernel_rfl, q3_some _ _ _ _ _, fun v hv => ?_, fun v hv => ?_⟩)
  · go_simp
    refine (scaled_any f e2 _).mono ?_
    rintro e w9 ⟨r, rfl, hr, k⟩
    exact ⟨_, rfl, ⟨r, rfl, ⟨e2, unhideR H_e2, hr⟩⟩, k⟩
  obtain ⟨r, rfl, h_r⟩ := hv
  unfold V3.val
  go_simp
  refine hK _ ?_
  clear hK K
  have H_r := hideR h_r
  clear h_r
  clear H_g H_db H_e1 H_e2
  refine lexX_new (fin0.some _) (fun b15 fb15 K hK => ⟨by kernel_rfl, fun v => ?_, ?_⟩)
  · go_simp
    exact ⟨rfl, rfl⟩
  unfold ptr
  go_simp
  refine hK _ ?_
  clear hK K
  refine lexX_end (fun v hv => ?_)
  have h0 : v.heap[b15]? = some zero3 := hv.held b15 zero3 (by unfold Hd.put; rw [if_pos rfl])
  unfold zero3 at h0
  have HLow := hideR hv.low
  have hge := fb15.ge
  have hlx := (unhideR HX).lt
  have hlr := ltB (unhideR HR).at_
  clear hv fb15
  obtain ⟨⟨c0, c1, c2⟩, f0, f1, f2⟩ := three_at h0
  refine wpAny_step (i := 11) (by kernel_rfl) rfl (by kernel_rfl) (fun K hK => ?_)
  unfold Oper.wp
  go_simp
  refine hK _ _ ?_
  clear hK K
  refine wpAny_end (by kernel_rfl) ?_
  have hnew : VBox (((v.setCell ⟨b15, 0, none⟩ (.float .f64 r.x)).setCell ⟨b15, 1, none⟩ (.float .f64 r.y)).setCell ⟨b15, 2, none⟩ (.float .f64 r.z)) b15 r := ⟨set3 h0⟩
  have hR2 : VBox (((v.setCell ⟨b15, 0, none⟩ (.float .f64 r.x)).setCell ⟨b15, 1, none⟩ (.float .f64 r.y)).setCell ⟨b15, 2, none⟩ (.float .f64 r.z)) (w.heap.size + 1 + 1 + 1) ⟨0, 0, 0⟩ := ⟨(set3_other (by omega)).trans ((unhideR HR).go (unhideR HLow)).at_⟩
  have hX2 := ((unhideR HX).go (unhideR HLow)).set (b := b15) (fun p hp => by have := hlx p hp; omega) r
  have hW2 := below_three (below_go (unhideR HW) (unhideR HLow)) (show w.heap.size ≤ b15 by have := (unhideR HW).size; omega) (.float .f64 r.x) (.float .f64 r.y) (.float .f64 r.z)
  replace HR := hideR hR2
  replace HW := hideR hW2
  have HXo := hideR hX2
  have HNo := hideR hnew
  have hlb2 := fun p hp => Nat.lt_of_lt_of_le (hlx p hp) hge
  have hrb : w.heap.size + 1 + 1 + 1 < b15 := Nat.lt_of_lt_of_le hlr hge
  clear hR2 hW2 hX2 hnew h0 c0 c1 c2 f0 f1 f2 HLow hlx hge HX hlr
  generalize ((v.setCell ⟨b15, 0, none⟩ (.float .f64 r.x)).setCell ⟨b15, 1, none⟩ (.float .f64 r.y)).setCell ⟨b15, 2, none⟩ (.float .f64 r.z) = W16 at *
  have hG : GibR a b c mu r := ⟨la, lb, lc, ln, ld, p, q, f, bc, ca, ab, n0, n, d, s0, s, unhideR Hla, unhideR Hlb, unhideR Hlc, unhideR Hbc, unhideR Hca, unhideR Hab, unhideR H_n0, unhideR H_n, unhideR H_d, unhideR H_s0, unhideR H_s, unhideR Hln, unhideR Hld, unhideR Hp, unhideR Hq, unhideR Hf, unhideR H_r⟩
  have HG := hideR hG
  clear hG Hla Hlb Hlc Hbc Hca Hab H_n0 H_n H_d H_s0 H_s Hln Hld Hp Hq Hf H_r HXo hlb2
  have hfx := fun v => finite_any r.x v
  have hfy := fun v => finite_any r.y v
  have hfz := fun v => finite_any r.z v
  have HE : HeldR (∀ fx fy fz, finB r.x = fx → finB r.y = fy → finB r.z = fz → GibEnd a b c mu (.returned (.tuple #[(if fx && fy && fz then r else ⟨0, 0, 0⟩ : V3).val, .bool (fx && fy && fz)]))) := fun fx fy fz h1 h2 h3 => by
    subst h1 h2 h3
    exact ⟨r, unhideR HG, rfl⟩
  obtain ⟨fx, h1⟩ : ∃ f, finB r.x = f := ⟨_, rfl⟩
  obtain ⟨fy, h2⟩ : ∃ f, finB r.y = f := ⟨_, rfl⟩
  obtain ⟨fz, h3⟩ : ∃ f, finB r.z = f := ⟨_, rfl⟩
  have HEnd := hideR (unhideR HE fx fy fz h1 h2 h3)
  rw [h1] at hfx
  rw [h2] at hfy
  rw [h3] at hfz
  clear HE HG h1 h2 h3
  obtain ⟨⟨c0, c1, c2⟩, _⟩ := three_at (unhideR HNo).at_
  obtain ⟨⟨d0, d1, d2⟩, f0, f1, f2⟩ := three_at (unhideR HR).at_
  go_wp2_with fail
  refine (hfx _).mono ?_
  rintro e w17 ⟨rfl, n1, rfl⟩
  go_wp2_with fail
  refine (hfy _).mono ?_
  rintro e w17 ⟨rfl, n2, rfl⟩
  go_wp2_with fail
  refine (hfz _).mono ?_
  rintro e w17 ⟨rfl, n3, rfl⟩
  clear hfx hfy hfz
  cases fx <;> cases fy <;> cases fz
  all_goals
    simp at HEnd
    unfold V3.val at HEnd
    go_wp2
    simp [bodyPost, results, Try.results5, go_sem, d0, d1, d2]
    exact ⟨unhideR HEnd, below_three (below_drewN (unhideR HW) _) (by omega) _ _ _⟩
end Go.Proofs.Ytfamndjiaebmbaf
