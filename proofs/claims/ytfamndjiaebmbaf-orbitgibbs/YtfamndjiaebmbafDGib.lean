/-
  The program's Gibbs, by its contract.
-/
import Derived.Test.YtfamndjiaebmbafDSumV
namespace Go.Proofs.Ytfamndjiaebmbaf
open Go Go.RowKit

/-! rows of vectors made on the way -/
def cells2 (p q : V3) : Obj := .cells #[.float .f64 p.x, .float .f64 p.y, .float .f64 p.z, .float .f64 q.x, .float .f64 q.y, .float .f64 q.z] 24
def cells1 (p : V3) : Obj := .cells #[.float .f64 p.x, .float .f64 p.y, .float .f64 p.z] 24
theorem row2 {w : World} {b : Nat} {p q : V3} (h : w.heap[b]? = some (cells2 p q)) : VRow w b 0 [p, q] := by
  unfold cells2 at h
  refine ⟨fun j hj => ?_, fun j hj => ?_, fun j hj => ?_⟩
  all_goals
    have hj2 : j = 0 ∨ j = 1 := by simp at hj; omega
    rcases hj2 with rfl | rfl
    all_goals exact (cells_at h _ (by simp)).1
theorem row1 {w : World} {b : Nat} {p : V3} (h : w.heap[b]? = some (cells1 p)) : VRow w b 0 [p] := by
  unfold cells1 at h
  refine ⟨fun j hj => ?_, fun j hj => ?_, fun j hj => ?_⟩
  all_goals
    have hj2 : j = 0 := by simp at hj; omega
    subst hj2
    exact (cells_at h _ (by simp)).1
def RowS (n : Nat) (v : Value) : Prop := ∃ b, v = .slice (some ⟨b, 0, none⟩) n n
def Row2At (P Q : V3 → Prop) (v : Value) (w : World) : Prop := ∃ p q, P p ∧ Q q ∧ ∀ b, v = .slice (some ⟨b, 0, none⟩) 2 2 → w.heap[b]? = some (cells2 p q)
def Row1At (p : V3) (v : Value) (w : World) : Prop := ∀ b, v = .slice (some ⟨b, 0, none⟩) 1 1 → w.heap[b]? = some (cells1 p)
theorem row2_stb (P Q : V3 → Prop) (v : Value) : Stb (Row2At P Q v) := by
  rintro w w' ⟨p, q, hp, hq, h⟩ hb
  exact ⟨p, q, hp, hq, fun b e => keepB (h b e) hb⟩
theorem row1_stb (p : V3) (v : Value) : Stb (Row1At p v) := fun _ _ h hb b e => keepB (h b e) hb
theorem sum2_any (p q1 q2 : V3) (b : Nat) (w : World) (h : w.heap[b]? = some (cells2 q1 q2)) : Calls Try.prog 9 #[.agg #[.float .f64 p.x, .float .f64 p.y, .float .f64 p.z], .slice (some ⟨b, 0, none⟩) 2 2] w fun e w' => ∃ r : V3, e = .returned r.val ∧ BB p q1 q2 r ∧ Below w.heap.size w w' := by
  refine (sumP_any p b 0 2 [q1, q2] w (row2 h) (by simp) (ltB h)).mono ?_
  rintro e w' ⟨r, rfl, ⟨s, ⟨t, ht, h1⟩, h2⟩, k⟩
  subst ht
  exact ⟨r, rfl, ⟨s, h1, h2⟩, k⟩
theorem sum1_any (p q : V3) (b : Nat) (w : World) (h : w.heap[b]? = some (cells1 q)) : Calls Try.prog 9 #[.agg #[.float .f64 p.x, .float .f64 p.y, .float .f64 p.z], .slice (some ⟨b, 0, none⟩) 1 1] w fun e w' => ∃ r : V3, e = .returned r.val ∧ BoV p q r ∧ Below w.heap.size w w' := by
  refine (sumP_any p b 0 1 [q] w (row1 h) (by simp) (ltB h)).mono ?_
  rintro e w' ⟨r, rfl, ⟨t, ht, h1⟩, k⟩
  subst ht
  exact ⟨r, rfl, h1, k⟩
/-! what is reckoned -/
def LSet (v : V3) (u : Value) : Prop := ∃ l, u = .float .f64 l ∧ LnV v l
theorem ln_some (v : V3) : ∃ l, LnV v l := by
  obtain ⟨_, r, t, _, h1, h2⟩ := qset_some (lenE v.x v.y v.z)
  exact ⟨r, t, h1, h2⟩
theorem lset_some (v : V3) : ∃ u, LSet v u := by
  obtain ⟨l, h⟩ := ln_some v
  exact ⟨_, l, rfl, h⟩
def NN (la : Nat) (bc : V3) (lb : Nat) (ca : V3) (lc : Nat) (ab r : V3) : Prop := ∃ n0, MM la bc lb ca n0 ∧ PM n0 lc ab r
theorem nn_some (la : Nat) (bc : V3) (lb : Nat) (ca : V3) (lc : Nat) (ab : V3) : ∃ r, SetV (NN la bc lb ca lc ab) r := by
  obtain ⟨_, n0, _, h0⟩ := mm_some la bc lb ca
  obtain ⟨_, n, _, h1⟩ := pm_some n0 lc ab
  exact ⟨_, n, rfl, n0, h0, h1⟩
def SN (la lb lc : Nat) (a b c r : V3) : Prop := ∃ s0, DM lb lc a lc la b s0 ∧ PS s0 la lb c r
theorem sn_some (la lb lc : Nat) (a b c : V3) : ∃ r, SetV (SN la lb lc a b c) r := by
  obtain ⟨_, n0, _, h0⟩ := dm_some lb lc a lc la b
  obtain ⟨_, n, _, h1⟩ := ps_some n0 la lb c
  exact ⟨_, n, rfl, n0, h0, h1⟩
def FlS (P : Nat → Prop) (u : Value) : Prop := ∃ r, u = .float .f64 r ∧ P r
def P1 (n d : V3) (p : Nat) : Prop := ∃ ln ld, LnV n ln ∧ LnV d ld ∧ FOp .mul ln ld p
def P2 (mu : Nat) (n d : V3) (q : Nat) : Prop := ∃ p, P1 n d p ∧ FOp .quo mu p q
def P3 (mu : Nat) (n d : V3) (f : Nat) : Prop := ∃ q, P2 mu n d q ∧ FSq q f
def P4 (mu : Nat) (n d way r : V3) : Prop := ∃ f, P3 mu n d f ∧ ScV f way r
theorem sq_some (t : Nat) : ∃ r, FSq t r := by
  cases hq : FloatKind.f64.format.sqrt t with
  | some v => exact ⟨v, by unfold FSq; rw [hq]⟩
  | none => exact ⟨_, by unfold FSq; rw [hq]; exact nan_cut t t 0⟩
theorem p1_some (n d : V3) : ∃ p, P1 n d p := by
  obtain ⟨ln, h1⟩ := ln_some n
  obtain ⟨ld, h2⟩ := ln_some d
  obtain ⟨p, h3⟩ := fop_some .mul ln ld
  exact ⟨p, ln, ld, h1, h2, h3⟩
theorem p2_some (mu : Nat) (n d : V3) : ∃ q, P2 mu n d q := by
  obtain ⟨p, h1⟩ := p1_some n d
  obtain ⟨q, h2⟩ := fop_some .quo mu p
  exact ⟨q, p, h1, h2⟩
theorem p3_some (mu : Nat) (n d : V3) : ∃ f, P3 mu n d f := by
  obtain ⟨q, h1⟩ := p2_some mu n d
  obtain ⟨f, h2⟩ := sq_some q
  exact ⟨f, q, h1, h2⟩
theorem p4_some (mu : Nat) (n d way : V3) : ∃ r, SetV (P4 mu n d way) r := by
  obtain ⟨f, h1⟩ := p3_some mu n d
  obtain ⟨_, r, _, h2⟩ := sc_some f way
  exact ⟨_, r, rfl, f, h1, h2⟩
theorem fls_some {P : Nat → Prop} (h : ∃ r, P r) : ∃ u, FlS P u := by
  obtain ⟨r, h⟩ := h
  exact ⟨_, r, rfl, h⟩
set_option maxRecDepth 100000 in
set_option maxHeartbeats 16000000 in
theorem gibbs_any (a b c : V3) (mu : Nat) (w : World) : Calls Try.prog 4 #[a.val, b.val, c.val, .float .f64 mu] w fun e w' => GibEnd a b c mu e ∧ Below w.heap.size w w' := by
  have hsf := run_store_float Try.prog
  have hu := fun t x y v => run_fsub (P := Try.prog) t x y v
  have hm := fun t x y v => run_fmul (P := Try.prog) t x y v
  have hq := fun t x y v => run_fquo (P := Try.prog) t x y v
  unfold V3.val
  go_enter Try.func4, Try.ntmps4
  go_wp2_with fail
  obtain ⟨b0, b1, b2, b3, hB⟩ := four_blocks (w := w) (A := cells1 a) (B := cells1 b) (C := cells1 c) (D := zero3) (Below.refl _ _)
  unfold cells1 zero3 at b0 b1 b2 b3 hB
  generalize (((w.alloc (.cells #[.float .f64 a.x, .float .f64 a.y, .float .f64 a.z] 24)).alloc (.cells #[.float .f64 b.x, .float .f64 b.y, .float .f64 b.z] 24)).alloc (.cells #[.float .f64 c.x, .float .f64 c.y, .float .f64 c.z] 24)).alloc (.cells #[.float .f64 0, .float .f64 0, .float .f64 0] 24) = W1 at *
  have HX : HeldR (Bx [(w.heap.size, a), (w.heap.size + 1, b), (w.heap.size + 1 + 1, c)] W1) := hideR ((((Bx.mk (fun p hp => by cases hp)).cons ⟨b2⟩).cons ⟨b1⟩).cons ⟨b0⟩)
  have HR := hideR (VBox.mk (q := ⟨0, 0, 0⟩) b3)
  have HW := hideR hB
  clear b0 b1 b2 b3 hB
  refine wp_region_made 2 #[true, true, true, true, true, true, false, false, false] [.lets (· = .agg #[.float .f64 a.x, .float .f64 a.y, .float .f64 a.z]),
    .lets (LSet a),
    .lets (· = .agg #[.float .f64 b.x, .float .f64 b.y, .float .f64 b.z]),
    .lets (LSet b),
    .lets (· = .agg #[.float .f64 c.x, .float .f64 c.y, .float .f64 c.z]),
    .lets (LSet c)] [] [] (by kernel_rfl) (by kernel_rfl) rfl ?kinds (by kernel_rfl) (by kernel_rfl) (by kernel_rfl) ?_
  case kinds =>
    constructor
    · intro i h
      rcases i with _ | _ | _ | _ | _ | _ | i <;> simp [Kx.isMade] at h
    · intro i h
      rcases i with _ | _ | _ | _ | _ | _ | i <;> simp [Kx.isUse] at h
  refine lexX_step (fun K hK => ⟨by kernel_rfl, ⟨_, rfl⟩, fun v hv => ?_, fun v hv => ?_⟩)
  · obtain ⟨⟨c0, c1, c2⟩, _⟩ := three_at (((unhideR HX).go hv).get mem0).at_
    go_simp
    exact mUpon_b
  subst hv
  go_simp
  refine hK _ ?_
  clear hK K
  refine lexX_step (fun K hK => ⟨by kernel_rfl, lset_some _, fun v hv => ?_, fun v hv => ?_⟩)
  · go_simp
    refine (lengthV_any a _).mono ?_
    rintro e w9 ⟨r, rfl, hr, k⟩
    exact ⟨_, rfl, ⟨r, rfl, hr⟩, k⟩
  obtain ⟨la, rfl, h_la⟩ := hv
  go_simp
  refine hK _ ?_
  clear hK K
  have H_la := hideR h_la
  clear h_la
  refine lexX_step (fun K hK => ⟨by kernel_rfl, ⟨_, rfl⟩, fun v hv => ?_, fun v hv => ?_⟩)
  · obtain ⟨⟨c0, c1, c2⟩, _⟩ := three_at (((unhideR HX).go hv).get (memS mem0)).at_
    go_simp
    exact mUpon_b
  subst hv
  go_simp
  refine hK _ ?_
  clear hK K
  refine lexX_step (fun K hK => ⟨by kernel_rfl, lset_some _, fun v hv => ?_, fun v hv => ?_⟩)
  · go_simp
    refine (lengthV_any b _).mono ?_
    rintro e w9 ⟨r, rfl, hr, k⟩
    exact ⟨_, rfl, ⟨r, rfl, hr⟩, k⟩
  obtain ⟨lb, rfl, h_lb⟩ := hv
  go_simp
  refine hK _ ?_
  clear hK K
  have H_lb := hideR h_lb
  clear h_lb
  refine lexX_step (fun K hK => ⟨by kernel_rfl, ⟨_, rfl⟩, fun v hv => ?_, fun v hv => ?_⟩)
  · obtain ⟨⟨c0, c1, c2⟩, _⟩ := three_at (((unhideR HX).go hv).get (memS (memS mem0))).at_
    go_simp
    exact mUpon_b
  subst hv
  go_simp
  refine hK _ ?_
  clear hK K
  refine lexX_step (fun K hK => ⟨by kernel_rfl, lset_some _, fun v hv => ?_, fun v hv => ?_⟩)
  · go_simp
    refine (lengthV_any c _).mono ?_
    rintro e w9 ⟨r, rfl, hr, k⟩
    exact ⟨_, rfl, ⟨r, rfl, hr⟩, k⟩
  obtain ⟨lc, rfl, h_lc⟩ := hv
  go_simp
  refine hK _ ?_
  clear hK K
  have H_lc := hideR h_lc
  clear h_lc
  refine lexX_end (fun v hv => ?_)
  replace HX := hideR ((unhideR HX).go hv.low)
  replace HR := hideR ((unhideR HR).go hv.low)
  replace HW := hideR (below_go (unhideR HW) hv.low)
  clear hv
  refine wpAny_step (i := 6) (by kernel_rfl) rfl (by kernel_rfl) (fun K hK => ?_)
  unfold Oper.wp
  go_simp
  refine hK _ _ ?_
  clear hK K
  refine wpAny_step (i := 7) (by kernel_rfl) rfl (by kernel_rfl) (fun K hK => ?_)
  unfold Oper.wp
  go_simp
  refine hK _ _ ?_
  clear hK K
  refine wpAny_step (i := 8) (by kernel_rfl) rfl (by kernel_rfl) (fun K hK => ?_)
  unfold Oper.wp
  go_simp
  refine hK _ _ ?_
  clear hK K
  refine wpAny_end (by kernel_rfl) ?_
  go_wp2_with fail
  refine wp_region_made 2 #[true, true, true, true, true, true, true, true, true, true, true, true, false, false, false] [.lets (· = .agg #[.float .f64 a.x, .float .f64 a.y, .float .f64 a.z]),
    .lets (· = .agg #[.float .f64 b.x, .float .f64 b.y, .float .f64 b.z]),
    .lets (SetV (CrV a b)),
    .lets (· = .agg #[.float .f64 b.x, .float .f64 b.y, .float .f64 b.z]),
    .lets (· = .agg #[.float .f64 c.x, .float .f64 c.y, .float .f64 c.z]),
    .lets (SetV (CrV b c)),
    .lets (· = .agg #[.float .f64 c.x, .float .f64 c.y, .float .f64 c.z]),
    .lets (· = .agg #[.float .f64 a.x, .float .f64 a.y, .float .f64 a.z]),
    .lets (SetV (CrV c a)),
    .new zero3,
    .new zero3,
    .new zero3] [] [] (by kernel_rfl) (by kernel_rfl) rfl ?kinds (by kernel_rfl) (by kernel_rfl) (by kernel_rfl) ?_
  case kinds =>
    constructor
    · intro i h
      rcases i with _ | _ | _ | _ | _ | _ | _ | _ | _ | _ | _ | _ | i <;> simp [Kx.isMade] at h
    · intro i h
      rcases i with _ | _ | _ | _ | _ | _ | _ | _ | _ | _ | _ | _ | i <;> simp [Kx.isUse] at h
  refine lexX_step (fun K hK => ⟨by kernel_rfl, ⟨_, rfl⟩, fun v hv => ?_, fun v hv => ?_⟩)
  · obtain ⟨⟨c0, c1, c2⟩, _⟩ := three_at (((unhideR HX).go hv).get mem0).at_
    go_simp
    exact mUpon_b
  subst hv
  go_simp
  refine hK _ ?_
  clear hK K
  refine lexX_step (fun K hK => ⟨by kernel_rfl, ⟨_, rfl⟩, fun v hv => ?_, fun v hv => ?_⟩)
  · obtain ⟨⟨c0, c1, c2⟩, _⟩ := three_at (((unhideR HX).go hv).get (memS mem0)).at_
    go_simp
    exact mUpon_b
  subst hv
  go_simp
  refine hK _ ?_
  clear hK K
  refine lexX_step (fun K hK => ⟨by kernel_rfl, crv_some _ _, fun v hv => ?_, fun v hv => ?_⟩)
  · go_simp
    refine (crossP_any a b _).mono ?_
    rintro e w9 ⟨r, rfl, hr, k⟩
    exact ⟨_, rfl, ⟨r, rfl, hr⟩, k⟩
  obtain ⟨ab, rfl, h_ab⟩ := hv
  try unfold V3.val
  go_simp
  refine hK _ ?_
  clear hK K
  have H_ab := hideR h_ab
  clear h_ab
  refine lexX_step (fun K hK => ⟨by kernel_rfl, ⟨_, rfl⟩, fun v hv => ?_, fun v hv => ?_⟩)
  · obtain ⟨⟨c0, c1, c2⟩, _⟩ := three_at (((unhideR HX).go hv).get (memS mem0)).at_
    go_simp
    exact mUpon_b
  subst hv
  go_simp
  refine hK _ ?_
  clear hK K
  refine lexX_step (fun K hK => ⟨by kernel_rfl, ⟨_, rfl⟩, fun v hv => ?_, fun v hv => ?_⟩)
  · obtain ⟨⟨c0, c1, c2⟩, _⟩ := three_at (((unhideR HX).go hv).get (memS (memS mem0))).at_
    go_simp
    exact mUpon_b
  subst hv
  go_simp
  refine hK _ ?_
  clear hK K
  refine lexX_step (fun K hK => ⟨by kernel_rfl, crv_some _ _, fun v hv => ?_, fun v hv => ?_⟩)
  · go_simp
    refine (crossP_any b c _).mono ?_
    rintro e w9 ⟨r, rfl, hr, k⟩
    exact ⟨_, rfl, ⟨r, rfl, hr⟩, k⟩
  obtain ⟨bc, rfl, h_bc⟩ := hv
  try unfold V3.val
  go_simp
  refine hK _ ?_
  clear hK K
  have H_bc := hideR h_bc
  clear h_bc
  refine lexX_step (fun K hK => ⟨by kernel_rfl, ⟨_, rfl⟩, fun v hv => ?_, fun v hv => ?_⟩)
  · obtain ⟨⟨c0, c1, c2⟩, _⟩ := three_at (((unhideR HX).go hv).get (memS (memS mem0))).at_
    go_simp
    exact mUpon_b
  subst hv
  go_simp
  refine hK _ ?_
  clear hK K
  refine lexX_step (fun K hK => ⟨by kernel_rfl, ⟨_, rfl⟩, fun v hv => ?_, fun v hv => ?_⟩)
  · obtain ⟨⟨c0, c1, c2⟩, _⟩ := three_at (((unhideR HX).go hv).get mem0).at_
    go_simp
    exact mUpon_b
  subst hv
  go_simp
  refine hK _ ?_
  clear hK K
  refine lexX_step (fun K hK => ⟨by kernel_rfl, crv_some _ _, fun v hv => ?_, fun v hv => ?_⟩)
  · go_simp
    refine (crossP_any c a _).mono ?_
    rintro e w9 ⟨r, rfl, hr, k⟩
    exact ⟨_, rfl, ⟨r, rfl, hr⟩, k⟩
  obtain ⟨ca, rfl, h_ca⟩ := hv
  try unfold V3.val
  go_simp
  refine hK _ ?_
  clear hK K
  have H_ca := hideR h_ca
  clear h_ca
  refine lexX_new ((fin0).some _) (fun g1 fg1 K hK => ⟨by kernel_rfl, fun v => ?_, ?_⟩)
  · go_simp
    exact ⟨rfl, rfl⟩
  unfold ptr
  go_simp
  refine hK _ ?_
  clear hK K
  refine lexX_new ((fin0.put g1 zero3).some _) (fun g2 fg2 K hK => ⟨by kernel_rfl, fun v => ?_, ?_⟩)
  · go_simp
    exact ⟨rfl, rfl⟩
  unfold ptr
  go_simp
  refine hK _ ?_
  clear hK K
  refine lexX_new (((fin0.put g1 zero3).put g2 zero3).some _) (fun g3 fg3 K hK => ⟨by kernel_rfl, fun v => ?_, ?_⟩)
  · go_simp
    exact ⟨rfl, rfl⟩
  unfold ptr
  go_simp
  refine hK _ ?_
  clear hK K
  have n21 : g2 ≠ g1 := by
    have := fg2.no
    unfold Hd.put at this
    by_cases e : g2 = g1
    · rw [if_pos e] at this
      cases this
    · exact e
  have n32 : g3 ≠ g2 := by
    have := fg3.no
    unfold Hd.put at this
    by_cases e : g3 = g2
    · rw [if_pos e] at this
      cases this
    · exact e
  have n31 : g3 ≠ g1 := by
    have := fg3.no
    unfold Hd.put at this
    rw [if_neg n32] at this
    by_cases e : g3 = g1
    · rw [if_pos e] at this
      cases this
    · exact e
  refine lexX_end (fun v hv => ?_)
  have z1 : v.heap[g1]? = some zero3 := hv.held g1 zero3 (by unfold Hd.put; rw [if_neg (Ne.symm n31), if_neg (Ne.symm n21), if_pos rfl])
  have z2 : v.heap[g2]? = some zero3 := hv.held g2 zero3 (by unfold Hd.put; rw [if_neg (Ne.symm n32), if_pos rfl])
  have z3 : v.heap[g3]? = some zero3 := hv.held g3 zero3 (by unfold Hd.put; rw [if_pos rfl])
  unfold zero3 at z1 z2 z3
  have hlx := (unhideR HX).lt
  have hlr := ltB (unhideR HR).at_
  have hlw := (unhideR HW).size
  have ge1 := fg1.ge
  have ge2 := fg2.ge
  have ge3 := fg3.ge
  have hX := (unhideR HX).go hv.low
  have hR := (unhideR HR).go hv.low
  have hW := below_go (unhideR HW) hv.low
  clear hv fg1 fg2 fg3 HX HR HW
  obtain ⟨⟨c0, c1, c2⟩, f0, f1, f2⟩ := three_at z1
  refine wpAny_step (i := 12) (by kernel_rfl) rfl (by kernel_rfl) (fun K hK => ?_)
  unfold Oper.wp
  go_simp
  refine hK _ _ ?_
  clear hK K
  have y1 : VBox (((v.setCell ⟨g1, 0, none⟩ (.float .f64 ab.x)).setCell ⟨g1, 1, none⟩ (.float .f64 ab.y)).setCell ⟨g1, 2, none⟩ (.float .f64 ab.z)) g1 ab := ⟨set3 z1⟩
  replace hR : VBox (((v.setCell ⟨g1, 0, none⟩ (.float .f64 ab.x)).setCell ⟨g1, 1, none⟩ (.float .f64 ab.y)).setCell ⟨g1, 2, none⟩ (.float .f64 ab.z)) (w.heap.size + 1 + 1 + 1) ⟨0, 0, 0⟩ := ⟨(set3_other (by omega)).trans hR.at_⟩
  replace hX := hX.set (b := g1) (fun p hp => by have := hlx p hp; omega) ab
  replace hW := below_three hW (show w.heap.size ≤ g1 by omega) (.float .f64 ab.x) (.float .f64 ab.y) (.float .f64 ab.z)
  replace z2 : (((v.setCell ⟨g1, 0, none⟩ (.float .f64 ab.x)).setCell ⟨g1, 1, none⟩ (.float .f64 ab.y)).setCell ⟨g1, 2, none⟩ (.float .f64 ab.z)).heap[g2]? = _ := (set3_other (by omega)).trans z2
  replace z3 : (((v.setCell ⟨g1, 0, none⟩ (.float .f64 ab.x)).setCell ⟨g1, 1, none⟩ (.float .f64 ab.y)).setCell ⟨g1, 2, none⟩ (.float .f64 ab.z)).heap[g3]? = _ := (set3_other (by omega)).trans z3
  clear z1 c0 c1 c2 f0 f1 f2
  generalize (((v.setCell ⟨g1, 0, none⟩ (.float .f64 ab.x)).setCell ⟨g1, 1, none⟩ (.float .f64 ab.y)).setCell ⟨g1, 2, none⟩ (.float .f64 ab.z)) = v1 at *
  obtain ⟨⟨c0, c1, c2⟩, f0, f1, f2⟩ := three_at z2
  refine wpAny_step (i := 13) (by kernel_rfl) rfl (by kernel_rfl) (fun K hK => ?_)
  unfold Oper.wp
  go_simp
  refine hK _ _ ?_
  clear hK K
  have y2 : VBox (((v1.setCell ⟨g2, 0, none⟩ (.float .f64 bc.x)).setCell ⟨g2, 1, none⟩ (.float .f64 bc.y)).setCell ⟨g2, 2, none⟩ (.float .f64 bc.z)) g2 bc := ⟨set3 z2⟩
  replace hR : VBox (((v1.setCell ⟨g2, 0, none⟩ (.float .f64 bc.x)).setCell ⟨g2, 1, none⟩ (.float .f64 bc.y)).setCell ⟨g2, 2, none⟩ (.float .f64 bc.z)) (w.heap.size + 1 + 1 + 1) ⟨0, 0, 0⟩ := ⟨(set3_other (by omega)).trans hR.at_⟩
  replace hX := hX.set (b := g2) (fun p hp => by have := hlx p hp; omega) bc
  replace hW := below_three hW (show w.heap.size ≤ g2 by omega) (.float .f64 bc.x) (.float .f64 bc.y) (.float .f64 bc.z)
  replace z3 : (((v1.setCell ⟨g2, 0, none⟩ (.float .f64 bc.x)).setCell ⟨g2, 1, none⟩ (.float .f64 bc.y)).setCell ⟨g2, 2, none⟩ (.float .f64 bc.z)).heap[g3]? = _ := (set3_other (by omega)).trans z3
  replace y1 : VBox (((v1.setCell ⟨g2, 0, none⟩ (.float .f64 bc.x)).setCell ⟨g2, 1, none⟩ (.float .f64 bc.y)).setCell ⟨g2, 2, none⟩ (.float .f64 bc.z)) g1 ab := ⟨(set3_other (by omega)).trans y1.at_⟩
  clear z2 c0 c1 c2 f0 f1 f2
  generalize (((v1.setCell ⟨g2, 0, none⟩ (.float .f64 bc.x)).setCell ⟨g2, 1, none⟩ (.float .f64 bc.y)).setCell ⟨g2, 2, none⟩ (.float .f64 bc.z)) = v2 at *
  obtain ⟨⟨c0, c1, c2⟩, f0, f1, f2⟩ := three_at z3
  refine wpAny_step (i := 14) (by kernel_rfl) rfl (by kernel_rfl) (fun K hK => ?_)
  unfold Oper.wp
  go_simp
  refine hK _ _ ?_
  clear hK K
  have y3 : VBox (((v2.setCell ⟨g3, 0, none⟩ (.float .f64 ca.x)).setCell ⟨g3, 1, none⟩ (.float .f64 ca.y)).setCell ⟨g3, 2, none⟩ (.float .f64 ca.z)) g3 ca := ⟨set3 z3⟩
  replace hR : VBox (((v2.setCell ⟨g3, 0, none⟩ (.float .f64 ca.x)).setCell ⟨g3, 1, none⟩ (.float .f64 ca.y)).setCell ⟨g3, 2, none⟩ (.float .f64 ca.z)) (w.heap.size + 1 + 1 + 1) ⟨0, 0, 0⟩ := ⟨(set3_other (by omega)).trans hR.at_⟩
  replace hX := hX.set (b := g3) (fun p hp => by have := hlx p hp; omega) ca
  replace hW := below_three hW (show w.heap.size ≤ g3 by omega) (.float .f64 ca.x) (.float .f64 ca.y) (.float .f64 ca.z)
  replace y1 : VBox (((v2.setCell ⟨g3, 0, none⟩ (.float .f64 ca.x)).setCell ⟨g3, 1, none⟩ (.float .f64 ca.y)).setCell ⟨g3, 2, none⟩ (.float .f64 ca.z)) g1 ab := ⟨(set3_other (by omega)).trans y1.at_⟩
  replace y2 : VBox (((v2.setCell ⟨g3, 0, none⟩ (.float .f64 ca.x)).setCell ⟨g3, 1, none⟩ (.float .f64 ca.y)).setCell ⟨g3, 2, none⟩ (.float .f64 ca.z)) g2 bc := ⟨(set3_other (by omega)).trans y2.at_⟩
  clear z3 c0 c1 c2 f0 f1 f2
  generalize (((v2.setCell ⟨g3, 0, none⟩ (.float .f64 ca.x)).setCell ⟨g3, 1, none⟩ (.float .f64 ca.y)).setCell ⟨g3, 2, none⟩ (.float .f64 ca.z)) = W3 at *
  have HX := hideR (((hX.cons y3).cons y2).cons y1)
  have HR := hideR hR
  have HW := hideR hW
  clear hX hR hW y1 y2 y3 hlx hlr hlw ge1 ge2 ge3 n21 n31 n32
  refine wpAny_end (by kernel_rfl) ?_
  go_wp2_with fail
  refine wp_region_made 0 #[true, true, true, true, true, true, true, true, true, true, true, true, false] [.lets (· = .float .f64 la),
    .lets (· = .agg #[.float .f64 bc.x, .float .f64 bc.y, .float .f64 bc.z]),
    .lets (SetV (ScV la bc)),
    .lets (· = .float .f64 lb),
    .lets (· = .agg #[.float .f64 ca.x, .float .f64 ca.y, .float .f64 ca.z]),
    .lets (SetV (ScV lb ca)),
    .lets (· = .float .f64 lc),
    .lets (· = .agg #[.float .f64 ab.x, .float .f64 ab.y, .float .f64 ab.z]),
    .lets (SetV (ScV lc ab)),
    .made (RowS 2) (Row2At (ScV lb ca) (ScV lc ab)),
    .uses (SetV (NN la bc lb ca lc ab)),
    .new zero3] [9] [10] (by kernel_rfl) (by kernel_rfl) rfl ?kinds (by kernel_rfl) (by kernel_rfl) (by kernel_rfl) ?_
  case kinds =>
    constructor
    · intro i h
      rcases i with _ | _ | _ | _ | _ | _ | _ | _ | _ | _ | _ | _ | i <;> simp [Kx.isMade] at h ⊢
    · intro i h
      rcases i with _ | _ | _ | _ | _ | _ | _ | _ | _ | _ | _ | _ | i <;> simp [Kx.isUse] at h ⊢
  refine lexX_step (fun K hK => ⟨by kernel_rfl, ⟨_, rfl⟩, fun v hv => ?_, fun v hv => ?_⟩)
  · go_simp
    exact mUpon_b
  subst hv
  go_simp
  refine hK _ ?_
  clear hK K
  refine lexX_step (fun K hK => ⟨by kernel_rfl, ⟨_, rfl⟩, fun v hv => ?_, fun v hv => ?_⟩)
  · obtain ⟨⟨c0, c1, c2⟩, _⟩ := three_at (((unhideR HX).go hv).get (memS mem0)).at_
    go_simp
    exact mUpon_b
  subst hv
  go_simp
  refine hK _ ?_
  clear hK K
  refine lexX_step (fun K hK => ⟨by kernel_rfl, sc_some _ _, fun v hv => ?_, fun v hv => ?_⟩)
  · go_simp
    refine (times_any la bc _).mono ?_
    rintro e w9 ⟨r, rfl, hr, k⟩
    exact ⟨_, rfl, ⟨r, rfl, hr⟩, k⟩
  obtain ⟨s1, rfl, h_s1⟩ := hv
  try unfold V3.val
  go_simp
  refine hK _ ?_
  clear hK K
  have H_s1 := hideR h_s1
  clear h_s1
  refine lexX_step (fun K hK => ⟨by kernel_rfl, ⟨_, rfl⟩, fun v hv => ?_, fun v hv => ?_⟩)
  · go_simp
    exact mUpon_b
  subst hv
  go_simp
  refine hK _ ?_
  clear hK K
  refine lexX_step (fun K hK => ⟨by kernel_rfl, ⟨_, rfl⟩, fun v hv => ?_, fun v hv => ?_⟩)
  · obtain ⟨⟨c0, c1, c2⟩, _⟩ := three_at (((unhideR HX).go hv).get (memS (memS mem0))).at_
    go_simp
    exact mUpon_b
  subst hv
  go_simp
  refine hK _ ?_
  clear hK K
  refine lexX_step (fun K hK => ⟨by kernel_rfl, sc_some _ _, fun v hv => ?_, fun v hv => ?_⟩)
  · go_simp
    refine (times_any lb ca _).mono ?_
    rintro e w9 ⟨r, rfl, hr, k⟩
    exact ⟨_, rfl, ⟨r, rfl, hr⟩, k⟩
  obtain ⟨s2, rfl, h_s2⟩ := hv
  try unfold V3.val
  go_simp
  refine hK _ ?_
  clear hK K
  have H_s2 := hideR h_s2
  clear h_s2
  refine lexX_step (fun K hK => ⟨by kernel_rfl, ⟨_, rfl⟩, fun v hv => ?_, fun v hv => ?_⟩)
  · go_simp
    exact mUpon_b
  subst hv
  go_simp
  refine hK _ ?_
  clear hK K
  refine lexX_step (fun K hK => ⟨by kernel_rfl, ⟨_, rfl⟩, fun v hv => ?_, fun v hv => ?_⟩)
  · obtain ⟨⟨c0, c1, c2⟩, _⟩ := three_at (((unhideR HX).go hv).get mem0).at_
    go_simp
    exact mUpon_b
  subst hv
  go_simp
  refine hK _ ?_
  clear hK K
  refine lexX_step (fun K hK => ⟨by kernel_rfl, sc_some _ _, fun v hv => ?_, fun v hv => ?_⟩)
  · go_simp
    refine (times_any lc ab _).mono ?_
    rintro e w9 ⟨r, rfl, hr, k⟩
    exact ⟨_, rfl, ⟨r, rfl, hr⟩, k⟩
  obtain ⟨s3, rfl, h_s3⟩ := hv
  try unfold V3.val
  go_simp
  refine hK _ ?_
  clear hK K
  have H_s3 := hideR h_s3
  clear h_s3
  refine lexX_made ⟨by kernel_rfl, ⟨_, 0, rfl⟩, row2_stb _ _, fun v hv => ?_, ?_⟩
  · go_simp
    refine ⟨(Below.refl _ v).alloc (Nat.le_refl _) _, ⟨_, rfl⟩, s2, s3, unhideR H_s2, unhideR H_s3, fun b' e => ?_⟩
    cases e
    exact alloc_last v _
  rintro _ ⟨nb, rfl⟩ K hK
  go_simp
  refine hK _ ?_
  clear hK K
  refine lexX_uses (fun K hK => ⟨by kernel_rfl, nn_some _ _ _ _ _ _, fun v hv hg => ?_, fun v hv => ?_⟩)
  · obtain ⟨_, q1, q2, hq1, hq2, hrow⟩ := hg
    have hrow2 := hrow nb rfl
    clear hrow
    go_simp
    refine (sum2_any s1 q1 q2 nb _ hrow2).mono ?_
    rintro e w9 ⟨r, rfl, ⟨t, ht1, ht2⟩, k⟩
    exact ⟨_, rfl, ⟨r, rfl, ⟨t, ⟨s1, q1, unhideR H_s1, hq1, ht1⟩, q2, hq2, ht2⟩⟩, k⟩
  obtain ⟨n, rfl, h_n⟩ := hv
  unfold V3.val
  go_simp
  refine hK _ ?_
  clear hK K
  have H_n := hideR h_n
  clear h_n
  clear H_s1 H_s2 H_s3
  refine lexX_new ((fin0).some _) (fun g4 fg4 K hK => ⟨by kernel_rfl, fun v => ?_, ?_⟩)
  · go_simp
    exact ⟨rfl, rfl⟩
  unfold ptr
  go_simp
  refine hK _ ?_
  clear hK K
  refine lexX_end (fun v hv => ?_)
  have h0 : v.heap[g4]? = some zero3 := hv.held g4 zero3 (by unfold Hd.put; rw [if_pos rfl])
  unfold zero3 at h0
  have HLow := hideR hv.low
  have hge := fg4.ge
  have hlx := (unhideR HX).lt
  have hlr := ltB (unhideR HR).at_
  clear hv fg4
  obtain ⟨⟨c0, c1, c2⟩, f0, f1, f2⟩ := three_at h0
  refine wpAny_step (i := 12) (by kernel_rfl) rfl (by kernel_rfl) (fun K hK => ?_)
  unfold Oper.wp
  go_simp
  refine hK _ _ ?_
  clear hK K
  refine wpAny_end (by kernel_rfl) ?_
  have hnew : VBox (((v.setCell ⟨g4, 0, none⟩ (.float .f64 n.x)).setCell ⟨g4, 1, none⟩ (.float .f64 n.y)).setCell ⟨g4, 2, none⟩ (.float .f64 n.z)) g4 n := ⟨set3 h0⟩
  have hR2 : VBox (((v.setCell ⟨g4, 0, none⟩ (.float .f64 n.x)).setCell ⟨g4, 1, none⟩ (.float .f64 n.y)).setCell ⟨g4, 2, none⟩ (.float .f64 n.z)) (w.heap.size + 1 + 1 + 1) ⟨0, 0, 0⟩ := ⟨(set3_other (by omega)).trans ((unhideR HR).go (unhideR HLow)).at_⟩
  have hX2 := ((unhideR HX).go (unhideR HLow)).set (b := g4) (fun p hp => by have := hlx p hp; omega) n
  have hW2 := below_three (below_go (unhideR HW) (unhideR HLow)) (show w.heap.size ≤ g4 by have := (unhideR HW).size; omega) (.float .f64 n.x) (.float .f64 n.y) (.float .f64 n.z)
  replace HR := hideR hR2
  replace HW := hideR hW2
  replace HX := hideR (hX2.cons hnew)
  clear hR2 hW2 hX2 hnew h0 c0 c1 c2 f0 f1 f2 HLow hlx hge hlr
  generalize (((v.setCell ⟨g4, 0, none⟩ (.float .f64 n.x)).setCell ⟨g4, 1, none⟩ (.float .f64 n.y)).setCell ⟨g4, 2, none⟩ (.float .f64 n.z)) = W4 at *
  obtain ⟨⟨c00, c01, c02⟩, _⟩ := three_at ((unhideR HX).get (memS mem0)).at_
  obtain ⟨⟨c10, c11, c12⟩, _⟩ := three_at ((unhideR HX).get (memS (memS mem0))).at_
  obtain ⟨⟨c20, c21, c22⟩, _⟩ := three_at ((unhideR HX).get (memS (memS (memS mem0)))).at_
  go_wp2_with fail
  refine (sum2_any ab bc ca _ _ (alloc_last W4 (cells2 bc ca))).mono ?_
  rintro e w5 ⟨d, rfl, hd, k⟩
  have H_d := hideR hd
  have k5 := below_go (below_a W4 (cells2 bc ca)) k
  clear k hd
  replace HX := hideR ((unhideR HX).go k5)
  replace HR := hideR ((unhideR HR).go k5)
  replace HW := hideR (below_go (unhideR HW) k5)
  clear k5 c00 c01 c02 c10 c11 c12 c20 c21 c22
  unfold V3.val
  go_wp2_with fail
  replace HX := hideR (((unhideR HX).go (below_a _ _)).cons (VBox.new w5 d))
  replace HR := hideR ((unhideR HR).go (below_a w5 (.cells #[.float .f64 d.x, .float .f64 d.y, .float .f64 d.z] 24)))
  replace HW := hideR (below_go (unhideR HW) (below_a w5 (.cells #[.float .f64 d.x, .float .f64 d.y, .float .f64 d.z] 24)))
  obtain ⟨g5, hg5⟩ : ∃ g, w5.heap.size = g := ⟨_, rfl⟩
  rw [hg5] at HX ⊢
  clear hg5
  generalize w5.alloc (.cells #[.float .f64 d.x, .float .f64 d.y, .float .f64 d.z] 24) = W5 at *
  refine wp_region_made 0 #[true, true, true, true, true, true, true, true, true, true, true, true, true, true, true, true, true, true, false] [.lets (· = .float .f64 lb),
    .lets (· = .float .f64 lc),
    .lets (FS2 .sub lb lc),
    .lets (· = .agg #[.float .f64 a.x, .float .f64 a.y, .float .f64 a.z]),
    .lets (SetV (SS lb lc a)),
    .lets (· = .float .f64 lc),
    .lets (· = .float .f64 la),
    .lets (FS2 .sub lc la),
    .lets (· = .agg #[.float .f64 b.x, .float .f64 b.y, .float .f64 b.z]),
    .lets (SetV (SS lc la b)),
    .lets (· = .float .f64 la),
    .lets (· = .float .f64 lb),
    .lets (FS2 .sub la lb),
    .lets (· = .agg #[.float .f64 c.x, .float .f64 c.y, .float .f64 c.z]),
    .lets (SetV (SS la lb c)),
    .made (RowS 2) (Row2At (SS lc la b) (SS la lb c)),
    .uses (SetV (SN la lb lc a b c)),
    .new zero3] [15] [16] (by kernel_rfl) (by kernel_rfl) rfl ?kinds (by kernel_rfl) (by kernel_rfl) (by kernel_rfl) ?_
  case kinds =>
    constructor
    · intro i h
      rcases i with _ | _ | _ | _ | _ | _ | _ | _ | _ | _ | _ | _ | _ | _ | _ | _ | _ | _ | i <;> simp [Kx.isMade] at h ⊢
    · intro i h
      rcases i with _ | _ | _ | _ | _ | _ | _ | _ | _ | _ | _ | _ | _ | _ | _ | _ | _ | _ | i <;> simp [Kx.isUse] at h ⊢
  refine lexX_step (fun K hK => ⟨by kernel_rfl, ⟨_, rfl⟩, fun v hv => ?_, fun v hv => ?_⟩)
  · go_simp
    exact mUpon_b
  subst hv
  go_simp
  refine hK _ ?_
  clear hK K
  refine lexX_step (fun K hK => ⟨by kernel_rfl, ⟨_, rfl⟩, fun v hv => ?_, fun v hv => ?_⟩)
  · go_simp
    exact mUpon_b
  subst hv
  go_simp
  refine hK _ ?_
  clear hK K
  refine lexX_step (fun K hK => ⟨by kernel_rfl, fs_some _ _ _, fun v hv => ?_, fun v hv => ?_⟩)
  · go_simp
    exact ⟨below_drewN (Below.refl _ _) _, _, rfl, fnum_is _ _ _ _⟩
  obtain ⟨k1, rfl, h_k1⟩ := hv
  go_simp
  refine hK _ ?_
  clear hK K
  have H_k1 := hideR h_k1
  clear h_k1
  refine lexX_step (fun K hK => ⟨by kernel_rfl, ⟨_, rfl⟩, fun v hv => ?_, fun v hv => ?_⟩)
  · obtain ⟨⟨c0, c1, c2⟩, _⟩ := three_at (((unhideR HX).go hv).get (memS (memS (memS (memS (memS mem0)))))).at_
    go_simp
    exact mUpon_b
  subst hv
  go_simp
  refine hK _ ?_
  clear hK K
  refine lexX_step (fun K hK => ⟨by kernel_rfl, ss_some _ _ _, fun v hv => ?_, fun v hv => ?_⟩)
  · go_simp
    refine (times_any k1 a _).mono ?_
    rintro e w9 ⟨r, rfl, hr, k⟩
    exact ⟨_, rfl, ⟨r, rfl, ⟨k1, unhideR H_k1, hr⟩⟩, k⟩
  obtain ⟨t1, rfl, h_t1⟩ := hv
  try unfold V3.val
  go_simp
  refine hK _ ?_
  clear hK K
  have H_t1 := hideR h_t1
  clear h_t1
  refine lexX_step (fun K hK => ⟨by kernel_rfl, ⟨_, rfl⟩, fun v hv => ?_, fun v hv => ?_⟩)
  · go_simp
    exact mUpon_b
  subst hv
  go_simp
  refine hK _ ?_
  clear hK K
  refine lexX_step (fun K hK => ⟨by kernel_rfl, ⟨_, rfl⟩, fun v hv => ?_, fun v hv => ?_⟩)
  · go_simp
    exact mUpon_b
  subst hv
  go_simp
  refine hK _ ?_
  clear hK K
  refine lexX_step (fun K hK => ⟨by kernel_rfl, fs_some _ _ _, fun v hv => ?_, fun v hv => ?_⟩)
  · go_simp
    exact ⟨below_drewN (Below.refl _ _) _, _, rfl, fnum_is _ _ _ _⟩
  obtain ⟨k2, rfl, h_k2⟩ := hv
  go_simp
  refine hK _ ?_
  clear hK K
  have H_k2 := hideR h_k2
  clear h_k2
  refine lexX_step (fun K hK => ⟨by kernel_rfl, ⟨_, rfl⟩, fun v hv => ?_, fun v hv => ?_⟩)
  · obtain ⟨⟨c0, c1, c2⟩, _⟩ := three_at (((unhideR HX).go hv).get (memS (memS (memS (memS (memS (memS mem0))))))).at_
    go_simp
    exact mUpon_b
  subst hv
  go_simp
  refine hK _ ?_
  clear hK K
  refine lexX_step (fun K hK => ⟨by kernel_rfl, ss_some _ _ _, fun v hv => ?_, fun v hv => ?_⟩)
  · go_simp
    refine (times_any k2 b _).mono ?_
    rintro e w9 ⟨r, rfl, hr, k⟩
    exact ⟨_, rfl, ⟨r, rfl, ⟨k2, unhideR H_k2, hr⟩⟩, k⟩
  obtain ⟨t2, rfl, h_t2⟩ := hv
  try unfold V3.val
  go_simp
  refine hK _ ?_
  clear hK K
  have H_t2 := hideR h_t2
  clear h_t2
  refine lexX_step (fun K hK => ⟨by kernel_rfl, ⟨_, rfl⟩, fun v hv => ?_, fun v hv => ?_⟩)
  · go_simp
    exact mUpon_b
  subst hv
  go_simp
  refine hK _ ?_
  clear hK K
  refine lexX_step (fun K hK => ⟨by kernel_rfl, ⟨_, rfl⟩, fun v hv => ?_, fun v hv => ?_⟩)
  · go_simp
    exact mUpon_b
  subst hv
  go_simp
  refine hK _ ?_
  clear hK K
  refine lexX_step (fun K hK => ⟨by kernel_rfl, fs_some _ _ _, fun v hv => ?_, fun v hv => ?_⟩)
  · go_simp
    exact ⟨below_drewN (Below.refl _ _) _, _, rfl, fnum_is _ _ _ _⟩
  obtain ⟨k3, rfl, h_k3⟩ := hv
  go_simp
  refine hK _ ?_
  clear hK K
  have H_k3 := hideR h_k3
  clear h_k3
  refine lexX_step (fun K hK => ⟨by kernel_rfl, ⟨_, rfl⟩, fun v hv => ?_, fun v hv => ?_⟩)
  · obtain ⟨⟨c0, c1, c2⟩, _⟩ := three_at (((unhideR HX).go hv).get (memS (memS (memS (memS (memS (memS (memS mem0)))))))).at_
    go_simp
    exact mUpon_b
  subst hv
  go_simp
  refine hK _ ?_
  clear hK K
  refine lexX_step (fun K hK => ⟨by kernel_rfl, ss_some _ _ _, fun v hv => ?_, fun v hv => ?_⟩)
  · go_simp
    refine (times_any k3 c _).mono ?_
    rintro e w9 ⟨r, rfl, hr, k⟩
    exact ⟨_, rfl, ⟨r, rfl, ⟨k3, unhideR H_k3, hr⟩⟩, k⟩
  obtain ⟨t3, rfl, h_t3⟩ := hv
  try unfold V3.val
  go_simp
  refine hK _ ?_
  clear hK K
  have H_t3 := hideR h_t3
  clear h_t3
  refine lexX_made ⟨by kernel_rfl, ⟨_, 0, rfl⟩, row2_stb _ _, fun v hv => ?_, ?_⟩
  · go_simp
    refine ⟨(Below.refl _ v).alloc (Nat.le_refl _) _, ⟨_, rfl⟩, t2, t3, unhideR H_t2, unhideR H_t3, fun b' e => ?_⟩
    cases e
    exact alloc_last v _
  rintro _ ⟨nb, rfl⟩ K hK
  go_simp
  refine hK _ ?_
  clear hK K
  refine lexX_uses (fun K hK => ⟨by kernel_rfl, sn_some _ _ _ _ _ _, fun v hv hg => ?_, fun v hv => ?_⟩)
  · obtain ⟨_, q1, q2, hq1, hq2, hrow⟩ := hg
    have hrow2 := hrow nb rfl
    clear hrow
    go_simp
    refine (sum2_any t1 q1 q2 nb _ hrow2).mono ?_
    rintro e w9 ⟨r, rfl, ⟨t, ht1, ht2⟩, k⟩
    exact ⟨_, rfl, ⟨r, rfl, ⟨t, ⟨t1, q1, unhideR H_t1, hq1, ht1⟩, q2, hq2, ht2⟩⟩, k⟩
  obtain ⟨s, rfl, h_s⟩ := hv
  unfold V3.val
  go_simp
  refine hK _ ?_
  clear hK K
  have H_s := hideR h_s
  clear h_s
  clear H_k1 H_k2 H_k3 H_t1 H_t2 H_t3
  refine lexX_new ((fin0).some _) (fun g6 fg6 K hK => ⟨by kernel_rfl, fun v => ?_, ?_⟩)
  · go_simp
    exact ⟨rfl, rfl⟩
  unfold ptr
  go_simp
  refine hK _ ?_
  clear hK K
  refine lexX_end (fun v hv => ?_)
  have h0 : v.heap[g6]? = some zero3 := hv.held g6 zero3 (by unfold Hd.put; rw [if_pos rfl])
  unfold zero3 at h0
  have HLow := hideR hv.low
  have hge := fg6.ge
  have hlx := (unhideR HX).lt
  have hlr := ltB (unhideR HR).at_
  clear hv fg6
  obtain ⟨⟨c0, c1, c2⟩, f0, f1, f2⟩ := three_at h0
  refine wpAny_step (i := 18) (by kernel_rfl) rfl (by kernel_rfl) (fun K hK => ?_)
  unfold Oper.wp
  go_simp
  refine hK _ _ ?_
  clear hK K
  refine wpAny_end (by kernel_rfl) ?_
  have hnew : VBox (((v.setCell ⟨g6, 0, none⟩ (.float .f64 s.x)).setCell ⟨g6, 1, none⟩ (.float .f64 s.y)).setCell ⟨g6, 2, none⟩ (.float .f64 s.z)) g6 s := ⟨set3 h0⟩
  have hR2 : VBox (((v.setCell ⟨g6, 0, none⟩ (.float .f64 s.x)).setCell ⟨g6, 1, none⟩ (.float .f64 s.y)).setCell ⟨g6, 2, none⟩ (.float .f64 s.z)) (w.heap.size + 1 + 1 + 1) ⟨0, 0, 0⟩ := ⟨(set3_other (by omega)).trans ((unhideR HR).go (unhideR HLow)).at_⟩
  have hX2 := ((unhideR HX).go (unhideR HLow)).set (b := g6) (fun p hp => by have := hlx p hp; omega) s
  have hW2 := below_three (below_go (unhideR HW) (unhideR HLow)) (show w.heap.size ≤ g6 by have := (unhideR HW).size; omega) (.float .f64 s.x) (.float .f64 s.y) (.float .f64 s.z)
  replace HR := hideR hR2
  replace HW := hideR hW2
  replace HX := hideR (hX2.cons hnew)
  clear hR2 hW2 hX2 hnew h0 c0 c1 c2 f0 f1 f2 HLow hlx hge hlr
  generalize (((v.setCell ⟨g6, 0, none⟩ (.float .f64 s.x)).setCell ⟨g6, 1, none⟩ (.float .f64 s.y)).setCell ⟨g6, 2, none⟩ (.float .f64 s.z)) = W6 at *
  go_wp2_with fail
  refine wp_region_made 0 #[true, true, true, true, true, true, true, true, true, true, false] [.lets (· = .float .f64 lb),
    .lets (FS2 .quo 4607182418800017408 lb),
    .lets (· = .agg #[.float .f64 d.x, .float .f64 d.y, .float .f64 d.z]),
    .lets (· = .agg #[.float .f64 b.x, .float .f64 b.y, .float .f64 b.z]),
    .lets (SetV (CrV d b)),
    .lets (SetV (Q1 lb d b)),
    .lets (· = .agg #[.float .f64 s.x, .float .f64 s.y, .float .f64 s.z]),
    .made (RowS 1) (Row1At s),
    .uses (SetV (Q2 lb d b s)),
    .new zero3] [7] [8] (by kernel_rfl) (by kernel_rfl) rfl ?kinds (by kernel_rfl) (by kernel_rfl) (by kernel_rfl) ?_
  case kinds =>
    constructor
    · intro i h
      rcases i with _ | _ | _ | _ | _ | _ | _ | _ | _ | _ | i <;> simp [Kx.isMade] at h ⊢
    · intro i h
      rcases i with _ | _ | _ | _ | _ | _ | _ | _ | _ | _ | i <;> simp [Kx.isUse] at h ⊢
  refine lexX_step (fun K hK => ⟨by kernel_rfl, ⟨_, rfl⟩, fun v hv => ?_, fun v hv => ?_⟩)
  · go_simp
    exact mUpon_b
  subst hv
  go_simp
  refine hK _ ?_
  clear hK K
  refine lexX_step (fun K hK => ⟨by kernel_rfl, fs_some _ _ _, fun v hv => ?_, fun v hv => ?_⟩)
  · go_simp
    exact ⟨below_drewN (Below.refl _ _) _, _, rfl, fnum_is _ _ _ _⟩
  obtain ⟨k4, rfl, h_k4⟩ := hv
  go_simp
  refine hK _ ?_
  clear hK K
  have H_k4 := hideR h_k4
  clear h_k4
  refine lexX_step (fun K hK => ⟨by kernel_rfl, ⟨_, rfl⟩, fun v hv => ?_, fun v hv => ?_⟩)
  · obtain ⟨⟨c0, c1, c2⟩, _⟩ := three_at (((unhideR HX).go hv).get (memS mem0)).at_
    go_simp
    exact mUpon_b
  subst hv
  go_simp
  refine hK _ ?_
  clear hK K
  refine lexX_step (fun K hK => ⟨by kernel_rfl, ⟨_, rfl⟩, fun v hv => ?_, fun v hv => ?_⟩)
  · obtain ⟨⟨c0, c1, c2⟩, _⟩ := three_at (((unhideR HX).go hv).get (memS (memS (memS (memS (memS (memS (memS mem0)))))))).at_
    go_simp
    exact mUpon_b
  subst hv
  go_simp
  refine hK _ ?_
  clear hK K
  refine lexX_step (fun K hK => ⟨by kernel_rfl, crv_some _ _, fun v hv => ?_, fun v hv => ?_⟩)
  · go_simp
    refine (crossP_any d b _).mono ?_
    rintro e w9 ⟨r, rfl, hr, k⟩
    exact ⟨_, rfl, ⟨r, rfl, hr⟩, k⟩
  obtain ⟨db, rfl, h_db⟩ := hv
  try unfold V3.val
  go_simp
  refine hK _ ?_
  clear hK K
  have H_db := hideR h_db
  clear h_db
  refine lexX_step (fun K hK => ⟨by kernel_rfl, q1_some _ _ _, fun v hv => ?_, fun v hv => ?_⟩)
  · go_simp
    refine (times_any k4 db _).mono ?_
    rintro e w9 ⟨r, rfl, hr, k⟩
    exact ⟨_, rfl, ⟨r, rfl, ⟨k4, db, unhideR H_k4, unhideR H_db, hr⟩⟩, k⟩
  obtain ⟨e1, rfl, h_e1⟩ := hv
  try unfold V3.val
  go_simp
  refine hK _ ?_
  clear hK K
  have H_e1 := hideR h_e1
  clear h_e1
  refine lexX_step (fun K hK => ⟨by kernel_rfl, ⟨_, rfl⟩, fun v hv => ?_, fun v hv => ?_⟩)
  · obtain ⟨⟨c0, c1, c2⟩, _⟩ := three_at (((unhideR HX).go hv).get mem0).at_
    go_simp
    exact mUpon_b
  subst hv
  go_simp
  refine hK _ ?_
  clear hK K
  refine lexX_made ⟨by kernel_rfl, ⟨_, 0, rfl⟩, row1_stb _, fun v hv => ?_, ?_⟩
  · go_simp
    refine ⟨(Below.refl _ v).alloc (Nat.le_refl _) _, ⟨_, rfl⟩, fun b' e => ?_⟩
    cases e
    exact alloc_last v _
  rintro _ ⟨nb, rfl⟩ K hK
  go_simp
  refine hK _ ?_
  clear hK K
  refine lexX_uses (fun K hK => ⟨by kernel_rfl, q2_some _ _ _ _, fun v hv hg => ?_, fun v hv => ?_⟩)
  · have hrow2 := hg.2 nb rfl
    go_simp
    refine (sum1_any e1 s nb _ hrow2).mono ?_
    rintro e w9 ⟨r, rfl, hr, k⟩
    exact ⟨_, rfl, ⟨r, rfl, e1, unhideR H_e1, hr⟩, k⟩
  obtain ⟨way, rfl, h_way⟩ := hv
  unfold V3.val
  go_simp
  refine hK _ ?_
  clear hK K
  have H_way := hideR h_way
  clear h_way
  clear H_k4 H_db H_e1
  refine lexX_new ((fin0).some _) (fun g7 fg7 K hK => ⟨by kernel_rfl, fun v => ?_, ?_⟩)
  · go_simp
    exact ⟨rfl, rfl⟩
  unfold ptr
  go_simp
  refine hK _ ?_
  clear hK K
  refine lexX_end (fun v hv => ?_)
  have h0 : v.heap[g7]? = some zero3 := hv.held g7 zero3 (by unfold Hd.put; rw [if_pos rfl])
  unfold zero3 at h0
  have HLow := hideR hv.low
  have hge := fg7.ge
  have hlx := (unhideR HX).lt
  have hlr := ltB (unhideR HR).at_
  clear hv fg7
  obtain ⟨⟨c0, c1, c2⟩, f0, f1, f2⟩ := three_at h0
  refine wpAny_step (i := 10) (by kernel_rfl) rfl (by kernel_rfl) (fun K hK => ?_)
  unfold Oper.wp
  go_simp
  refine hK _ _ ?_
  clear hK K
  refine wpAny_end (by kernel_rfl) ?_
  have hnew : VBox (((v.setCell ⟨g7, 0, none⟩ (.float .f64 way.x)).setCell ⟨g7, 1, none⟩ (.float .f64 way.y)).setCell ⟨g7, 2, none⟩ (.float .f64 way.z)) g7 way := ⟨set3 h0⟩
  have hR2 : VBox (((v.setCell ⟨g7, 0, none⟩ (.float .f64 way.x)).setCell ⟨g7, 1, none⟩ (.float .f64 way.y)).setCell ⟨g7, 2, none⟩ (.float .f64 way.z)) (w.heap.size + 1 + 1 + 1) ⟨0, 0, 0⟩ := ⟨(set3_other (by omega)).trans ((unhideR HR).go (unhideR HLow)).at_⟩
  have hX2 := ((unhideR HX).go (unhideR HLow)).set (b := g7) (fun p hp => by have := hlx p hp; omega) way
  have hW2 := below_three (below_go (unhideR HW) (unhideR HLow)) (show w.heap.size ≤ g7 by have := (unhideR HW).size; omega) (.float .f64 way.x) (.float .f64 way.y) (.float .f64 way.z)
  replace HR := hideR hR2
  replace HW := hideR hW2
  replace HX := hideR (hX2.cons hnew)
  clear hR2 hW2 hX2 hnew h0 c0 c1 c2 f0 f1 f2 HLow hlx hge hlr
  generalize (((v.setCell ⟨g7, 0, none⟩ (.float .f64 way.x)).setCell ⟨g7, 1, none⟩ (.float .f64 way.y)).setCell ⟨g7, 2, none⟩ (.float .f64 way.z)) = W7 at *
  go_wp2_with fail
  refine wp_region_made 0 #[true, true, true, true, true, true, true, true, true, true, true, false] [.lets (· = .float .f64 mu),
    .lets (· = .agg #[.float .f64 n.x, .float .f64 n.y, .float .f64 n.z]),
    .lets (LSet n),
    .lets (· = .agg #[.float .f64 d.x, .float .f64 d.y, .float .f64 d.z]),
    .lets (LSet d),
    .lets (FlS (P1 n d)),
    .lets (FlS (P2 mu n d)),
    .lets (FlS (P3 mu n d)),
    .lets (· = .agg #[.float .f64 way.x, .float .f64 way.y, .float .f64 way.z]),
    .lets (SetV (P4 mu n d way)),
    .new zero3] [] [] (by kernel_rfl) (by kernel_rfl) rfl ?kinds (by kernel_rfl) (by kernel_rfl) (by kernel_rfl) ?_
  case kinds =>
    constructor
    · intro i h
      rcases i with _ | _ | _ | _ | _ | _ | _ | _ | _ | _ | _ | i <;> simp [Kx.isMade] at h
    · intro i h
      rcases i with _ | _ | _ | _ | _ | _ | _ | _ | _ | _ | _ | i <;> simp [Kx.isUse] at h
  refine lexX_step (fun K hK => ⟨by kernel_rfl, ⟨_, rfl⟩, fun v hv => ?_, fun v hv => ?_⟩)
  · go_simp
    exact mUpon_b
  subst hv
  go_simp
  refine hK _ ?_
  clear hK K
  refine lexX_step (fun K hK => ⟨by kernel_rfl, ⟨_, rfl⟩, fun v hv => ?_, fun v hv => ?_⟩)
  · obtain ⟨⟨c0, c1, c2⟩, _⟩ := three_at (((unhideR HX).go hv).get (memS (memS (memS mem0)))).at_
    go_simp
    exact mUpon_b
  subst hv
  go_simp
  refine hK _ ?_
  clear hK K
  refine lexX_step (fun K hK => ⟨by kernel_rfl, lset_some _, fun v hv => ?_, fun v hv => ?_⟩)
  · go_simp
    refine (lengthV_any n _).mono ?_
    rintro e w9 ⟨r, rfl, hr, k⟩
    exact ⟨_, rfl, ⟨r, rfl, hr⟩, k⟩
  obtain ⟨ln, rfl, h_ln⟩ := hv
  go_simp
  refine hK _ ?_
  clear hK K
  have H_ln := hideR h_ln
  clear h_ln
  refine lexX_step (fun K hK => ⟨by kernel_rfl, ⟨_, rfl⟩, fun v hv => ?_, fun v hv => ?_⟩)
  · obtain ⟨⟨c0, c1, c2⟩, _⟩ := three_at (((unhideR HX).go hv).get (memS (memS mem0))).at_
    go_simp
    exact mUpon_b
  subst hv
  go_simp
  refine hK _ ?_
  clear hK K
  refine lexX_step (fun K hK => ⟨by kernel_rfl, lset_some _, fun v hv => ?_, fun v hv => ?_⟩)
  · go_simp
    refine (lengthV_any d _).mono ?_
    rintro e w9 ⟨r, rfl, hr, k⟩
    exact ⟨_, rfl, ⟨r, rfl, hr⟩, k⟩
  obtain ⟨ld, rfl, h_ld⟩ := hv
  go_simp
  refine hK _ ?_
  clear hK K
  have H_ld := hideR h_ld
  clear h_ld
  refine lexX_step (fun K hK => ⟨by kernel_rfl, fls_some (p1_some _ _), fun v hv => ?_, fun v hv => ?_⟩)
  · go_simp
    exact ⟨below_drewN (Below.refl _ _) _, _, rfl, ⟨_, _, unhideR H_ln, unhideR H_ld, fnum_is _ _ _ _⟩⟩
  obtain ⟨p, rfl, h_p⟩ := hv
  go_simp
  refine hK _ ?_
  clear hK K
  have H_p := hideR h_p
  clear h_p
  refine lexX_step (fun K hK => ⟨by kernel_rfl, fls_some (p2_some _ _ _), fun v hv => ?_, fun v hv => ?_⟩)
  · go_simp
    exact ⟨below_drewN (Below.refl _ _) _, _, rfl, ⟨_, unhideR H_p, fnum_is _ _ _ _⟩⟩
  obtain ⟨q, rfl, h_q⟩ := hv
  go_simp
  refine hK _ ?_
  clear hK K
  have H_q := hideR h_q
  clear h_q
  refine lexX_step (fun K hK => ⟨by kernel_rfl, fls_some (p3_some _ _ _), fun v hv => ?_, fun v hv => ?_⟩)
  · go_simp
    refine (root_any q _).mono ?_
    rintro e w9 ⟨r, rfl, hr, nn, rfl⟩
    exact ⟨_, rfl, ⟨r, rfl, q, unhideR H_q, hr⟩, below_drewN (Below.refl _ _) _⟩
  obtain ⟨f, rfl, h_f⟩ := hv
  go_simp
  refine hK _ ?_
  clear hK K
  have H_f := hideR h_f
  clear h_f
  refine lexX_step (fun K hK => ⟨by kernel_rfl, ⟨_, rfl⟩, fun v hv => ?_, fun v hv => ?_⟩)
  · obtain ⟨⟨c0, c1, c2⟩, _⟩ := three_at (((unhideR HX).go hv).get mem0).at_
    go_simp
    exact mUpon_b
  subst hv
  go_simp
  refine hK _ ?_
  clear hK K
  refine lexX_step (fun K hK => ⟨by kernel_rfl, p4_some _ _ _ _, fun v hv => ?_, fun v hv => ?_⟩)
  · go_simp
    refine (times_any f way _).mono ?_
    rintro e w9 ⟨r, rfl, hr, k⟩
    exact ⟨_, rfl, ⟨r, rfl, ⟨f, unhideR H_f, hr⟩⟩, k⟩
  obtain ⟨r, rfl, h_r⟩ := hv
  try unfold V3.val
  go_simp
  refine hK _ ?_
  clear hK K
  have H_r := hideR h_r
  clear h_r
  clear H_ln H_ld H_p H_q H_f
  refine lexX_new ((fin0).some _) (fun g8 fg8 K hK => ⟨by kernel_rfl, fun v => ?_, ?_⟩)
  · go_simp
    exact ⟨rfl, rfl⟩
  unfold ptr
  go_simp
  refine hK _ ?_
  clear hK K
  refine lexX_end (fun v hv => ?_)
  have h0 : v.heap[g8]? = some zero3 := hv.held g8 zero3 (by unfold Hd.put; rw [if_pos rfl])
  unfold zero3 at h0
  have HLow := hideR hv.low
  have hge := fg8.ge
  have hlx := (unhideR HX).lt
  have hlr := ltB (unhideR HR).at_
  clear hv fg8
  obtain ⟨⟨c0, c1, c2⟩, f0, f1, f2⟩ := three_at h0
  refine wpAny_step (i := 11) (by kernel_rfl) rfl (by kernel_rfl) (fun K hK => ?_)
  unfold Oper.wp
  go_simp
  refine hK _ _ ?_
  clear hK K
  refine wpAny_end (by kernel_rfl) ?_
  have hnew : VBox (((v.setCell ⟨g8, 0, none⟩ (.float .f64 r.x)).setCell ⟨g8, 1, none⟩ (.float .f64 r.y)).setCell ⟨g8, 2, none⟩ (.float .f64 r.z)) g8 r := ⟨set3 h0⟩
  have hR2 : VBox (((v.setCell ⟨g8, 0, none⟩ (.float .f64 r.x)).setCell ⟨g8, 1, none⟩ (.float .f64 r.y)).setCell ⟨g8, 2, none⟩ (.float .f64 r.z)) (w.heap.size + 1 + 1 + 1) ⟨0, 0, 0⟩ := ⟨(set3_other (by omega)).trans ((unhideR HR).go (unhideR HLow)).at_⟩
  have hX2 := ((unhideR HX).go (unhideR HLow)).set (b := g8) (fun p hp => by have := hlx p hp; omega) r
  have hW2 := below_three (below_go (unhideR HW) (unhideR HLow)) (show w.heap.size ≤ g8 by have := (unhideR HW).size; omega) (.float .f64 r.x) (.float .f64 r.y) (.float .f64 r.z)
  replace HR := hideR hR2
  replace HW := hideR hW2
  replace HX := hideR (hX2.cons hnew)
  clear hR2 hW2 hX2 hnew h0 c0 c1 c2 f0 f1 f2 HLow hlx hge hlr
  generalize (((v.setCell ⟨g8, 0, none⟩ (.float .f64 r.x)).setCell ⟨g8, 1, none⟩ (.float .f64 r.y)).setCell ⟨g8, 2, none⟩ (.float .f64 r.z)) = W8 at *
  have hG : GibR a b c mu r := by
    obtain ⟨f, ⟨q, ⟨p, ⟨ln, ld, hln, hld, hp⟩, hq⟩, hf⟩, hr⟩ := unhideR H_r
    obtain ⟨n0, hn0, hn⟩ := unhideR H_n
    obtain ⟨s0, hs0, hs⟩ := unhideR H_s
    exact ⟨la, lb, lc, ln, ld, p, q, f, bc, ca, ab, n0, n, d, s0, s, unhideR H_la, unhideR H_lb, unhideR H_lc, unhideR H_bc, unhideR H_ca, unhideR H_ab, hn0, hn, unhideR H_d, hs0, hs, hln, hld, hp, hq, hf, way, unhideR H_way, hr⟩
  have hlw : Lw r.x ∧ Lw r.y ∧ Lw r.z := by
    obtain ⟨f, _, hr⟩ := unhideR H_r
    exact ⟨lw_op hr.x, lw_op hr.y, lw_op hr.z⟩
  have hfv := fun u => finV_any r u hlw.1 hlw.2.1 hlw.2.2
  have HE : HeldR (∀ t, (finB r.x && finB r.y && finB r.z) = t → GibEnd a b c mu (.returned (.tuple #[(if t then r else ⟨0, 0, 0⟩ : V3).val, .bool t]))) := fun t h => by
    subst h
    exact ⟨r, hG, rfl⟩
  obtain ⟨t, ht⟩ : ∃ t, (finB r.x && finB r.y && finB r.z) = t := ⟨_, rfl⟩
  have HEnd := hideR (unhideR HE t ht)
  rw [ht] at hfv
  clear HE hG ht hlw H_r H_n H_s H_la H_lb H_lc H_bc H_ca H_ab H_d H_way
  obtain ⟨⟨c00, c01, c02⟩, _⟩ := three_at ((unhideR HX).get mem0).at_
  go_wp2_with fail
  refine (hfv _).mono ?_
  rintro e w9 ⟨rfl, k⟩
  replace HX := hideR ((unhideR HX).go k)
  replace HR := hideR ((unhideR HR).go k)
  replace HW := hideR (below_go (unhideR HW) k)
  clear k hfv c00 c01 c02
  obtain ⟨⟨c00, c01, c02⟩, _⟩ := three_at ((unhideR HX).get mem0).at_
  obtain ⟨⟨d0, d1, d2⟩, f0, f1, f2⟩ := three_at (unhideR HR).at_
  cases t
  all_goals
    simp at HEnd
    unfold V3.val at HEnd
    go_wp2
    simp [bodyPost, results, Try.results4, go_sem, d0, d1, d2]
    exact ⟨unhideR HEnd, below_three (unhideR HW) (by omega) _ _ _⟩
end Go.Proofs.Ytfamndjiaebmbaf
