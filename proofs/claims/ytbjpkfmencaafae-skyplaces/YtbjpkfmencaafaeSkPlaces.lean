/-
  The law SkyPlaces: its walk.
-/
import Derived.Test.YtbjpkfmencaafaeSkLaw
namespace Go.Proofs.Ytbjpkfmencaafae
open Go Go.RowKit

set_option maxHeartbeats 4000000 in
theorem sameVec_any (a b c d e f : Nat) (w : World) (h1 : FSame a d) (h2 : FSame b e) (h3 : FSame c f) : Calls Try.prog 8 #[.agg #[.float .f64 a, .float .f64 b, .float .f64 c], .agg #[.float .f64 d, .float .f64 e, .float .f64 f]] w fun x w' => x = .returned (.bool true) ∧ Below w.heap.size w w' := by
  have hb := fun x y v (h : FSame x y) => (same_iff.2 h) ▸ sameBits_any x y v
  go_enter Try.func8, Try.ntmps8
  go_wp2_with fail
  refine (hb _ _ _ h1).mono ?_
  rintro x w1 ⟨rfl, rfl⟩
  go_wp2_with fail
  refine (hb _ _ _ h2).mono ?_
  rintro x w1 ⟨rfl, rfl⟩
  go_wp2_with fail
  refine (hb _ _ _ h3).mono ?_
  rintro x w1 ⟨rfl, rfl⟩
  go_wp2
  go_ret
  exact ⟨rfl, below_al2 w _ _⟩
def PtSet (a b : Int) (v : Value) : Prop := ∃ x y z, v = .agg #[.float .f64 x, .float .f64 y, .float .f64 z] ∧ PointIs a b x y z
theorem pt_some (a b : Int) : ∃ v, PtSet a b v := by
  obtain ⟨x, hx⟩ := fop_some .mul (cosV b) (cosV a)
  obtain ⟨y, hy⟩ := fop_some .mul (cosV b) (sinV a)
  exact ⟨_, x, y, _, rfl, ⟨hx, hy, rfl⟩⟩
theorem pt_same {a b : Int} {x y z x' y' z' : Nat} (h : PointIs a b x y z) (k : PointIs a b x' y' z') : FSame x x' ∧ FSame y y' ∧ FSame z z' :=
  ⟨(ev_m h.x).same (ev_m k.x), (ev_m h.y).same (ev_m k.y), .inl (h.z.trans k.z.symm)⟩
theorem place_form {x y z : Nat} {e : Ending} (h : PlaceIs x y z e) : ∃ a b t, e = .returned (.tuple #[.agg #[.int .i64 a, .int .i64 b], .bool t]) := by
  obtain ⟨r, t, _, _, h | h⟩ := h
  · exact ⟨_, _, _, h.2⟩
  · exact ⟨_, _, _, h.2⟩
theorem place_same {x y z : Nat} {e e' : Ending} (h : PlaceIs x y z e) (k : PlaceIs x y z e') : e' = e := by
  obtain ⟨r, t, h1, h2, h⟩ := h
  obtain ⟨r', t', k1, k2, k⟩ := k
  obtain ⟨e1, e2⟩ := has_same (z := z) (root_same h1 h2 k1 k2)
  rw [← e1, ← e2] at k
  rcases h with ⟨h, rfl⟩ | ⟨h, rfl⟩ <;> rcases k with ⟨k, rfl⟩ | ⟨k, rfl⟩
  · rfl
  · rw [h] at k; cases k
  · rw [h] at k; cases k
  · rfl
set_option maxHeartbeats 8000000 in
theorem places_walk (a b : Int) (x y z : Nat) (w : World) (lx : Lw x) (ly : Lw y) (lz : Lw z) :
    Calls Try.prog 3 #[.agg #[.int .i64 a, .int .i64 b], .agg #[.float .f64 x, .float .f64 y, .float .f64 z]] w fun e w' => e = .returned (.bool true) ∧ Below w.heap.size w w' := by
  have hpp := fun v => pointed_any v
  have hsf := run_store_float Try.prog
  go_enter Try.func3, Try.ntmps3
  go_wp2_with fail
  refine (hpp _).mono ?_
  rintro e w1 ⟨rfl, k1⟩
  obtain ⟨b0, b1, hB1⟩ := two_blocks k1
  have HW := hideR hB1
  have A0 := hideR b0
  have A1 := hideR b1
  clear k1 b0 b1 hB1 hpp
  go_wp2_with fail
  refine wp_region_letsB w1.heap.size [(· = .agg #[.int .i64 a, .int .i64 b]),
    (· = .agg #[.int .i64 a, .int .i64 b]),
    PtSet a b,
    (· = .agg #[.int .i64 a, .int .i64 b]),
    PtSet a b,
    (· = .bool true),
    (· = .bool true)] (by kernel_rfl) (by kernel_rfl) ?_
  refine lexB_step (fun K hK => ⟨by kernel_rfl, ⟨_, rfl⟩, fun v hv => ?_, fun v hv => ?_⟩)
  · obtain ⟨⟨c0, c1⟩, _⟩ := pair_at (keepB (unhideR A0) hv)
    go_simp
    exact lUpon_b hv
  subst hv
  go_simp
  refine hK _ ?_
  clear hK K
  refine lexB_step (fun K hK => ⟨by kernel_rfl, ⟨_, rfl⟩, fun v hv => ?_, fun v hv => ?_⟩)
  · go_simp
    refine (place_any _ _ _).mono ?_
    rintro e w9 ⟨rfl, k⟩
    exact ⟨_, rfl, rfl, below_on2 hv (Nat.le_refl _) k⟩
  subst hv
  go_simp
  refine hK _ ?_
  clear hK K
  refine lexB_step (fun K hK => ⟨by kernel_rfl, pt_some _ _, fun v hv => ?_, fun v hv => ?_⟩)
  · go_simp
    refine (point_any _ _ _).mono ?_
    rintro e w9 ⟨x1, y1, z1, rfl, hp, k⟩
    exact ⟨_, rfl, ⟨x1, y1, z1, rfl, hp⟩, below_on2 hv (Nat.le_refl _) k⟩
  obtain ⟨x1, y1, z1, rfl, p1⟩ := hv
  go_simp
  refine hK _ ?_
  clear hK K
  have P1 := hideR p1
  clear p1
  refine lexB_step (fun K hK => ⟨by kernel_rfl, ⟨_, rfl⟩, fun v hv => ?_, fun v hv => ?_⟩)
  · obtain ⟨⟨c0, c1⟩, _⟩ := pair_at (keepB (unhideR A0) hv)
    go_simp
    exact lUpon_b hv
  subst hv
  go_simp
  refine hK _ ?_
  clear hK K
  refine lexB_step (fun K hK => ⟨by kernel_rfl, pt_some _ _, fun v hv => ?_, fun v hv => ?_⟩)
  · go_simp
    refine (pointOf_any _ _ _).mono ?_
    rintro e w9 ⟨x1, y1, z1, rfl, hp, k⟩
    exact ⟨_, rfl, ⟨x1, y1, z1, rfl, hp⟩, below_on2 hv (Nat.le_refl _) k⟩
  obtain ⟨x2, y2, z2, rfl, p2⟩ := hv
  go_simp
  refine hK _ ?_
  clear hK K
  have P2 := hideR p2
  clear p2
  obtain ⟨s0, s1, s2⟩ := pt_same (unhideR P1) (unhideR P2)
  have HS := hideR (fun v => sameVec_any _ _ _ _ _ _ v s0 s1 s2)
  clear s0 s1 s2 P1 P2
  refine lexB_step (fun K hK => ⟨by kernel_rfl, ⟨_, rfl⟩, fun v hv => ?_, fun v hv => ?_⟩)
  · go_simp
    refine (unhideR HS _).mono ?_
    rintro e w9 ⟨rfl, k⟩
    exact ⟨_, rfl, rfl, below_on2 hv (Nat.le_refl _) k⟩
  subst hv
  go_simp
  refine hK _ ?_
  clear hK K
  refine lexB_step (fun K hK => ⟨by kernel_rfl, ⟨_, rfl⟩, fun v hv => ?_, fun v hv => ?_⟩)
  · go_simp
    exact lUpon_b hv
  subst hv
  go_simp
  refine hK _ ?_
  clear hK K
  clear HS
  refine lexL_end ?_
  intro w2 k2
  replace A0 := hideR (keepB (unhideR A0) k2)
  replace A1 := hideR (keepB (unhideR A1) k2)
  replace HW := hideR (below_go (unhideR HW) k2)
  clear k2
  obtain ⟨⟨c0, c1, c2⟩, _⟩ := three_at (unhideR A1)
  go_wp2_with fail
  refine (where_any _ _ _ _ lx ly lz).mono ?_
  rintro e w3 ⟨hpl, k3⟩
  obtain ⟨u, v, t, rfl⟩ := place_form hpl
  have HP := hideR hpl
  replace A1 := hideR (keepB (unhideR A1) k3)
  replace HW := hideR (below_go (unhideR HW) k3)
  clear hpl k3 c0 c1 c2
  obtain ⟨⟨c0, c1, c2⟩, _⟩ := three_at (unhideR A1)
  have l1 := ltB (unhideR A1)
  go_wp2_with fail
  refine (placeOf_any _ _ _ _).mono ?_
  rintro e w4 ⟨hpl, k4⟩
  obtain rfl := place_same (unhideR HP) hpl
  have C0 := hideR (keepB (alloc_last w3 _) k4)
  replace HW := hideR (below_go ((unhideR HW).alloc (unhideR HW).size _) k4)
  clear hpl k4 c0 c1 c2 l1 A0 A1 HP
  have l1 := ltB (unhideR C0)
  go_wp2_with fail
  obtain ⟨V, hV⟩ : ∃ V, V = w4.alloc (.cells #[.int .i64 u, .int .i64 v] 23) := ⟨_, rfl⟩
  have C1 := hideR (show V.heap[w4.heap.size]? = some (.cells #[.int .i64 u, .int .i64 v] 23) from hV ▸ alloc_last w4 _)
  replace C0 := hideR (show V.heap[_]? = _ from hV ▸ keepA (unhideR C0))
  replace HW := hideR (show Below w.heap.size w V from hV ▸ (unhideR HW).alloc (unhideR HW).size _)
  rw [← hV]
  clear hV l1
  refine wp_region_letsB V.heap.size [(· = .bool true),
    (· = .bool true),
    (· = .bool t),
    (· = .bool t),
    (· = .bool true),
    (· = .bool true),
    (· = .bool true),
    (· = .agg #[.int .i64 u, .int .i64 v]),
    (· = .agg #[.int .i64 u, .int .i64 v]),
    (· = .agg #[.int .i64 u, .int .i64 v]),
    (· = .bool true),
    (· = .bool true),
    (· = .bool true)] (by kernel_rfl) (by kernel_rfl) ?_
  refine lexB_step (fun K hK => ⟨by kernel_rfl, ⟨_, rfl⟩, fun v hv => ?_, fun v hv => ?_⟩)
  · go_simp
    exact lUpon_b hv
  subst hv
  go_simp
  refine hK _ ?_
  clear hK K
  refine lexB_step (fun K hK => ⟨by kernel_rfl, ⟨_, rfl⟩, fun v hv => ?_, fun v hv => ?_⟩)
  · go_simp
    exact lUpon_b hv
  subst hv
  go_simp
  refine hK _ ?_
  clear hK K
  refine lexB_step (fun K hK => ⟨by kernel_rfl, ⟨_, rfl⟩, fun v hv => ?_, fun v hv => ?_⟩)
  · go_simp
    exact lUpon_b hv
  subst hv
  go_simp
  refine hK _ ?_
  clear hK K
  refine lexB_step (fun K hK => ⟨by kernel_rfl, ⟨_, rfl⟩, fun v hv => ?_, fun v hv => ?_⟩)
  · go_simp
    exact lUpon_b hv
  subst hv
  go_simp
  refine hK _ ?_
  clear hK K
  refine lexB_step (fun K hK => ⟨by kernel_rfl, ⟨_, rfl⟩, fun v hv => ?_, fun v hv => ?_⟩)
  · go_simp
    exact lUpon_b hv
  subst hv
  go_simp
  refine hK _ ?_
  clear hK K
  refine lexB_step (fun K hK => ⟨by kernel_rfl, ⟨_, rfl⟩, fun v hv => ?_, fun v hv => ?_⟩)
  · go_simp
    exact lUpon_b hv
  subst hv
  go_simp
  refine hK _ ?_
  clear hK K
  refine lexB_step (fun K hK => ⟨by kernel_rfl, ⟨_, rfl⟩, fun v hv => ?_, fun v hv => ?_⟩)
  · go_simp
    exact lUpon_b hv
  subst hv
  go_simp
  refine hK _ ?_
  clear hK K
  refine lexB_step (fun K hK => ⟨by kernel_rfl, ⟨_, rfl⟩, fun v hv => ?_, fun v hv => ?_⟩)
  · obtain ⟨⟨c0, c1⟩, _⟩ := pair_at (keepB (unhideR C0) hv)
    go_simp
    exact lUpon_b hv
  subst hv
  go_simp
  refine hK _ ?_
  clear hK K
  refine lexB_step (fun K hK => ⟨by kernel_rfl, ⟨_, rfl⟩, fun v hv => ?_, fun v hv => ?_⟩)
  · obtain ⟨⟨c0, c1⟩, _⟩ := pair_at (keepB (unhideR C1) hv)
    go_simp
    exact lUpon_b hv
  subst hv
  go_simp
  refine hK _ ?_
  clear hK K
  refine lexB_step (fun K hK => ⟨by kernel_rfl, ⟨_, rfl⟩, fun v hv => ?_, fun v hv => ?_⟩)
  · go_simp
    refine (place_any _ _ _).mono ?_
    rintro e w9 ⟨rfl, k⟩
    exact ⟨_, rfl, rfl, below_on2 hv (Nat.le_refl _) k⟩
  subst hv
  go_simp
  refine hK _ ?_
  clear hK K
  refine lexB_step (fun K hK => ⟨by kernel_rfl, ⟨_, rfl⟩, fun v hv => ?_, fun v hv => ?_⟩)
  · go_simp
    exact lUpon_b hv
  subst hv
  go_simp
  refine hK _ ?_
  clear hK K
  refine lexB_step (fun K hK => ⟨by kernel_rfl, ⟨_, rfl⟩, fun v hv => ?_, fun v hv => ?_⟩)
  · go_simp
    exact lUpon_b hv
  subst hv
  go_simp
  refine hK _ ?_
  clear hK K
  refine lexB_step (fun K hK => ⟨by kernel_rfl, ⟨_, rfl⟩, fun v hv => ?_, fun v hv => ?_⟩)
  · go_simp
    exact lUpon_b hv
  subst hv
  go_simp
  refine hK _ ?_
  clear hK K
  refine lexL_end ?_
  intro w5 k5
  have HB := hideR (below_go (unhideR HW) k5)
  clear k5
  go_wp2
  go_ret
  exact ⟨rfl, unhideR HB⟩
end Go.Proofs.Ytbjpkfmencaafae
