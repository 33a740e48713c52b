/-
  The program's mount: a new one; what it does is what the document's does.
-/
import Derived.Test.YteoappoijihomahDoorDM4
import Derived.Test.YteoappoijihomahDoorDM5
namespace Go.Proofs.YteoappoijihomahDoor
open Go Go.RowKit

def newP (x y : Lim) (pat : Int) : PM := ⟨x, x.home, 0, 0, y, y.home, 0, 0, 4, pat, pat, .pointer none⟩
def NewPost (a : Nat → Addr) (x y : Lim) (pat : Int) (w : World) (e : Ending) (w' : World) : Prop := Below w.heap.size w w' ∧
    ((newE x y pat = 0 ∧ ∃ g, e = .returned (.tuple #[.pointer (some ⟨g, 0, none⟩), .nilIface]) ∧ w.heap.size ≤ g ∧ PB w' g (newP x y pat)) ∨ (newE x y pat ≠ 0 ∧ ∃ er, ErrIs a (newE x y pat) er ∧ e = .returned (.tuple #[.pointer none, er])))
set_option maxRecDepth 100000 in
set_option maxHeartbeats 3200000 in
theorem pnew_a {a : Nat → Addr} (x y : Lim) (pat : Int) (w : World) (hS : Errs5 w a) (sx : ¬ x.shape) : Calls Tryd.prog 25 #[x.val, y.val, .int .i64 pat] w (NewPost a x y pat w) := by
  have k0 : Below w.heap.size w ((w.alloc (.cells #[.int .i64 x.lo, .int .i64 x.hi, .int .i64 x.fast, .int .i64 x.home] 58)).alloc (.cells #[.int .i64 y.lo, .int .i64 y.hi, .int .i64 y.fast, .int .i64 y.home] 58)) := below_al2 w _ _
  have HW := hideR k0
  have HE := hideR (hS.below k0)
  have HA : HeldR (((w.alloc (.cells #[.int .i64 x.lo, .int .i64 x.hi, .int .i64 x.fast, .int .i64 x.home] 58)).alloc (.cells #[.int .i64 y.lo, .int .i64 y.hi, .int .i64 y.fast, .int .i64 y.home] 58)).heap[w.heap.size]? = some (.cells #[.int .i64 x.lo, .int .i64 x.hi, .int .i64 x.fast, .int .i64 x.home] 58)) := keepA (alloc_last w _)
  have HB := hideR (alloc_snd w (.cells #[.int .i64 x.lo, .int .i64 x.hi, .int .i64 x.fast, .int .i64 x.home] 58) (.cells #[.int .i64 y.lo, .int .i64 y.hi, .int .i64 y.fast, .int .i64 y.home] 58))
  have h1 : ∀ u : World, Calls Tryd.prog 55 #[.agg #[.int .i64 x.lo, .int .i64 x.hi, .int .i64 x.fast, .int .i64 x.home]] u fun e w' => e = .returned (.bool false) ∧ Below u.heap.size u w' := fun u => by
    have := shaped_any x u
    rw [decide_eq_false sx] at this
    exact this
  have HF : HeldR (∀ u, Below w.heap.size w u → NewPost a x y pat w (.returned (.tuple #[.pointer none, .iface 205 (.pointer (some (a 4)))])) u) := by
    intro u hu
    have hz : newE x y pat = 5 := by
      unfold newE
      rw [if_pos (.inl sx)]
    unfold NewPost
    rw [hz]
    exact ⟨hu, .inr ⟨by decide, _, err_at 4 (by decide), rfl⟩⟩
  clear sx
  clear k0 hS
  unfold Lim.val
  go_enter Tryd.func25, Tryd.ntmps25
  go_wp2_with fail
  refine (h1 _).mono ?_
  rintro e w1 ⟨rfl, k1⟩
  replace HW := hideR (below_go (unhideR HW) k1)
  replace HE := hideR ((unhideR HE).below k1)
  replace HA := hideR (keepB (unhideR HA) k1)
  replace HB := hideR (keepB (unhideR HB) k1)
  clear k1
  obtain ⟨p0, p1, p2, p3⟩ := four_cells (unhideR HA)
  obtain ⟨q0, q1, q2, q3⟩ := four_cells (unhideR HB)
  go_wp2_with fail
  have er := (unhideR HE).e4
  refine wp_region_lets [(· = .iface 205 (.pointer (some (a 4)))),
    (· = .pointer none),
    (· = .iface 205 (.pointer (some (a 4))))] (by kernel_rfl) (by kernel_rfl) ?_
  refine lexL_step (fun K hK => ⟨by kernel_rfl, ⟨_, rfl⟩, fun n => ?_, fun v hv => ?_⟩)
  · go_simp
    exact lUpon_one
  subst hv
  go_simp
  refine hK _ ?_
  clear hK K
  refine lexL_step (fun K hK => ⟨by kernel_rfl, ⟨_, rfl⟩, fun n => ?_, fun v hv => ?_⟩)
  · go_simp
    exact lUpon_one
  subst hv
  go_simp
  refine hK _ ?_
  clear hK K
  refine lexL_step (fun K hK => ⟨by kernel_rfl, ⟨_, rfl⟩, fun n => ?_, fun v hv => ?_⟩)
  · go_simp
    exact lUpon_one
  subst hv
  go_simp
  refine hK _ ?_
  clear hK K
  refine lexL_end ?_
  intro n9
  replace HW := hideR (below_go (unhideR HW) (drawn_below _ n9))
  go_wp2
  go_ret2
  exact unhideR HF _ (unhideR HW)
set_option maxRecDepth 100000 in
set_option maxHeartbeats 3200000 in
theorem pnew_b {a : Nat → Addr} (x y : Lim) (pat : Int) (w : World) (hS : Errs5 w a) (sx : x.shape) (sy : ¬ y.shape) : Calls Tryd.prog 25 #[x.val, y.val, .int .i64 pat] w (NewPost a x y pat w) := by
  have k0 : Below w.heap.size w ((w.alloc (.cells #[.int .i64 x.lo, .int .i64 x.hi, .int .i64 x.fast, .int .i64 x.home] 58)).alloc (.cells #[.int .i64 y.lo, .int .i64 y.hi, .int .i64 y.fast, .int .i64 y.home] 58)) := below_al2 w _ _
  have HW := hideR k0
  have HE := hideR (hS.below k0)
  have HA : HeldR (((w.alloc (.cells #[.int .i64 x.lo, .int .i64 x.hi, .int .i64 x.fast, .int .i64 x.home] 58)).alloc (.cells #[.int .i64 y.lo, .int .i64 y.hi, .int .i64 y.fast, .int .i64 y.home] 58)).heap[w.heap.size]? = some (.cells #[.int .i64 x.lo, .int .i64 x.hi, .int .i64 x.fast, .int .i64 x.home] 58)) := keepA (alloc_last w _)
  have HB := hideR (alloc_snd w (.cells #[.int .i64 x.lo, .int .i64 x.hi, .int .i64 x.fast, .int .i64 x.home] 58) (.cells #[.int .i64 y.lo, .int .i64 y.hi, .int .i64 y.fast, .int .i64 y.home] 58))
  have h1 : ∀ u : World, Calls Tryd.prog 55 #[.agg #[.int .i64 x.lo, .int .i64 x.hi, .int .i64 x.fast, .int .i64 x.home]] u fun e w' => e = .returned (.bool true) ∧ Below u.heap.size u w' := fun u => by
    have := shaped_any x u
    rw [decide_eq_true sx] at this
    exact this
  have h2 : ∀ u : World, Calls Tryd.prog 55 #[.agg #[.int .i64 y.lo, .int .i64 y.hi, .int .i64 y.fast, .int .i64 y.home]] u fun e w' => e = .returned (.bool false) ∧ Below u.heap.size u w' := fun u => by
    have := shaped_any y u
    rw [decide_eq_false sy] at this
    exact this
  have HF : HeldR (∀ u, Below w.heap.size w u → NewPost a x y pat w (.returned (.tuple #[.pointer none, .iface 205 (.pointer (some (a 4)))])) u) := by
    intro u hu
    have hz : newE x y pat = 5 := by
      unfold newE
      rw [if_pos (.inr (.inl sy))]
    unfold NewPost
    rw [hz]
    exact ⟨hu, .inr ⟨by decide, _, err_at 4 (by decide), rfl⟩⟩
  clear sx sy
  clear k0 hS
  unfold Lim.val
  go_enter Tryd.func25, Tryd.ntmps25
  go_wp2_with fail
  refine (h1 _).mono ?_
  rintro e w1 ⟨rfl, k1⟩
  replace HW := hideR (below_go (unhideR HW) k1)
  replace HE := hideR ((unhideR HE).below k1)
  replace HA := hideR (keepB (unhideR HA) k1)
  replace HB := hideR (keepB (unhideR HB) k1)
  clear k1
  obtain ⟨p0, p1, p2, p3⟩ := four_cells (unhideR HA)
  obtain ⟨q0, q1, q2, q3⟩ := four_cells (unhideR HB)
  go_wp2_with fail
  refine (h2 _).mono ?_
  rintro e w2 ⟨rfl, k2⟩
  replace HW := hideR (below_go (unhideR HW) k2)
  replace HE := hideR ((unhideR HE).below k2)
  replace HA := hideR (keepB (unhideR HA) k2)
  replace HB := hideR (keepB (unhideR HB) k2)
  clear k2
  obtain ⟨p0, p1, p2, p3⟩ := four_cells (unhideR HA)
  obtain ⟨q0, q1, q2, q3⟩ := four_cells (unhideR HB)
  go_wp2_with fail
  have er := (unhideR HE).e4
  refine wp_region_lets [(· = .iface 205 (.pointer (some (a 4)))),
    (· = .pointer none),
    (· = .iface 205 (.pointer (some (a 4))))] (by kernel_rfl) (by kernel_rfl) ?_
  refine lexL_step (fun K hK => ⟨by kernel_rfl, ⟨_, rfl⟩, fun n => ?_, fun v hv => ?_⟩)
  · go_simp
    exact lUpon_one
  subst hv
  go_simp
  refine hK _ ?_
  clear hK K
  refine lexL_step (fun K hK => ⟨by kernel_rfl, ⟨_, rfl⟩, fun n => ?_, fun v hv => ?_⟩)
  · go_simp
    exact lUpon_one
  subst hv
  go_simp
  refine hK _ ?_
  clear hK K
  refine lexL_step (fun K hK => ⟨by kernel_rfl, ⟨_, rfl⟩, fun n => ?_, fun v hv => ?_⟩)
  · go_simp
    exact lUpon_one
  subst hv
  go_simp
  refine hK _ ?_
  clear hK K
  refine lexL_end ?_
  intro n9
  replace HW := hideR (below_go (unhideR HW) (drawn_below _ n9))
  go_wp2
  go_ret2
  exact unhideR HF _ (unhideR HW)
set_option maxRecDepth 100000 in
set_option maxHeartbeats 3200000 in
theorem pnew_c {a : Nat → Addr} (x y : Lim) (pat : Int) (w : World) (hS : Errs5 w a) (sx : x.shape) (sy : y.shape) (hp : pat < 1) : Calls Tryd.prog 25 #[x.val, y.val, .int .i64 pat] w (NewPost a x y pat w) := by
  have k0 : Below w.heap.size w ((w.alloc (.cells #[.int .i64 x.lo, .int .i64 x.hi, .int .i64 x.fast, .int .i64 x.home] 58)).alloc (.cells #[.int .i64 y.lo, .int .i64 y.hi, .int .i64 y.fast, .int .i64 y.home] 58)) := below_al2 w _ _
  have HW := hideR k0
  have HE := hideR (hS.below k0)
  have HA : HeldR (((w.alloc (.cells #[.int .i64 x.lo, .int .i64 x.hi, .int .i64 x.fast, .int .i64 x.home] 58)).alloc (.cells #[.int .i64 y.lo, .int .i64 y.hi, .int .i64 y.fast, .int .i64 y.home] 58)).heap[w.heap.size]? = some (.cells #[.int .i64 x.lo, .int .i64 x.hi, .int .i64 x.fast, .int .i64 x.home] 58)) := keepA (alloc_last w _)
  have HB := hideR (alloc_snd w (.cells #[.int .i64 x.lo, .int .i64 x.hi, .int .i64 x.fast, .int .i64 x.home] 58) (.cells #[.int .i64 y.lo, .int .i64 y.hi, .int .i64 y.fast, .int .i64 y.home] 58))
  have h1 : ∀ u : World, Calls Tryd.prog 55 #[.agg #[.int .i64 x.lo, .int .i64 x.hi, .int .i64 x.fast, .int .i64 x.home]] u fun e w' => e = .returned (.bool true) ∧ Below u.heap.size u w' := fun u => by
    have := shaped_any x u
    rw [decide_eq_true sx] at this
    exact this
  have h2 : ∀ u : World, Calls Tryd.prog 55 #[.agg #[.int .i64 y.lo, .int .i64 y.hi, .int .i64 y.fast, .int .i64 y.home]] u fun e w' => e = .returned (.bool true) ∧ Below u.heap.size u w' := fun u => by
    have := shaped_any y u
    rw [decide_eq_true sy] at this
    exact this
  have HF : HeldR (∀ u, Below w.heap.size w u → NewPost a x y pat w (.returned (.tuple #[.pointer none, .iface 205 (.pointer (some (a 4)))])) u) := by
    intro u hu
    have hz : newE x y pat = 5 := by
      unfold newE
      rw [if_pos (.inr (.inr hp))]
    unfold NewPost
    rw [hz]
    exact ⟨hu, .inr ⟨by decide, _, err_at 4 (by decide), rfl⟩⟩
  have tp : decide (pat < 1) = true := decide_eq_true hp
  clear sx sy hp
  clear k0 hS
  unfold Lim.val
  go_enter Tryd.func25, Tryd.ntmps25
  go_wp2_with fail
  refine (h1 _).mono ?_
  rintro e w1 ⟨rfl, k1⟩
  replace HW := hideR (below_go (unhideR HW) k1)
  replace HE := hideR ((unhideR HE).below k1)
  replace HA := hideR (keepB (unhideR HA) k1)
  replace HB := hideR (keepB (unhideR HB) k1)
  clear k1
  obtain ⟨p0, p1, p2, p3⟩ := four_cells (unhideR HA)
  obtain ⟨q0, q1, q2, q3⟩ := four_cells (unhideR HB)
  go_wp2_with fail
  refine (h2 _).mono ?_
  rintro e w2 ⟨rfl, k2⟩
  replace HW := hideR (below_go (unhideR HW) k2)
  replace HE := hideR ((unhideR HE).below k2)
  replace HA := hideR (keepB (unhideR HA) k2)
  replace HB := hideR (keepB (unhideR HB) k2)
  clear k2
  obtain ⟨p0, p1, p2, p3⟩ := four_cells (unhideR HA)
  obtain ⟨q0, q1, q2, q3⟩ := four_cells (unhideR HB)
  go_wp2_with fail
  have er := (unhideR HE).e4
  refine wp_region_lets [(· = .iface 205 (.pointer (some (a 4)))),
    (· = .pointer none),
    (· = .iface 205 (.pointer (some (a 4))))] (by kernel_rfl) (by kernel_rfl) ?_
  refine lexL_step (fun K hK => ⟨by kernel_rfl, ⟨_, rfl⟩, fun n => ?_, fun v hv => ?_⟩)
  · go_simp
    exact lUpon_one
  subst hv
  go_simp
  refine hK _ ?_
  clear hK K
  refine lexL_step (fun K hK => ⟨by kernel_rfl, ⟨_, rfl⟩, fun n => ?_, fun v hv => ?_⟩)
  · go_simp
    exact lUpon_one
  subst hv
  go_simp
  refine hK _ ?_
  clear hK K
  refine lexL_step (fun K hK => ⟨by kernel_rfl, ⟨_, rfl⟩, fun n => ?_, fun v hv => ?_⟩)
  · go_simp
    exact lUpon_one
  subst hv
  go_simp
  refine hK _ ?_
  clear hK K
  refine lexL_end ?_
  intro n9
  replace HW := hideR (below_go (unhideR HW) (drawn_below _ n9))
  go_wp2
  go_ret2
  exact unhideR HF _ (unhideR HW)
set_option maxRecDepth 100000 in
set_option maxHeartbeats 3200000 in
theorem pnew_d {a : Nat → Addr} (x y : Lim) (pat : Int) (w : World) (hS : Errs5 w a) (sx : x.shape) (sy : y.shape) (hp : ¬ pat < 1) (lx : x.large) : Calls Tryd.prog 25 #[x.val, y.val, .int .i64 pat] w (NewPost a x y pat w) := by
  have k0 : Below w.heap.size w ((w.alloc (.cells #[.int .i64 x.lo, .int .i64 x.hi, .int .i64 x.fast, .int .i64 x.home] 58)).alloc (.cells #[.int .i64 y.lo, .int .i64 y.hi, .int .i64 y.fast, .int .i64 y.home] 58)) := below_al2 w _ _
  have HW := hideR k0
  have HE := hideR (hS.below k0)
  have HA : HeldR (((w.alloc (.cells #[.int .i64 x.lo, .int .i64 x.hi, .int .i64 x.fast, .int .i64 x.home] 58)).alloc (.cells #[.int .i64 y.lo, .int .i64 y.hi, .int .i64 y.fast, .int .i64 y.home] 58)).heap[w.heap.size]? = some (.cells #[.int .i64 x.lo, .int .i64 x.hi, .int .i64 x.fast, .int .i64 x.home] 58)) := keepA (alloc_last w _)
  have HB := hideR (alloc_snd w (.cells #[.int .i64 x.lo, .int .i64 x.hi, .int .i64 x.fast, .int .i64 x.home] 58) (.cells #[.int .i64 y.lo, .int .i64 y.hi, .int .i64 y.fast, .int .i64 y.home] 58))
  have h1 : ∀ u : World, Calls Tryd.prog 55 #[.agg #[.int .i64 x.lo, .int .i64 x.hi, .int .i64 x.fast, .int .i64 x.home]] u fun e w' => e = .returned (.bool true) ∧ Below u.heap.size u w' := fun u => by
    have := shaped_any x u
    rw [decide_eq_true sx] at this
    exact this
  have h2 : ∀ u : World, Calls Tryd.prog 55 #[.agg #[.int .i64 y.lo, .int .i64 y.hi, .int .i64 y.fast, .int .i64 y.home]] u fun e w' => e = .returned (.bool true) ∧ Below u.heap.size u w' := fun u => by
    have := shaped_any y u
    rw [decide_eq_true sy] at this
    exact this
  have h3 : ∀ u : World, Calls Tryd.prog 56 #[.agg #[.int .i64 x.lo, .int .i64 x.hi, .int .i64 x.fast, .int .i64 x.home]] u fun e w' => e = .returned (.bool false) ∧ Below u.heap.size u w' := fun u => by
    have := bounded_any x u
    rw [decide_eq_false (show ¬ ¬ x.large from fun k => k lx)] at this
    exact this
  have HF : HeldR (∀ u, Below w.heap.size w u → NewPost a x y pat w (.returned (.tuple #[.pointer none, .iface 205 (.pointer (some (a 1)))])) u) := by
    intro u hu
    have hz : newE x y pat = 2 := by
      unfold newE
      rw [if_neg (fun k => k.elim (fun k => k sx) (fun k => k.elim (fun k => k sy) hp)), if_pos (.inl lx)]
    unfold NewPost
    rw [hz]
    exact ⟨hu, .inr ⟨by decide, _, err_at 1 (by decide), rfl⟩⟩
  have tp : decide (pat < 1) = false := decide_eq_false hp
  clear sx sy hp lx
  clear k0 hS
  unfold Lim.val
  go_enter Tryd.func25, Tryd.ntmps25
  go_wp2_with fail
  refine (h1 _).mono ?_
  rintro e w1 ⟨rfl, k1⟩
  replace HW := hideR (below_go (unhideR HW) k1)
  replace HE := hideR ((unhideR HE).below k1)
  replace HA := hideR (keepB (unhideR HA) k1)
  replace HB := hideR (keepB (unhideR HB) k1)
  clear k1
  obtain ⟨p0, p1, p2, p3⟩ := four_cells (unhideR HA)
  obtain ⟨q0, q1, q2, q3⟩ := four_cells (unhideR HB)
  go_wp2_with fail
  refine (h2 _).mono ?_
  rintro e w2 ⟨rfl, k2⟩
  replace HW := hideR (below_go (unhideR HW) k2)
  replace HE := hideR ((unhideR HE).below k2)
  replace HA := hideR (keepB (unhideR HA) k2)
  replace HB := hideR (keepB (unhideR HB) k2)
  clear k2
  obtain ⟨p0, p1, p2, p3⟩ := four_cells (unhideR HA)
  obtain ⟨q0, q1, q2, q3⟩ := four_cells (unhideR HB)
  go_wp2_with fail
  refine (h3 _).mono ?_
  rintro e w3 ⟨rfl, k3⟩
  replace HW := hideR (below_go (unhideR HW) k3)
  replace HE := hideR ((unhideR HE).below k3)
  replace HA := hideR (keepB (unhideR HA) k3)
  replace HB := hideR (keepB (unhideR HB) k3)
  clear k3
  obtain ⟨p0, p1, p2, p3⟩ := four_cells (unhideR HA)
  obtain ⟨q0, q1, q2, q3⟩ := four_cells (unhideR HB)
  go_wp2_with fail
  have er := (unhideR HE).e1
  refine wp_region_lets [(· = .iface 205 (.pointer (some (a 1)))),
    (· = .pointer none),
    (· = .iface 205 (.pointer (some (a 1))))] (by kernel_rfl) (by kernel_rfl) ?_
  refine lexL_step (fun K hK => ⟨by kernel_rfl, ⟨_, rfl⟩, fun n => ?_, fun v hv => ?_⟩)
  · go_simp
    exact lUpon_one
  subst hv
  go_simp
  refine hK _ ?_
  clear hK K
  refine lexL_step (fun K hK => ⟨by kernel_rfl, ⟨_, rfl⟩, fun n => ?_, fun v hv => ?_⟩)
  · go_simp
    exact lUpon_one
  subst hv
  go_simp
  refine hK _ ?_
  clear hK K
  refine lexL_step (fun K hK => ⟨by kernel_rfl, ⟨_, rfl⟩, fun n => ?_, fun v hv => ?_⟩)
  · go_simp
    exact lUpon_one
  subst hv
  go_simp
  refine hK _ ?_
  clear hK K
  refine lexL_end ?_
  intro n9
  replace HW := hideR (below_go (unhideR HW) (drawn_below _ n9))
  go_wp2
  go_ret2
  exact unhideR HF _ (unhideR HW)
set_option maxRecDepth 100000 in
set_option maxHeartbeats 3200000 in
theorem pnew_e {a : Nat → Addr} (x y : Lim) (pat : Int) (w : World) (hS : Errs5 w a) (sx : x.shape) (sy : y.shape) (hp : ¬ pat < 1) (lx : ¬ x.large) (ly : y.large) : Calls Tryd.prog 25 #[x.val, y.val, .int .i64 pat] w (NewPost a x y pat w) := by
  have k0 : Below w.heap.size w ((w.alloc (.cells #[.int .i64 x.lo, .int .i64 x.hi, .int .i64 x.fast, .int .i64 x.home] 58)).alloc (.cells #[.int .i64 y.lo, .int .i64 y.hi, .int .i64 y.fast, .int .i64 y.home] 58)) := below_al2 w _ _
  have HW := hideR k0
  have HE := hideR (hS.below k0)
  have HA : HeldR (((w.alloc (.cells #[.int .i64 x.lo, .int .i64 x.hi, .int .i64 x.fast, .int .i64 x.home] 58)).alloc (.cells #[.int .i64 y.lo, .int .i64 y.hi, .int .i64 y.fast, .int .i64 y.home] 58)).heap[w.heap.size]? = some (.cells #[.int .i64 x.lo, .int .i64 x.hi, .int .i64 x.fast, .int .i64 x.home] 58)) := keepA (alloc_last w _)
  have HB := hideR (alloc_snd w (.cells #[.int .i64 x.lo, .int .i64 x.hi, .int .i64 x.fast, .int .i64 x.home] 58) (.cells #[.int .i64 y.lo, .int .i64 y.hi, .int .i64 y.fast, .int .i64 y.home] 58))
  have h1 : ∀ u : World, Calls Tryd.prog 55 #[.agg #[.int .i64 x.lo, .int .i64 x.hi, .int .i64 x.fast, .int .i64 x.home]] u fun e w' => e = .returned (.bool true) ∧ Below u.heap.size u w' := fun u => by
    have := shaped_any x u
    rw [decide_eq_true sx] at this
    exact this
  have h2 : ∀ u : World, Calls Tryd.prog 55 #[.agg #[.int .i64 y.lo, .int .i64 y.hi, .int .i64 y.fast, .int .i64 y.home]] u fun e w' => e = .returned (.bool true) ∧ Below u.heap.size u w' := fun u => by
    have := shaped_any y u
    rw [decide_eq_true sy] at this
    exact this
  have h3 : ∀ u : World, Calls Tryd.prog 56 #[.agg #[.int .i64 x.lo, .int .i64 x.hi, .int .i64 x.fast, .int .i64 x.home]] u fun e w' => e = .returned (.bool true) ∧ Below u.heap.size u w' := fun u => by
    have := bounded_any x u
    rw [decide_eq_true (show ¬ x.large from lx)] at this
    exact this
  have h4 : ∀ u : World, Calls Tryd.prog 56 #[.agg #[.int .i64 y.lo, .int .i64 y.hi, .int .i64 y.fast, .int .i64 y.home]] u fun e w' => e = .returned (.bool false) ∧ Below u.heap.size u w' := fun u => by
    have := bounded_any y u
    rw [decide_eq_false (show ¬ ¬ y.large from fun k => k ly)] at this
    exact this
  have HF : HeldR (∀ u, Below w.heap.size w u → NewPost a x y pat w (.returned (.tuple #[.pointer none, .iface 205 (.pointer (some (a 1)))])) u) := by
    intro u hu
    have hz : newE x y pat = 2 := by
      unfold newE
      rw [if_neg (fun k => k.elim (fun k => k sx) (fun k => k.elim (fun k => k sy) hp)), if_pos (.inr (.inl ly))]
    unfold NewPost
    rw [hz]
    exact ⟨hu, .inr ⟨by decide, _, err_at 1 (by decide), rfl⟩⟩
  have tp : decide (pat < 1) = false := decide_eq_false hp
  clear sx sy hp lx ly
  clear k0 hS
  unfold Lim.val
  go_enter Tryd.func25, Tryd.ntmps25
  go_wp2_with fail
  refine (h1 _).mono ?_
  rintro e w1 ⟨rfl, k1⟩
  replace HW := hideR (below_go (unhideR HW) k1)
  replace HE := hideR ((unhideR HE).below k1)
  replace HA := hideR (keepB (unhideR HA) k1)
  replace HB := hideR (keepB (unhideR HB) k1)
  clear k1
  obtain ⟨p0, p1, p2, p3⟩ := four_cells (unhideR HA)
  obtain ⟨q0, q1, q2, q3⟩ := four_cells (unhideR HB)
  go_wp2_with fail
  refine (h2 _).mono ?_
  rintro e w2 ⟨rfl, k2⟩
  replace HW := hideR (below_go (unhideR HW) k2)
  replace HE := hideR ((unhideR HE).below k2)
  replace HA := hideR (keepB (unhideR HA) k2)
  replace HB := hideR (keepB (unhideR HB) k2)
  clear k2
  obtain ⟨p0, p1, p2, p3⟩ := four_cells (unhideR HA)
  obtain ⟨q0, q1, q2, q3⟩ := four_cells (unhideR HB)
  go_wp2_with fail
  refine (h3 _).mono ?_
  rintro e w3 ⟨rfl, k3⟩
  replace HW := hideR (below_go (unhideR HW) k3)
  replace HE := hideR ((unhideR HE).below k3)
  replace HA := hideR (keepB (unhideR HA) k3)
  replace HB := hideR (keepB (unhideR HB) k3)
  clear k3
  obtain ⟨p0, p1, p2, p3⟩ := four_cells (unhideR HA)
  obtain ⟨q0, q1, q2, q3⟩ := four_cells (unhideR HB)
  go_wp2_with fail
  refine (h4 _).mono ?_
  rintro e w4 ⟨rfl, k4⟩
  replace HW := hideR (below_go (unhideR HW) k4)
  replace HE := hideR ((unhideR HE).below k4)
  replace HA := hideR (keepB (unhideR HA) k4)
  replace HB := hideR (keepB (unhideR HB) k4)
  clear k4
  obtain ⟨p0, p1, p2, p3⟩ := four_cells (unhideR HA)
  obtain ⟨q0, q1, q2, q3⟩ := four_cells (unhideR HB)
  go_wp2_with fail
  have er := (unhideR HE).e1
  refine wp_region_lets [(· = .iface 205 (.pointer (some (a 1)))),
    (· = .pointer none),
    (· = .iface 205 (.pointer (some (a 1))))] (by kernel_rfl) (by kernel_rfl) ?_
  refine lexL_step (fun K hK => ⟨by kernel_rfl, ⟨_, rfl⟩, fun n => ?_, fun v hv => ?_⟩)
  · go_simp
    exact lUpon_one
  subst hv
  go_simp
  refine hK _ ?_
  clear hK K
  refine lexL_step (fun K hK => ⟨by kernel_rfl, ⟨_, rfl⟩, fun n => ?_, fun v hv => ?_⟩)
  · go_simp
    exact lUpon_one
  subst hv
  go_simp
  refine hK _ ?_
  clear hK K
  refine lexL_step (fun K hK => ⟨by kernel_rfl, ⟨_, rfl⟩, fun n => ?_, fun v hv => ?_⟩)
  · go_simp
    exact lUpon_one
  subst hv
  go_simp
  refine hK _ ?_
  clear hK K
  refine lexL_end ?_
  intro n9
  replace HW := hideR (below_go (unhideR HW) (drawn_below _ n9))
  go_wp2
  go_ret2
  exact unhideR HF _ (unhideR HW)
set_option maxRecDepth 100000 in
set_option maxHeartbeats 3200000 in
theorem pnew_f {a : Nat → Addr} (x y : Lim) (pat : Int) (w : World) (hS : Errs5 w a) (sx : x.shape) (sy : y.shape) (hp : ¬ pat < 1) (lx : ¬ x.large) (ly : ¬ y.large) (lp : large pat) : Calls Tryd.prog 25 #[x.val, y.val, .int .i64 pat] w (NewPost a x y pat w) := by
  have k0 : Below w.heap.size w ((w.alloc (.cells #[.int .i64 x.lo, .int .i64 x.hi, .int .i64 x.fast, .int .i64 x.home] 58)).alloc (.cells #[.int .i64 y.lo, .int .i64 y.hi, .int .i64 y.fast, .int .i64 y.home] 58)) := below_al2 w _ _
  have HW := hideR k0
  have HE := hideR (hS.below k0)
  have HA : HeldR (((w.alloc (.cells #[.int .i64 x.lo, .int .i64 x.hi, .int .i64 x.fast, .int .i64 x.home] 58)).alloc (.cells #[.int .i64 y.lo, .int .i64 y.hi, .int .i64 y.fast, .int .i64 y.home] 58)).heap[w.heap.size]? = some (.cells #[.int .i64 x.lo, .int .i64 x.hi, .int .i64 x.fast, .int .i64 x.home] 58)) := keepA (alloc_last w _)
  have HB := hideR (alloc_snd w (.cells #[.int .i64 x.lo, .int .i64 x.hi, .int .i64 x.fast, .int .i64 x.home] 58) (.cells #[.int .i64 y.lo, .int .i64 y.hi, .int .i64 y.fast, .int .i64 y.home] 58))
  have h1 : ∀ u : World, Calls Tryd.prog 55 #[.agg #[.int .i64 x.lo, .int .i64 x.hi, .int .i64 x.fast, .int .i64 x.home]] u fun e w' => e = .returned (.bool true) ∧ Below u.heap.size u w' := fun u => by
    have := shaped_any x u
    rw [decide_eq_true sx] at this
    exact this
  have h2 : ∀ u : World, Calls Tryd.prog 55 #[.agg #[.int .i64 y.lo, .int .i64 y.hi, .int .i64 y.fast, .int .i64 y.home]] u fun e w' => e = .returned (.bool true) ∧ Below u.heap.size u w' := fun u => by
    have := shaped_any y u
    rw [decide_eq_true sy] at this
    exact this
  have h3 : ∀ u : World, Calls Tryd.prog 56 #[.agg #[.int .i64 x.lo, .int .i64 x.hi, .int .i64 x.fast, .int .i64 x.home]] u fun e w' => e = .returned (.bool true) ∧ Below u.heap.size u w' := fun u => by
    have := bounded_any x u
    rw [decide_eq_true (show ¬ x.large from lx)] at this
    exact this
  have h4 : ∀ u : World, Calls Tryd.prog 56 #[.agg #[.int .i64 y.lo, .int .i64 y.hi, .int .i64 y.fast, .int .i64 y.home]] u fun e w' => e = .returned (.bool true) ∧ Below u.heap.size u w' := fun u => by
    have := bounded_any y u
    rw [decide_eq_true (show ¬ y.large from ly)] at this
    exact this
  have h5 : ∀ u : World, Calls Tryd.prog 57 #[.int .i64 pat, .int .i64 1099511627776] u fun e w' => e = .returned (.bool false) ∧ Below u.heap.size u w' := fun u => by
    refine (within_any pat 1099511627776 u (by decide) (by decide)).mono ?_
    rintro e w' ⟨rfl, rfl⟩
    rw [decide_eq_false (by unfold large at lp; omega)]
    exact ⟨rfl, Below.refl _ _⟩
  have HF : HeldR (∀ u, Below w.heap.size w u → NewPost a x y pat w (.returned (.tuple #[.pointer none, .iface 205 (.pointer (some (a 1)))])) u) := by
    intro u hu
    have hz : newE x y pat = 2 := by
      unfold newE
      rw [if_neg (fun k => k.elim (fun k => k sx) (fun k => k.elim (fun k => k sy) hp)), if_pos (.inr (.inr lp))]
    unfold NewPost
    rw [hz]
    exact ⟨hu, .inr ⟨by decide, _, err_at 1 (by decide), rfl⟩⟩
  have tp : decide (pat < 1) = false := decide_eq_false hp
  clear sx sy hp lx ly lp
  clear k0 hS
  unfold Lim.val
  go_enter Tryd.func25, Tryd.ntmps25
  go_wp2_with fail
  refine (h1 _).mono ?_
  rintro e w1 ⟨rfl, k1⟩
  replace HW := hideR (below_go (unhideR HW) k1)
  replace HE := hideR ((unhideR HE).below k1)
  replace HA := hideR (keepB (unhideR HA) k1)
  replace HB := hideR (keepB (unhideR HB) k1)
  clear k1
  obtain ⟨p0, p1, p2, p3⟩ := four_cells (unhideR HA)
  obtain ⟨q0, q1, q2, q3⟩ := four_cells (unhideR HB)
  go_wp2_with fail
  refine (h2 _).mono ?_
  rintro e w2 ⟨rfl, k2⟩
  replace HW := hideR (below_go (unhideR HW) k2)
  replace HE := hideR ((unhideR HE).below k2)
  replace HA := hideR (keepB (unhideR HA) k2)
  replace HB := hideR (keepB (unhideR HB) k2)
  clear k2
  obtain ⟨p0, p1, p2, p3⟩ := four_cells (unhideR HA)
  obtain ⟨q0, q1, q2, q3⟩ := four_cells (unhideR HB)
  go_wp2_with fail
  refine (h3 _).mono ?_
  rintro e w3 ⟨rfl, k3⟩
  replace HW := hideR (below_go (unhideR HW) k3)
  replace HE := hideR ((unhideR HE).below k3)
  replace HA := hideR (keepB (unhideR HA) k3)
  replace HB := hideR (keepB (unhideR HB) k3)
  clear k3
  obtain ⟨p0, p1, p2, p3⟩ := four_cells (unhideR HA)
  obtain ⟨q0, q1, q2, q3⟩ := four_cells (unhideR HB)
  go_wp2_with fail
  refine (h4 _).mono ?_
  rintro e w4 ⟨rfl, k4⟩
  replace HW := hideR (below_go (unhideR HW) k4)
  replace HE := hideR ((unhideR HE).below k4)
  replace HA := hideR (keepB (unhideR HA) k4)
  replace HB := hideR (keepB (unhideR HB) k4)
  clear k4
  obtain ⟨p0, p1, p2, p3⟩ := four_cells (unhideR HA)
  obtain ⟨q0, q1, q2, q3⟩ := four_cells (unhideR HB)
  go_wp2_with fail
  refine (h5 _).mono ?_
  rintro e w5 ⟨rfl, k5⟩
  replace HW := hideR (below_go (unhideR HW) k5)
  replace HE := hideR ((unhideR HE).below k5)
  replace HA := hideR (keepB (unhideR HA) k5)
  replace HB := hideR (keepB (unhideR HB) k5)
  clear k5
  obtain ⟨p0, p1, p2, p3⟩ := four_cells (unhideR HA)
  obtain ⟨q0, q1, q2, q3⟩ := four_cells (unhideR HB)
  go_wp2_with fail
  have er := (unhideR HE).e1
  refine wp_region_lets [(· = .iface 205 (.pointer (some (a 1)))),
    (· = .pointer none),
    (· = .iface 205 (.pointer (some (a 1))))] (by kernel_rfl) (by kernel_rfl) ?_
  refine lexL_step (fun K hK => ⟨by kernel_rfl, ⟨_, rfl⟩, fun n => ?_, fun v hv => ?_⟩)
  · go_simp
    exact lUpon_one
  subst hv
  go_simp
  refine hK _ ?_
  clear hK K
  refine lexL_step (fun K hK => ⟨by kernel_rfl, ⟨_, rfl⟩, fun n => ?_, fun v hv => ?_⟩)
  · go_simp
    exact lUpon_one
  subst hv
  go_simp
  refine hK _ ?_
  clear hK K
  refine lexL_step (fun K hK => ⟨by kernel_rfl, ⟨_, rfl⟩, fun n => ?_, fun v hv => ?_⟩)
  · go_simp
    exact lUpon_one
  subst hv
  go_simp
  refine hK _ ?_
  clear hK K
  refine lexL_end ?_
  intro n9
  replace HW := hideR (below_go (unhideR HW) (drawn_below _ n9))
  go_wp2
  go_ret2
  exact unhideR HF _ (unhideR HW)
set_option maxRecDepth 100000 in
set_option maxHeartbeats 3200000 in
theorem pnew_g {a : Nat → Addr} (x y : Lim) (pat : Int) (w : World) (hS : Errs5 w a) (sx : x.shape) (sy : y.shape) (hp : ¬ pat < 1) (lx : ¬ x.large) (ly : ¬ y.large) (lp : ¬ large pat) : Calls Tryd.prog 25 #[x.val, y.val, .int .i64 pat] w (NewPost a x y pat w) := by
  have k0 : Below w.heap.size w ((w.alloc (.cells #[.int .i64 x.lo, .int .i64 x.hi, .int .i64 x.fast, .int .i64 x.home] 58)).alloc (.cells #[.int .i64 y.lo, .int .i64 y.hi, .int .i64 y.fast, .int .i64 y.home] 58)) := below_al2 w _ _
  have HW := hideR k0
  have HE := hideR (hS.below k0)
  have HA : HeldR (((w.alloc (.cells #[.int .i64 x.lo, .int .i64 x.hi, .int .i64 x.fast, .int .i64 x.home] 58)).alloc (.cells #[.int .i64 y.lo, .int .i64 y.hi, .int .i64 y.fast, .int .i64 y.home] 58)).heap[w.heap.size]? = some (.cells #[.int .i64 x.lo, .int .i64 x.hi, .int .i64 x.fast, .int .i64 x.home] 58)) := keepA (alloc_last w _)
  have HB := hideR (alloc_snd w (.cells #[.int .i64 x.lo, .int .i64 x.hi, .int .i64 x.fast, .int .i64 x.home] 58) (.cells #[.int .i64 y.lo, .int .i64 y.hi, .int .i64 y.fast, .int .i64 y.home] 58))
  have h1 : ∀ u : World, Calls Tryd.prog 55 #[.agg #[.int .i64 x.lo, .int .i64 x.hi, .int .i64 x.fast, .int .i64 x.home]] u fun e w' => e = .returned (.bool true) ∧ Below u.heap.size u w' := fun u => by
    have := shaped_any x u
    rw [decide_eq_true sx] at this
    exact this
  have h2 : ∀ u : World, Calls Tryd.prog 55 #[.agg #[.int .i64 y.lo, .int .i64 y.hi, .int .i64 y.fast, .int .i64 y.home]] u fun e w' => e = .returned (.bool true) ∧ Below u.heap.size u w' := fun u => by
    have := shaped_any y u
    rw [decide_eq_true sy] at this
    exact this
  have h3 : ∀ u : World, Calls Tryd.prog 56 #[.agg #[.int .i64 x.lo, .int .i64 x.hi, .int .i64 x.fast, .int .i64 x.home]] u fun e w' => e = .returned (.bool true) ∧ Below u.heap.size u w' := fun u => by
    have := bounded_any x u
    rw [decide_eq_true (show ¬ x.large from lx)] at this
    exact this
  have h4 : ∀ u : World, Calls Tryd.prog 56 #[.agg #[.int .i64 y.lo, .int .i64 y.hi, .int .i64 y.fast, .int .i64 y.home]] u fun e w' => e = .returned (.bool true) ∧ Below u.heap.size u w' := fun u => by
    have := bounded_any y u
    rw [decide_eq_true (show ¬ y.large from ly)] at this
    exact this
  have h5 : ∀ u : World, Calls Tryd.prog 57 #[.int .i64 pat, .int .i64 1099511627776] u fun e w' => e = .returned (.bool true) ∧ Below u.heap.size u w' := fun u => by
    refine (within_any pat 1099511627776 u (by decide) (by decide)).mono ?_
    rintro e w' ⟨rfl, rfl⟩
    rw [decide_eq_true (by unfold large at lp; omega)]
    exact ⟨rfl, Below.refl _ _⟩
  have HF : HeldR (∀ u g, Below w.heap.size w u → w.heap.size ≤ g → PB u g (newP x y pat) → NewPost a x y pat w (.returned (.tuple #[.pointer (some ⟨g, 0, none⟩), .nilIface])) u) := by
    intro u g hu hg hb
    have hz : newE x y pat = 0 := by
      unfold newE
      rw [if_neg (fun k => k.elim (fun k => k sx) (fun k => k.elim (fun k => k sy) hp)), if_neg (fun k => k.elim lx (fun k => k.elim ly lp))]
    unfold NewPost
    exact ⟨hu, .inl ⟨hz, g, rfl, hg, hb⟩⟩
  have tp : decide (pat < 1) = false := decide_eq_false hp
  clear sx sy hp lx ly lp
  clear k0 hS
  unfold Lim.val
  go_enter Tryd.func25, Tryd.ntmps25
  go_wp2_with fail
  refine (h1 _).mono ?_
  rintro e w1 ⟨rfl, k1⟩
  replace HW := hideR (below_go (unhideR HW) k1)
  replace HE := hideR ((unhideR HE).below k1)
  replace HA := hideR (keepB (unhideR HA) k1)
  replace HB := hideR (keepB (unhideR HB) k1)
  clear k1
  obtain ⟨p0, p1, p2, p3⟩ := four_cells (unhideR HA)
  obtain ⟨q0, q1, q2, q3⟩ := four_cells (unhideR HB)
  go_wp2_with fail
  refine (h2 _).mono ?_
  rintro e w2 ⟨rfl, k2⟩
  replace HW := hideR (below_go (unhideR HW) k2)
  replace HE := hideR ((unhideR HE).below k2)
  replace HA := hideR (keepB (unhideR HA) k2)
  replace HB := hideR (keepB (unhideR HB) k2)
  clear k2
  obtain ⟨p0, p1, p2, p3⟩ := four_cells (unhideR HA)
  obtain ⟨q0, q1, q2, q3⟩ := four_cells (unhideR HB)
  go_wp2_with fail
  refine (h3 _).mono ?_
  rintro e w3 ⟨rfl, k3⟩
  replace HW := hideR (below_go (unhideR HW) k3)
  replace HE := hideR ((unhideR HE).below k3)
  replace HA := hideR (keepB (unhideR HA) k3)
  replace HB := hideR (keepB (unhideR HB) k3)
  clear k3
  obtain ⟨p0, p1, p2, p3⟩ := four_cells (unhideR HA)
  obtain ⟨q0, q1, q2, q3⟩ := four_cells (unhideR HB)
  go_wp2_with fail
  refine (h4 _).mono ?_
  rintro e w4 ⟨rfl, k4⟩
  replace HW := hideR (below_go (unhideR HW) k4)
  replace HE := hideR ((unhideR HE).below k4)
  replace HA := hideR (keepB (unhideR HA) k4)
  replace HB := hideR (keepB (unhideR HB) k4)
  clear k4
  obtain ⟨p0, p1, p2, p3⟩ := four_cells (unhideR HA)
  obtain ⟨q0, q1, q2, q3⟩ := four_cells (unhideR HB)
  go_wp2_with fail
  refine (h5 _).mono ?_
  rintro e w5 ⟨rfl, k5⟩
  replace HW := hideR (below_go (unhideR HW) k5)
  replace HE := hideR ((unhideR HE).below k5)
  replace HA := hideR (keepB (unhideR HA) k5)
  replace HB := hideR (keepB (unhideR HB) k5)
  clear k5
  obtain ⟨p0, p1, p2, p3⟩ := four_cells (unhideR HA)
  obtain ⟨q0, q1, q2, q3⟩ := four_cells (unhideR HB)
  go_wp2_with fail
  clear p0 p1 p2 p3 q0 q1 q2 q3
  refine wp_region_made 1 #[true, true, true, true, true, true, true, true, true, false, false] [.lets (· = .agg #[.int .i64 x.lo, .int .i64 x.hi, .int .i64 x.fast, .int .i64 x.home]),
    .lets (· = .agg #[.int .i64 x.lo, .int .i64 x.hi, .int .i64 x.fast, .int .i64 x.home, .int .i64 x.home, .int .i64 0, .int .i64 0]),
    .lets (· = .agg #[.int .i64 y.lo, .int .i64 y.hi, .int .i64 y.fast, .int .i64 y.home]),
    .lets (· = .agg #[.int .i64 y.lo, .int .i64 y.hi, .int .i64 y.fast, .int .i64 y.home, .int .i64 y.home, .int .i64 0, .int .i64 0]),
    .lets (· = .agg #[.int .i64 x.lo, .int .i64 x.hi, .int .i64 x.fast, .int .i64 x.home, .int .i64 x.home, .int .i64 0, .int .i64 0, .int .i64 y.lo, .int .i64 y.hi, .int .i64 y.fast, .int .i64 y.home, .int .i64 y.home, .int .i64 0, .int .i64 0]),
    .lets (· = .int .i64 pat),
    .lets (· = .int .i64 pat),
    .lets (· = .agg #[.int .i64 x.lo, .int .i64 x.hi, .int .i64 x.fast, .int .i64 x.home, .int .i64 x.home, .int .i64 0, .int .i64 0, .int .i64 y.lo, .int .i64 y.hi, .int .i64 y.fast, .int .i64 y.home, .int .i64 y.home, .int .i64 0, .int .i64 0, .int .i64 4, .int .i64 pat, .int .i64 pat, .pointer none]),
    .new (.cells #[.int .i64 x.lo, .int .i64 x.hi, .int .i64 x.fast, .int .i64 x.home, .int .i64 x.home, .int .i64 0, .int .i64 0, .int .i64 y.lo, .int .i64 y.hi, .int .i64 y.fast, .int .i64 y.home, .int .i64 y.home, .int .i64 0, .int .i64 0, .int .i64 4, .int .i64 pat, .int .i64 pat, .pointer none] 114)] [] [] (by kernel_rfl) (by kernel_rfl) rfl ?kinds (by kernel_rfl) (by kernel_rfl) (by kernel_rfl) ?_
  case kinds =>
    constructor
    · intro i h
      rcases i with _ | _ | _ | _ | _ | _ | _ | _ | _ | i <;> simp [Kx.isMade] at h
    · intro i h
      rcases i with _ | _ | _ | _ | _ | _ | _ | _ | _ | i <;> simp [Kx.isUse] at h
  refine lexX_step (fun K hK => ⟨by kernel_rfl, ⟨_, rfl⟩, fun v hv => ?_, fun v hv => ?_⟩)
  · obtain ⟨p0, p1, p2, p3⟩ := four_cells (keepB (unhideR HA) hv)
    go_simp
    exact mUpon_b
  subst hv
  go_simp
  refine hK _ ?_
  clear hK K
  refine lexX_step (fun K hK => ⟨by kernel_rfl, ⟨_, rfl⟩, fun v hv => ?_, fun v hv => ?_⟩)
  · go_simp
    refine (parked_any x _).mono ?_
    rintro e w9 ⟨rfl, k⟩
    exact ⟨_, rfl, rfl, k⟩
  subst hv
  go_simp
  refine hK _ ?_
  clear hK K
  refine lexX_step (fun K hK => ⟨by kernel_rfl, ⟨_, rfl⟩, fun v hv => ?_, fun v hv => ?_⟩)
  · obtain ⟨p0, p1, p2, p3⟩ := four_cells (keepB (unhideR HB) hv)
    go_simp
    exact mUpon_b
  subst hv
  go_simp
  refine hK _ ?_
  clear hK K
  refine lexX_step (fun K hK => ⟨by kernel_rfl, ⟨_, rfl⟩, fun v hv => ?_, fun v hv => ?_⟩)
  · go_simp
    refine (parked_any y _).mono ?_
    rintro e w9 ⟨rfl, k⟩
    exact ⟨_, rfl, rfl, k⟩
  subst hv
  go_simp
  refine hK _ ?_
  clear hK K
  refine lexX_step (fun K hK => ⟨by kernel_rfl, ⟨_, rfl⟩, fun v hv => ?_, fun v hv => ?_⟩)
  · go_simp
    exact mUpon_b
  subst hv
  go_simp
  refine hK _ ?_
  clear hK K
  refine lexX_step (fun K hK => ⟨by kernel_rfl, ⟨_, rfl⟩, fun v hv => ?_, fun v hv => ?_⟩)
  · go_simp
    exact mUpon_b
  subst hv
  go_simp
  refine hK _ ?_
  clear hK K
  refine lexX_step (fun K hK => ⟨by kernel_rfl, ⟨_, rfl⟩, fun v hv => ?_, fun v hv => ?_⟩)
  · go_simp
    exact mUpon_b
  subst hv
  go_simp
  refine hK _ ?_
  clear hK K
  refine lexX_step (fun K hK => ⟨by kernel_rfl, ⟨_, rfl⟩, fun v hv => ?_, fun v hv => ?_⟩)
  · go_simp
    exact mUpon_b
  subst hv
  go_simp
  refine hK _ ?_
  clear hK K
  refine lexX_new (fin0.some _) (fun b20 fb20 K hK => ⟨by kernel_rfl, fun v => ?_, ?_⟩)
  · go_simp
    first
      | exact ⟨rfl, rfl⟩
      | rfl
  unfold ptr
  go_simp
  refine hK _ ?_
  clear hK K
  refine lexX_end (fun v5 hv => ?_)
  have hz0 : v5.heap[b20]? = some (.cells #[.int .i64 x.lo, .int .i64 x.hi, .int .i64 x.fast, .int .i64 x.home, .int .i64 x.home, .int .i64 0, .int .i64 0, .int .i64 y.lo, .int .i64 y.hi, .int .i64 y.fast, .int .i64 y.home, .int .i64 y.home, .int .i64 0, .int .i64 0, .int .i64 4, .int .i64 pat, .int .i64 pat, .pointer none] 114 (0, 0)) := hv.held b20 _ (by unfold Hd.put; rw [if_pos rfl])
  have hge := fb20.ge
  refine wpAny_step (i := 9) (by kernel_rfl) rfl (by kernel_rfl) (fun K hK => ?_)
  unfold Oper.wp
  go_simp
  refine hK _ _ ?_
  clear hK K
  refine wpAny_step (i := 10) (by kernel_rfl) rfl (by kernel_rfl) (fun K hK => ?_)
  unfold Oper.wp
  go_simp
  refine hK _ _ ?_
  clear hK K
  refine wpAny_end (by kernel_rfl) ?_
  have hs := (unhideR HW).size
  have HG := hideR (unhideR HF _ b20 (below_go (unhideR HW) hv.low) (by omega) ⟨hz0⟩)
  clear hv hz0 hge hs HF
  go_wp2
  go_ret2
  exact unhideR HG
theorem pnew_any {a : Nat → Addr} (x y : Lim) (pat : Int) (w : World) (hS : Errs5 w a) : Calls Tryd.prog 25 #[x.val, y.val, .int .i64 pat] w (NewPost a x y pat w) := by
  by_cases sx : x.shape
  · by_cases sy : y.shape
    · by_cases hp : pat < 1
      · exact pnew_c x y pat w hS sx sy hp
      · by_cases lx : x.large
        · exact pnew_d x y pat w hS sx sy hp lx
        · by_cases ly : y.large
          · exact pnew_e x y pat w hS sx sy hp lx ly
          · by_cases lp : large pat
            · exact pnew_f x y pat w hS sx sy hp lx ly lp
            · exact pnew_g x y pat w hS sx sy hp lx ly lp
    · exact pnew_b x y pat w hS sx sy
  · exact pnew_a x y pat w hS sx
end Go.Proofs.YteoappoijihomahDoor
