/-
  The program's turns: by an angle, about an axis: by contracts.
-/
import Derived.Test.YtbjpkfmencaafafDoorSky5
import Derived.Test.YtbjpkfmencaafafDoorDSin
namespace Go.Proofs.YtbjpkfmencaafafDoor
open Go Go.RowKit

def PSetF (e0 e1 : FE) (v : Value) : Prop := ∃ p q, v = .tuple #[.float .f64 p, .float .f64 q] ∧ Ev e0 p ∧ Ev e1 q
theorem float_at {w : World} {b x : Nat} {ty : TypeId} (h : w.heap[b]? = some (.cells #[.float .f64 x] ty)) : w.cell? ⟨b, 0, none⟩ = some (.float .f64 x) ∧ w.frozen? ⟨b, 0, none⟩ = false := cells_at h 0 (by simp)
/-- a turn that is made ready: where its cosine and its sine lie. -/
structure Ready (w : World) (bc bs : Nat) (d : Int) : Prop where
  c : w.heap[bc]? = some (.cells #[.float .f64 (cosV d)] 23)
  s : w.heap[bs]? = some (.cells #[.float .f64 (sinV d)] 23)
theorem Ready.keep {w v : World} {bc bs : Nat} {d : Int} (h : Ready w bc bs d) (k : Below w.heap.size w v) : Ready v bc bs d := ⟨keepB h.c k, keepB h.s k⟩
def turnF (bc bs : Nat) : Value := .func (.func 30) #[] #[.pointer (some ⟨bc, 0, none⟩), .pointer (some ⟨bs, 0, none⟩)]
set_option maxRecDepth 100000 in
set_option maxHeartbeats 8000000 in
theorem turn1_any (a b bc bs : Nat) (d : Int) (w : World) (hr : Ready w bc bs d) :
    Calls Tryd.prog 30 #[.float .f64 a, .float .f64 b, .pointer (some ⟨bc, 0, none⟩), .pointer (some ⟨bs, 0, none⟩)] w fun e w' => ∃ p q, e = .returned (.tuple #[.float .f64 p, .float .f64 q]) ∧ Ev (tuA a b (sinV d) (cosV d)) p ∧ Ev (tuB a b (sinV d) (cosV d)) q ∧ Below w.heap.size w w' := by
  have hm := fun t x y v => run_fmul (P := Tryd.prog) t x y v
  have hp := fun t x y v => run_fadd (P := Tryd.prog) t x y v
  have hu := fun t x y v => run_fsub (P := Tryd.prog) t x y v
  obtain ⟨hc, hs⟩ := hr
  generalize sinV d = s at *
  generalize cosV d = c at *
  have HC := hideR hc
  have HS := hideR hs
  clear hc hs
  go_enter Tryd.func30, Tryd.ntmps30
  go_wp2_with fail
  refine wp_region_letsB w.heap.size [(· = .float .f64 a),
    (· = .float .f64 c),
    FSet (mE a c),
    (· = .float .f64 b),
    (· = .float .f64 s),
    FSet (mE b s),
    FSet (tuA a b s c),
    (· = .float .f64 a),
    (· = .float .f64 s),
    FSet (mE a s),
    (· = .float .f64 b),
    (· = .float .f64 c),
    FSet (mE b c),
    FSet (tuB a b s c),
    FSet (tuA a b s c),
    FSet (tuB a b s c)] (by kernel_rfl) (by kernel_rfl) ?_
  refine lexB_step (fun K hK => ⟨by kernel_rfl, ⟨_, rfl⟩, fun v hv => ?_, fun v hv => ?_⟩)
  · go_simp
    exact lUpon_b hv
  subst hv
  go_simp
  refine hK _ ?_
  clear hK K
  refine lexB_step (fun K hK => ⟨by kernel_rfl, ⟨_, rfl⟩, fun v hv => ?_, fun v hv => ?_⟩)
  · obtain ⟨c0, _⟩ := float_at (keepB (unhideR HC) hv)
    go_simp
    exact lUpon_b hv
  subst hv
  go_simp
  refine hK _ ?_
  clear hK K
  refine lexB_step (fun K hK => ⟨by kernel_rfl, fset_some _, fun v hv => ?_, fun v hv => ?_⟩)
  · go_simp
    exact ⟨below_drewN hv _, _, rfl, .op (.num _) (.num _) (fnum_is _ _ _ _)⟩
  obtain ⟨m0, rfl, e_m0⟩ := hv
  go_simp
  refine hK _ ?_
  clear hK K
  have E_m0 := hideR e_m0
  clear e_m0
  refine lexB_step (fun K hK => ⟨by kernel_rfl, ⟨_, rfl⟩, fun v hv => ?_, fun v hv => ?_⟩)
  · go_simp
    exact lUpon_b hv
  subst hv
  go_simp
  refine hK _ ?_
  clear hK K
  refine lexB_step (fun K hK => ⟨by kernel_rfl, ⟨_, rfl⟩, fun v hv => ?_, fun v hv => ?_⟩)
  · obtain ⟨c0, _⟩ := float_at (keepB (unhideR HS) hv)
    go_simp
    exact lUpon_b hv
  subst hv
  go_simp
  refine hK _ ?_
  clear hK K
  refine lexB_step (fun K hK => ⟨by kernel_rfl, fset_some _, fun v hv => ?_, fun v hv => ?_⟩)
  · go_simp
    exact ⟨below_drewN hv _, _, rfl, .op (.num _) (.num _) (fnum_is _ _ _ _)⟩
  obtain ⟨m1, rfl, e_m1⟩ := hv
  go_simp
  refine hK _ ?_
  clear hK K
  have E_m1 := hideR e_m1
  clear e_m1
  refine lexB_step (fun K hK => ⟨by kernel_rfl, fset_some _, fun v hv => ?_, fun v hv => ?_⟩)
  · go_simp
    exact ⟨below_drewN hv _, _, rfl, .op (unhideR E_m0) (unhideR E_m1) (fnum_is _ _ _ _)⟩
  obtain ⟨r0, rfl, e_r0⟩ := hv
  go_simp
  refine hK _ ?_
  clear hK K
  have E_r0 := hideR e_r0
  clear e_r0
  refine lexB_step (fun K hK => ⟨by kernel_rfl, ⟨_, rfl⟩, fun v hv => ?_, fun v hv => ?_⟩)
  · go_simp
    exact lUpon_b hv
  subst hv
  go_simp
  refine hK _ ?_
  clear hK K
  refine lexB_step (fun K hK => ⟨by kernel_rfl, ⟨_, rfl⟩, fun v hv => ?_, fun v hv => ?_⟩)
  · obtain ⟨c0, _⟩ := float_at (keepB (unhideR HS) hv)
    go_simp
    exact lUpon_b hv
  subst hv
  go_simp
  refine hK _ ?_
  clear hK K
  refine lexB_step (fun K hK => ⟨by kernel_rfl, fset_some _, fun v hv => ?_, fun v hv => ?_⟩)
  · go_simp
    exact ⟨below_drewN hv _, _, rfl, .op (.num _) (.num _) (fnum_is _ _ _ _)⟩
  obtain ⟨m2, rfl, e_m2⟩ := hv
  go_simp
  refine hK _ ?_
  clear hK K
  have E_m2 := hideR e_m2
  clear e_m2
  refine lexB_step (fun K hK => ⟨by kernel_rfl, ⟨_, rfl⟩, fun v hv => ?_, fun v hv => ?_⟩)
  · go_simp
    exact lUpon_b hv
  subst hv
  go_simp
  refine hK _ ?_
  clear hK K
  refine lexB_step (fun K hK => ⟨by kernel_rfl, ⟨_, rfl⟩, fun v hv => ?_, fun v hv => ?_⟩)
  · obtain ⟨c0, _⟩ := float_at (keepB (unhideR HC) hv)
    go_simp
    exact lUpon_b hv
  subst hv
  go_simp
  refine hK _ ?_
  clear hK K
  refine lexB_step (fun K hK => ⟨by kernel_rfl, fset_some _, fun v hv => ?_, fun v hv => ?_⟩)
  · go_simp
    exact ⟨below_drewN hv _, _, rfl, .op (.num _) (.num _) (fnum_is _ _ _ _)⟩
  obtain ⟨m3, rfl, e_m3⟩ := hv
  go_simp
  refine hK _ ?_
  clear hK K
  have E_m3 := hideR e_m3
  clear e_m3
  refine lexB_step (fun K hK => ⟨by kernel_rfl, fset_some _, fun v hv => ?_, fun v hv => ?_⟩)
  · go_simp
    exact ⟨below_drewN hv _, _, rfl, .op (unhideR E_m2) (unhideR E_m3) (fnum_is _ _ _ _)⟩
  obtain ⟨r1, rfl, e_r1⟩ := hv
  go_simp
  refine hK _ ?_
  clear hK K
  have E_r1 := hideR e_r1
  clear e_r1
  refine lexB_step (fun K hK => ⟨by kernel_rfl, fset_some _, fun v hv => ?_, fun v hv => ?_⟩)
  · go_simp
    exact ⟨hv, _, rfl, unhideR E_r0⟩
  obtain ⟨p, rfl, e_p⟩ := hv
  go_simp
  refine hK _ ?_
  clear hK K
  have E_p := hideR e_p
  clear e_p
  refine lexB_step (fun K hK => ⟨by kernel_rfl, fset_some _, fun v hv => ?_, fun v hv => ?_⟩)
  · go_simp
    exact ⟨hv, _, rfl, unhideR E_r1⟩
  obtain ⟨q, rfl, e_q⟩ := hv
  go_simp
  refine hK _ ?_
  clear hK K
  have E_q := hideR e_q
  clear e_q
  refine lexL_end ?_
  intro w3 k3
  have HB := hideR k3
  clear k3
  go_wp2
  go_ret2
  exact ⟨p, q, rfl, unhideR E_p, unhideR E_q, unhideR HB⟩
set_option maxHeartbeats 8000000 in
theorem by_any (d : Int) (w : World) : Calls Tryd.prog 18 #[.int .i64 d] w fun e w' => ∃ bc bs, e = .returned (turnF bc bs) ∧ Ready w' bc bs d ∧ Below w.heap.size w w' := by
  have hsf := run_store_float Tryd.prog
  have h1 := fun v => cos_any d v
  have h2 := fun v => sin_any d v
  have HR : HeldR (∀ w bc bs, w.heap[bc]? = some (.cells #[.float .f64 (cosV d)] 23) → w.heap[bs]? = some (.cells #[.float .f64 (sinV d)] 23) → Ready w bc bs d) := fun w bc bs h k => ⟨h, k⟩
  generalize sinV d = s at *
  generalize cosV d = c at *
  go_enter Tryd.func18, Tryd.ntmps18
  go_wp2_with fail
  refine (h1 _).mono ?_
  rintro e w1 ⟨rfl, k1⟩
  have HW := hideR k1
  clear k1
  go_wp2_with fail
  refine (h2 _).mono ?_
  rintro e w2 ⟨rfl, k2⟩
  replace HW := hideR (below_go (unhideR HW) k2)
  clear k2
  go_wp2
  go_ret
  exact ⟨w2.heap.size, w2.heap.size + 1, rfl, unhideR HR _ _ _ (keepA (alloc_last w2 _)) (by have := alloc_last (w2.alloc (.cells #[.float .f64 c] 23)) (.cells #[.float .f64 s] 23); simpa using this), ((unhideR HW).alloc (unhideR HW).size _).alloc (by have := (unhideR HW).size; simp; omega) _⟩
end Go.Proofs.YtbjpkfmencaafafDoor
