/-
  The search for the nearest: what it takes: the program's, by contract.
-/
import Derived.Test.YtfonpobdnhifgamGreatDoorAtTB
import Derived.Test.YtfonpobdnhifgamGreatDoorAtU1
namespace Go.Proofs.YtfonpobdnhifgamGreatDoor
open Go Go.RowKit

def NtPost (bf bb : Nat) (f' : Int) (b' : Co) (W : World) (r : Ending) (w' : World) : Prop := r = .returned (.tuple #[]) ∧ w'.heap[bf]? = some (.cells #[.int .i64 f'] 3) ∧ w'.heap[bb]? = some (.cells #[.int .i64 b'.sg, .int .u64 (ohV b'), .int .u64 (olV b'), .int .i64 b'.un] 76) ∧ Oth (fun k => k = bf ∨ k = bb) W w'
set_option maxRecDepth 1000000 in
set_option maxHeartbeats 6400000 in
theorem pntake_any {W : World} {p : Nat} {lv sn : Int} {nK cap bn bc b2 : Nat} (hp : W.heap[p]? = some (.cells #[.int .i64 lv, .slice (some ⟨b2, 0, none⟩) nK cap, .map (some bn), .map (some bc), .int .i64 sn] 82)) {bf bb ba : Nat} {f : Int} {bst : Co} (hf : W.heap[bf]? = some (.cells #[.int .i64 f] 3)) (hb : W.heap[bb]? = some (.cells #[.int .i64 bst.sg, .int .u64 (ohV bst), .int .u64 (olV bst), .int .i64 bst.un] 76)) (ha : W.heap[ba]? = some (.cells #[.pointer (some ⟨p, 0, none⟩)] 28)) (hne : bf ≠ bb) (hbs : 0 ≤ f → bst.Sm) (c : Co) (hc : c.Sm) {i : Nat} (hi : i < nK) (_hK : nK ≤ 4000) (hfn : f < (nK : Int)) {x y : ByteArray} (hx : W.cell? ⟨b2, i * 4, none⟩ = some (.string x)) (hbl : b2 < W.heap.size) (hy : 0 ≤ f → W.cell? ⟨b2, f.toNat * 4, none⟩ = some (.string y)) :
    Calls Tryz.prog 67 #[.int .i64 (i : Nat), coV c, .pointer (some ⟨bf, 0, none⟩), .pointer (some ⟨bb, 0, none⟩), .pointer (some ⟨ba, 0, none⟩)] W (NtPost bf bb (if chB f (coCmp c bst) x y then (i : Nat) else f) (if chB f (coCmp c bst) x y then c else bst) W) := by
  rw [coV_is]
  have z1 := alloc_last W (.cells #[.int .i64 c.sg, .int .u64 (ohV c), .int .u64 (olV c), .int .i64 c.un] 76)
  have HB := hideR (below_a W (.cells #[.int .i64 c.sg, .int .u64 (ohV c), .int .u64 (olV c), .int .i64 c.un] 76))
  have hin : (i : Int) < (nK : Int) := by omega
  have HKeep : HeldR (∀ v, Below (W.alloc (.cells #[.int .i64 c.sg, .int .u64 (ohV c), .int .u64 (olV c), .int .i64 c.un] 76)).heap.size (W.alloc (.cells #[.int .i64 c.sg, .int .u64 (ohV c), .int .u64 (olV c), .int .i64 c.un] 76)) v → v.heap[bf]? = some (.cells #[.int .i64 f] 3) ∧ v.heap[bb]? = some (.cells #[.int .i64 bst.sg, .int .u64 (ohV bst), .int .u64 (olV bst), .int .i64 bst.un] 76) ∧ Oth (fun k => k = bf ∨ k = bb) W v) := hideR (fun v hv => by
    have h0 := (unhideR HB).trans (hv.mono (unhideR HB).size)
    exact ⟨keepB hf h0, keepB hb h0, ⟨h0.os, h0.tape, h0.output, h0.size, fun k hk _ => h0.block k hk⟩⟩)
  have HY : HeldR (∀ v, Below (W.alloc (.cells #[.int .i64 c.sg, .int .u64 (ohV c), .int .u64 (olV c), .int .i64 c.un] 76)).heap.size (W.alloc (.cells #[.int .i64 c.sg, .int .u64 (ohV c), .int .u64 (olV c), .int .i64 c.un] 76)) v → v.heap[bf]? = some (.cells #[.int .i64 f] 3) ∧ v.heap[bb]? = some (.cells #[.int .i64 bst.sg, .int .u64 (ohV bst), .int .u64 (olV bst), .int .i64 bst.un] 76) ∧ v.heap[ba]? = some (.cells #[.pointer (some ⟨p, 0, none⟩)] 28) ∧ v.heap[p]? = some (.cells #[.int .i64 lv, .slice (some ⟨b2, 0, none⟩) nK cap, .map (some bn), .map (some bc), .int .i64 sn] 82) ∧ v.heap[W.heap.size]? = some (.cells #[.int .i64 c.sg, .int .u64 (ohV c), .int .u64 (olV c), .int .i64 c.un] 76) ∧ v.cell? ⟨b2, i * 4, none⟩ = some (.string x) ∧ (0 ≤ f → v.cell? ⟨b2, f.toNat * 4, none⟩ = some (.string y))) := hideR (fun v hv => by
    have h0 := (unhideR HB).trans (hv.mono (unhideR HB).size)
    exact ⟨keepB hf h0, keepB hb h0, keepB ha h0, keepB hp h0, keepB z1 hv, (World.cell?_of_block (a := ⟨b2, i * 4, none⟩) (h0.block b2 hbl)).trans hx, fun q => (World.cell?_of_block (a := ⟨b2, f.toNat * 4, none⟩) (h0.block b2 hbl)).trans (hy q)⟩)
  have HNo : HeldR (chB f (coCmp c bst) x y = false → ∀ v, Below (W.alloc (.cells #[.int .i64 c.sg, .int .u64 (ohV c), .int .u64 (olV c), .int .i64 c.un] 76)).heap.size (W.alloc (.cells #[.int .i64 c.sg, .int .u64 (ohV c), .int .u64 (olV c), .int .i64 c.un] 76)) v → NtPost bf bb (if chB f (coCmp c bst) x y then (i : Nat) else f) (if chB f (coCmp c bst) x y then c else bst) W (.returned (.tuple #[])) v) := hideR (fun q v hv => by
    rw [q, if_neg (by decide), if_neg (by decide)]
    obtain ⟨k1, k2, k3⟩ := unhideR HKeep v hv
    exact ⟨rfl, k1, k2, k3⟩)
  have HYes : HeldR (chB f (coCmp c bst) x y = true → ∀ v, Below (W.alloc (.cells #[.int .i64 c.sg, .int .u64 (ohV c), .int .u64 (olV c), .int .i64 c.un] 76)).heap.size (W.alloc (.cells #[.int .i64 c.sg, .int .u64 (ohV c), .int .u64 (olV c), .int .i64 c.un] 76)) v → NtPost bf bb (if chB f (coCmp c bst) x y then (i : Nat) else f) (if chB f (coCmp c bst) x y then c else bst) W (.returned (.tuple #[])) (((((v.setCell ⟨bf, 0, none⟩ (.int .i64 (i : Nat))).setCell ⟨bb, 0, none⟩ (.int .i64 c.sg)).setCell ⟨bb, 1, none⟩ (.int .u64 (ohV c))).setCell ⟨bb, 2, none⟩ (.int .u64 (olV c))).setCell ⟨bb, 3, none⟩ (.int .i64 c.un))) := hideR (fun q v hv => by
    rw [q, if_pos rfl, if_pos rfl]
    obtain ⟨k1, k2, k3⟩ := unhideR HKeep v hv
    have m1 : (v.setCell ⟨bf, 0, none⟩ (.int .i64 (i : Nat))).heap[bf]? = some (.cells #[.int .i64 (i : Nat)] 3) := heap_setCell_same _ _ _ _ _ _ k1
    have m2 : (v.setCell ⟨bf, 0, none⟩ (.int .i64 (i : Nat))).heap[bb]? = some (.cells #[.int .i64 bst.sg, .int .u64 (ohV bst), .int .u64 (olV bst), .int .i64 bst.un] 76) := (Below.heap_setCell _ _ _ _ (fun e => hne e.symm)).trans k2
    refine ⟨rfl, (set4_oth hne).trans m1, set4_at4 m2 (.int .i64 c.sg) (.int .u64 (ohV c)) (.int .u64 (olV c)) (.int .i64 c.un), ⟨k3.os, k3.tape, k3.output, ?_, fun k hk hn => ?_⟩⟩
    · refine Nat.le_trans k3.size ?_
      simp
    · exact (set4_oth (fun e => hn (.inr e))).trans ((Below.heap_setCell _ _ _ _ (fun e => hn (.inl e))).trans (k3.block k hk hn)))
  generalize NtPost bf bb (if chB f (coCmp c bst) x y then (i : Nat) else f) (if chB f (coCmp c bst) x y then c else bst) W = NP at *
  have lf := ltB hf
  have lb2 := ltB hb
  clear z1 hf hb ha hp hx hy HB HKeep hbl
  by_cases h0 : f < 0
  case pos =>
    have hch : chB f (coCmp c bst) x y = true := by unfold chB; rw [decide_eq_true h0, Bool.true_or]
    have t0 : decide (f < 0) = true := decide_eq_true h0
    have HQ := hideR (unhideR HYes hch)
    clear HYes HNo hch hbs hc
    go_enter Tryz.func67, Tryz.ntmps67
    go_upto_region 1 with fail
    generalize W.alloc (.cells #[.int .i64 c.sg, .int .u64 (ohV c), .int .u64 (olV c), .int .i64 c.un] 76) = u0 at *
    obtain ⟨Z, hZ⟩ : ∃ Z, W.heap.size = Z := ⟨_, rfl⟩
    rw [hZ] at HY lf lb2 ⊢
    clear hZ
    have nz1 : ¬ (Z = bf) := by omega
    have nz2 : ¬ (bf = Z) := by omega
    have nz3 : ¬ (Z = bb) := by omega
    have nz4 : ¬ (bb = Z) := by omega
    have nz5 : ¬ (bb = bf) := fun e => hne e.symm
    have nz6 : ¬ (bf = bb) := hne
    refine wp_region_made 0 #[true, true, true, true, true, true, true, true, true, true, true, true, true, true, true, true, true, true, true, true, true, true, true, true, true, true, false] [.lets (· = .int .i64 f),
      .lets (· = .bool true),
      .lets (· = .bool true),
      .lets (· = undef),
      .lets (· = undef),
      .lets (· = undef),
      .lets (· = undef),
      .lets (· = .bool true),
      .lets (· = .bool true),
      .lets (· = undef),
      .lets (· = undef),
      .lets (· = undef),
      .lets (· = undef),
      .lets (· = undef),
      .lets (· = undef),
      .lets (· = undef),
      .lets (· = undef),
      .lets (· = undef),
      .lets (· = undef),
      .lets (· = undef),
      .lets (· = undef),
      .lets (· = undef),
      .lets (· = undef),
      .lets (· = undef),
      .lets (· = undef),
      .lets (· = undef)] [] [] (by kernel_rfl) (by kernel_rfl) rfl ?kinds (by kernel_rfl) (by kernel_rfl) (by kernel_rfl) ?_
    case kinds =>
      constructor
      · intro i h
        rcases i with _ | _ | _ | _ | _ | _ | _ | _ | _ | _ | _ | _ | _ | _ | _ | _ | _ | _ | _ | _ | _ | _ | _ | _ | _ | _ | i <;> simp [Kx.isMade] at h
      · intro i h
        rcases i with _ | _ | _ | _ | _ | _ | _ | _ | _ | _ | _ | _ | _ | _ | _ | _ | _ | _ | _ | _ | _ | _ | _ | _ | _ | _ | i <;> simp [Kx.isUse] at h
    refine lexX_step (fun K hK => ⟨by kernel_rfl, ⟨_, rfl⟩, fun v hv => ?_, fun v hv => ?_⟩)
    · have y9 := (unhideR HY v hv).1
      have y0 := (cells_at y9 0 (by simp)).1
      go_simp
      exact mUpon_b
    subst hv
    go_simp
    refine hK _ ?_
    clear hK K
    refine lexX_step (fun K hK => ⟨by kernel_rfl, ⟨_, rfl⟩, fun v hv => ?_, fun v hv => ?_⟩)
    · go_simp
      exact mUpon_b
    subst hv
    go_simp
    refine hK _ ?_
    clear hK K
    refine lexX_step (fun K hK => ⟨by kernel_rfl, ⟨_, rfl⟩, fun v hv => ?_, fun v hv => ?_⟩)
    · go_simp
      exact mUpon_b
    subst hv
    go_simp
    refine hK _ ?_
    clear hK K
    refine lexX_skip (fun K hK => ⟨by kernel_rfl, ?_⟩)
    go_simp
    refine hK _ ?_
    clear hK K
    refine lexX_skip (fun K hK => ⟨by kernel_rfl, ?_⟩)
    go_simp
    refine hK _ ?_
    clear hK K
    refine lexX_skip (fun K hK => ⟨by kernel_rfl, ?_⟩)
    go_simp
    refine hK _ ?_
    clear hK K
    refine lexX_skip (fun K hK => ⟨by kernel_rfl, ?_⟩)
    go_simp
    refine hK _ ?_
    clear hK K
    refine lexX_step (fun K hK => ⟨by kernel_rfl, ⟨_, rfl⟩, fun v hv => ?_, fun v hv => ?_⟩)
    · go_simp
      exact mUpon_b
    subst hv
    go_simp
    refine hK _ ?_
    clear hK K
    refine lexX_step (fun K hK => ⟨by kernel_rfl, ⟨_, rfl⟩, fun v hv => ?_, fun v hv => ?_⟩)
    · go_simp
      exact mUpon_b
    subst hv
    go_simp
    refine hK _ ?_
    clear hK K
    refine lexX_skip (fun K hK => ⟨by kernel_rfl, ?_⟩)
    go_simp
    refine hK _ ?_
    clear hK K
    refine lexX_skip (fun K hK => ⟨by kernel_rfl, ?_⟩)
    go_simp
    refine hK _ ?_
    clear hK K
    refine lexX_skip (fun K hK => ⟨by kernel_rfl, ?_⟩)
    go_simp
    refine hK _ ?_
    clear hK K
    refine lexX_skip (fun K hK => ⟨by kernel_rfl, ?_⟩)
    go_simp
    refine hK _ ?_
    clear hK K
    refine lexX_skip (fun K hK => ⟨by kernel_rfl, ?_⟩)
    go_simp
    refine hK _ ?_
    clear hK K
    refine lexX_skip (fun K hK => ⟨by kernel_rfl, ?_⟩)
    go_simp
    refine hK _ ?_
    clear hK K
    refine lexX_skip (fun K hK => ⟨by kernel_rfl, ?_⟩)
    go_simp
    refine hK _ ?_
    clear hK K
    refine lexX_skip (fun K hK => ⟨by kernel_rfl, ?_⟩)
    go_simp
    refine hK _ ?_
    clear hK K
    refine lexX_skip (fun K hK => ⟨by kernel_rfl, ?_⟩)
    go_simp
    refine hK _ ?_
    clear hK K
    refine lexX_skip (fun K hK => ⟨by kernel_rfl, ?_⟩)
    go_simp
    refine hK _ ?_
    clear hK K
    refine lexX_skip (fun K hK => ⟨by kernel_rfl, ?_⟩)
    go_simp
    refine hK _ ?_
    clear hK K
    refine lexX_skip (fun K hK => ⟨by kernel_rfl, ?_⟩)
    go_simp
    refine hK _ ?_
    clear hK K
    refine lexX_skip (fun K hK => ⟨by kernel_rfl, ?_⟩)
    go_simp
    refine hK _ ?_
    clear hK K
    refine lexX_skip (fun K hK => ⟨by kernel_rfl, ?_⟩)
    go_simp
    refine hK _ ?_
    clear hK K
    refine lexX_skip (fun K hK => ⟨by kernel_rfl, ?_⟩)
    go_simp
    refine hK _ ?_
    clear hK K
    refine lexX_skip (fun K hK => ⟨by kernel_rfl, ?_⟩)
    go_simp
    refine hK _ ?_
    clear hK K
    refine lexX_skip (fun K hK => ⟨by kernel_rfl, ?_⟩)
    go_simp
    refine hK _ ?_
    clear hK K
    refine lexX_end (fun v5 hv => ?_)
    have HV := hideR hv.low
    clear hv
    refine wpAny_step (i := 26) (by kernel_rfl) rfl (by kernel_rfl) (fun K hK => ?_)
    unfold Oper.wp
    go_simp
    refine hK _ _ ?_
    clear hK K
    refine wpAny_end (by kernel_rfl) ?_
    have k0 := (cells_at (unhideR HY v5 (unhideR HV)).2.2.2.2.1 0 (by simp)).1
    have k1 := (cells_at (unhideR HY v5 (unhideR HV)).2.2.2.2.1 1 (by simp)).1
    have k2 := (cells_at (unhideR HY v5 (unhideR HV)).2.2.2.2.1 2 (by simp)).1
    have k3 := (cells_at (unhideR HY v5 (unhideR HV)).2.2.2.2.1 3 (by simp)).1
    have e0 := (cells_at (unhideR HY v5 (unhideR HV)).1 0 (by simp)).1
    have e1 := (cells_at (unhideR HY v5 (unhideR HV)).1 0 (by simp)).2
    have g0 := (cells_at (unhideR HY v5 (unhideR HV)).2.1 0 (by simp)).1
    have h0 := (cells_at (unhideR HY v5 (unhideR HV)).2.1 0 (by simp)).2
    have g1 := (cells_at (unhideR HY v5 (unhideR HV)).2.1 1 (by simp)).1
    have h1 := (cells_at (unhideR HY v5 (unhideR HV)).2.1 1 (by simp)).2
    have g2 := (cells_at (unhideR HY v5 (unhideR HV)).2.1 2 (by simp)).1
    have h2 := (cells_at (unhideR HY v5 (unhideR HV)).2.1 2 (by simp)).2
    have g3 := (cells_at (unhideR HY v5 (unhideR HV)).2.1 3 (by simp)).1
    have h3 := (cells_at (unhideR HY v5 (unhideR HV)).2.1 3 (by simp)).2
    have HQ2 := hideR (unhideR HQ v5.drew (drewF (unhideR HV)))
    clear HY HV HQ
    go_upto_region 2 with fail
    go_region
    go_wp2
    simp [bodyPost, results, Tryz.results67, go_sem]
    exact unhideR HQ2
  obtain ⟨fN, hfN⟩ : ∃ fN : Nat, f = fN := ⟨f.toNat, by omega⟩
  subst hfN
  have hcm := fun x => pcmp_any c bst hc (hbs (by omega)) x
  simp only [coV_is] at hcm
  have hchz : chB (fN : Int) (coCmp c bst) x y = (decide (0 < coCmp c bst) || lessB x y) := by unfold chB; rw [decide_eq_false h0, Bool.false_or]
  generalize coCmp c bst = z at *
  have t0 : decide ((fN : Int) < 0) = false := decide_eq_false h0
  have hfi : (fN : Int) < (nK : Int) := hfn
  by_cases hz : 0 < z
  case pos =>
    have tz : decide (0 < z) = true := decide_eq_true hz
    have HQ := hideR (unhideR HYes (by rw [hchz, tz, Bool.true_or]))
    clear HYes HNo hchz hbs hc
    go_enter Tryz.func67, Tryz.ntmps67
    go_upto_region 1 with fail
    generalize W.alloc (.cells #[.int .i64 c.sg, .int .u64 (ohV c), .int .u64 (olV c), .int .i64 c.un] 76) = u0 at *
    obtain ⟨Z, hZ⟩ : ∃ Z, W.heap.size = Z := ⟨_, rfl⟩
    rw [hZ] at HY lf lb2 ⊢
    clear hZ
    have nz1 : ¬ (Z = bf) := by omega
    have nz2 : ¬ (bf = Z) := by omega
    have nz3 : ¬ (Z = bb) := by omega
    have nz4 : ¬ (bb = Z) := by omega
    have nz5 : ¬ (bb = bf) := fun e => hne e.symm
    have nz6 : ¬ (bf = bb) := hne
    refine wp_region_made 0 #[true, true, true, true, true, true, true, true, true, true, true, true, true, true, true, true, true, true, true, true, true, true, true, true, true, true, false] [.lets (· = .int .i64 (fN : Nat)),
      .lets (· = .bool false),
      .lets (· = .bool false),
      .lets (· = .agg #[.int .i64 c.sg, .int .u64 (ohV c), .int .u64 (olV c), .int .i64 c.un]),
      .lets (· = .agg #[.int .i64 bst.sg, .int .u64 (ohV bst), .int .u64 (olV bst), .int .i64 bst.un]),
      .lets (· = .int .i64 z),
      .lets (· = .bool true),
      .lets (· = .bool true),
      .lets (· = .bool true),
      .lets (· = undef),
      .lets (· = undef),
      .lets (· = undef),
      .lets (· = undef),
      .lets (· = undef),
      .lets (· = undef),
      .lets (· = undef),
      .lets (· = undef),
      .lets (· = undef),
      .lets (· = undef),
      .lets (· = undef),
      .lets (· = undef),
      .lets (· = undef),
      .lets (· = undef),
      .lets (· = undef),
      .lets (· = undef),
      .lets (· = undef)] [] [] (by kernel_rfl) (by kernel_rfl) rfl ?kinds (by kernel_rfl) (by kernel_rfl) (by kernel_rfl) ?_
    case kinds =>
      constructor
      · intro i h
        rcases i with _ | _ | _ | _ | _ | _ | _ | _ | _ | _ | _ | _ | _ | _ | _ | _ | _ | _ | _ | _ | _ | _ | _ | _ | _ | _ | i <;> simp [Kx.isMade] at h
      · intro i h
        rcases i with _ | _ | _ | _ | _ | _ | _ | _ | _ | _ | _ | _ | _ | _ | _ | _ | _ | _ | _ | _ | _ | _ | _ | _ | _ | _ | i <;> simp [Kx.isUse] at h
    refine lexX_step (fun K hK => ⟨by kernel_rfl, ⟨_, rfl⟩, fun v hv => ?_, fun v hv => ?_⟩)
    · have y9 := (unhideR HY v hv).1
      have y0 := (cells_at y9 0 (by simp)).1
      go_simp
      exact mUpon_b
    subst hv
    go_simp
    refine hK _ ?_
    clear hK K
    refine lexX_step (fun K hK => ⟨by kernel_rfl, ⟨_, rfl⟩, fun v hv => ?_, fun v hv => ?_⟩)
    · go_simp
      exact mUpon_b
    subst hv
    go_simp
    refine hK _ ?_
    clear hK K
    refine lexX_step (fun K hK => ⟨by kernel_rfl, ⟨_, rfl⟩, fun v hv => ?_, fun v hv => ?_⟩)
    · go_simp
      exact mUpon_b
    subst hv
    go_simp
    refine hK _ ?_
    clear hK K
    refine lexX_step (fun K hK => ⟨by kernel_rfl, ⟨_, rfl⟩, fun v hv => ?_, fun v hv => ?_⟩)
    · have y9 := (unhideR HY v hv).2.2.2.2.1
      have y0 := (cells_at y9 0 (by simp)).1
      have y1 := (cells_at y9 1 (by simp)).1
      have y2 := (cells_at y9 2 (by simp)).1
      have y3 := (cells_at y9 3 (by simp)).1
      go_simp
      exact mUpon_b
    subst hv
    go_simp
    refine hK _ ?_
    clear hK K
    refine lexX_step (fun K hK => ⟨by kernel_rfl, ⟨_, rfl⟩, fun v hv => ?_, fun v hv => ?_⟩)
    · have y9 := (unhideR HY v hv).2.1
      have y0 := (cells_at y9 0 (by simp)).1
      have y1 := (cells_at y9 1 (by simp)).1
      have y2 := (cells_at y9 2 (by simp)).1
      have y3 := (cells_at y9 3 (by simp)).1
      go_simp
      exact mUpon_b
    subst hv
    go_simp
    refine hK _ ?_
    clear hK K
    refine lexX_step (fun K hK => ⟨by kernel_rfl, ⟨_, rfl⟩, fun v hv => ?_, fun v hv => ?_⟩)
    · go_simp
      refine (hcm v).mono ?_
      rintro e w9 ⟨rfl, k⟩
      exact ⟨_, rfl, rfl, k⟩
    subst hv
    go_simp
    refine hK _ ?_
    clear hK K
    refine lexX_step (fun K hK => ⟨by kernel_rfl, ⟨_, rfl⟩, fun v hv => ?_, fun v hv => ?_⟩)
    · go_simp
      exact mUpon_b
    subst hv
    go_simp
    refine hK _ ?_
    clear hK K
    refine lexX_step (fun K hK => ⟨by kernel_rfl, ⟨_, rfl⟩, fun v hv => ?_, fun v hv => ?_⟩)
    · go_simp
      exact mUpon_b
    subst hv
    go_simp
    refine hK _ ?_
    clear hK K
    refine lexX_step (fun K hK => ⟨by kernel_rfl, ⟨_, rfl⟩, fun v hv => ?_, fun v hv => ?_⟩)
    · go_simp
      exact mUpon_b
    subst hv
    go_simp
    refine hK _ ?_
    clear hK K
    refine lexX_skip (fun K hK => ⟨by kernel_rfl, ?_⟩)
    go_simp
    refine hK _ ?_
    clear hK K
    refine lexX_skip (fun K hK => ⟨by kernel_rfl, ?_⟩)
    go_simp
    refine hK _ ?_
    clear hK K
    refine lexX_skip (fun K hK => ⟨by kernel_rfl, ?_⟩)
    go_simp
    refine hK _ ?_
    clear hK K
    refine lexX_skip (fun K hK => ⟨by kernel_rfl, ?_⟩)
    go_simp
    refine hK _ ?_
    clear hK K
    refine lexX_skip (fun K hK => ⟨by kernel_rfl, ?_⟩)
    go_simp
    refine hK _ ?_
    clear hK K
    refine lexX_skip (fun K hK => ⟨by kernel_rfl, ?_⟩)
    go_simp
    refine hK _ ?_
    clear hK K
    refine lexX_skip (fun K hK => ⟨by kernel_rfl, ?_⟩)
    go_simp
    refine hK _ ?_
    clear hK K
    refine lexX_skip (fun K hK => ⟨by kernel_rfl, ?_⟩)
    go_simp
    refine hK _ ?_
    clear hK K
    refine lexX_skip (fun K hK => ⟨by kernel_rfl, ?_⟩)
    go_simp
    refine hK _ ?_
    clear hK K
    refine lexX_skip (fun K hK => ⟨by kernel_rfl, ?_⟩)
    go_simp
    refine hK _ ?_
    clear hK K
    refine lexX_skip (fun K hK => ⟨by kernel_rfl, ?_⟩)
    go_simp
    refine hK _ ?_
    clear hK K
    refine lexX_skip (fun K hK => ⟨by kernel_rfl, ?_⟩)
    go_simp
    refine hK _ ?_
    clear hK K
    refine lexX_skip (fun K hK => ⟨by kernel_rfl, ?_⟩)
    go_simp
    refine hK _ ?_
    clear hK K
    refine lexX_skip (fun K hK => ⟨by kernel_rfl, ?_⟩)
    go_simp
    refine hK _ ?_
    clear hK K
    refine lexX_skip (fun K hK => ⟨by kernel_rfl, ?_⟩)
    go_simp
    refine hK _ ?_
    clear hK K
    refine lexX_skip (fun K hK => ⟨by kernel_rfl, ?_⟩)
    go_simp
    refine hK _ ?_
    clear hK K
    refine lexX_skip (fun K hK => ⟨by kernel_rfl, ?_⟩)
    go_simp
    refine hK _ ?_
    clear hK K
    refine lexX_end (fun v5 hv => ?_)
    have HV := hideR hv.low
    clear hv hcm
    refine wpAny_step (i := 26) (by kernel_rfl) rfl (by kernel_rfl) (fun K hK => ?_)
    unfold Oper.wp
    go_simp
    refine hK _ _ ?_
    clear hK K
    refine wpAny_end (by kernel_rfl) ?_
    have k0 := (cells_at (unhideR HY v5 (unhideR HV)).2.2.2.2.1 0 (by simp)).1
    have k1 := (cells_at (unhideR HY v5 (unhideR HV)).2.2.2.2.1 1 (by simp)).1
    have k2 := (cells_at (unhideR HY v5 (unhideR HV)).2.2.2.2.1 2 (by simp)).1
    have k3 := (cells_at (unhideR HY v5 (unhideR HV)).2.2.2.2.1 3 (by simp)).1
    have e0 := (cells_at (unhideR HY v5 (unhideR HV)).1 0 (by simp)).1
    have e1 := (cells_at (unhideR HY v5 (unhideR HV)).1 0 (by simp)).2
    have g0 := (cells_at (unhideR HY v5 (unhideR HV)).2.1 0 (by simp)).1
    have h0 := (cells_at (unhideR HY v5 (unhideR HV)).2.1 0 (by simp)).2
    have g1 := (cells_at (unhideR HY v5 (unhideR HV)).2.1 1 (by simp)).1
    have h1 := (cells_at (unhideR HY v5 (unhideR HV)).2.1 1 (by simp)).2
    have g2 := (cells_at (unhideR HY v5 (unhideR HV)).2.1 2 (by simp)).1
    have h2 := (cells_at (unhideR HY v5 (unhideR HV)).2.1 2 (by simp)).2
    have g3 := (cells_at (unhideR HY v5 (unhideR HV)).2.1 3 (by simp)).1
    have h3 := (cells_at (unhideR HY v5 (unhideR HV)).2.1 3 (by simp)).2
    have HQ2 := hideR (unhideR HQ v5.drew (drewF (unhideR HV)))
    clear HY HV HQ
    go_upto_region 2 with fail
    go_region
    go_wp2
    simp [bodyPost, results, Tryz.results67, go_sem]
    exact unhideR HQ2
  have tz : decide (0 < z) = false := decide_eq_false hz
  rw [tz, Bool.false_or] at hchz
  obtain ⟨lb, hlb⟩ : ∃ lb, lessB x y = lb := ⟨_, rfl⟩
  rw [hlb] at hchz
  have hlt : Op.bytesLess x.toList y.toList = lb := hlb
  clear hbs hc hlb
  go_enter Tryz.func67, Tryz.ntmps67
  go_upto_region 1 with fail
  generalize W.alloc (.cells #[.int .i64 c.sg, .int .u64 (ohV c), .int .u64 (olV c), .int .i64 c.un] 76) = u0 at *
  obtain ⟨Z, hZ⟩ : ∃ Z, W.heap.size = Z := ⟨_, rfl⟩
  rw [hZ] at HY lf lb2 ⊢
  clear hZ
  have nz1 : ¬ (Z = bf) := by omega
  have nz2 : ¬ (bf = Z) := by omega
  have nz3 : ¬ (Z = bb) := by omega
  have nz4 : ¬ (bb = Z) := by omega
  have nz5 : ¬ (bb = bf) := fun e => hne e.symm
  have nz6 : ¬ (bf = bb) := hne
  refine wp_region_made 0 #[true, true, true, true, true, true, true, true, true, true, true, true, true, true, true, true, true, true, true, true, true, true, true, true, true, true, false] [.lets (· = .int .i64 (fN : Nat)),
    .lets (· = .bool false),
    .lets (· = .bool false),
    .lets (· = .agg #[.int .i64 c.sg, .int .u64 (ohV c), .int .u64 (olV c), .int .i64 c.un]),
    .lets (· = .agg #[.int .i64 bst.sg, .int .u64 (ohV bst), .int .u64 (olV bst), .int .i64 bst.un]),
    .lets (· = .int .i64 z),
    .lets (· = .bool false),
    .lets (· = .bool false),
    .lets (· = .bool false),
    .lets (· = .pointer (some ⟨p, 0, none⟩)),
    .lets (· = .pointer (some ⟨p, 0, none⟩)),
    .lets (· = .pointer (some ⟨p, 1, none⟩)),
    .lets (· = .slice (some ⟨b2, 0, none⟩) nK cap),
    .lets (· = .int .i64 (i : Nat)),
    .lets (· = .pointer (some ⟨b2, i * 4, none⟩)),
    .lets (· = .pointer (some ⟨b2, i * 4, none⟩)),
    .lets (· = .string x),
    .lets (· = .pointer (some ⟨p, 0, none⟩)),
    .lets (· = .pointer (some ⟨p, 0, none⟩)),
    .lets (· = .pointer (some ⟨p, 1, none⟩)),
    .lets (· = .slice (some ⟨b2, 0, none⟩) nK cap),
    .lets (· = .int .i64 (fN : Nat)),
    .lets (· = .pointer (some ⟨b2, fN * 4, none⟩)),
    .lets (· = .pointer (some ⟨b2, fN * 4, none⟩)),
    .lets (· = .string y),
    .lets (· = .bool lb)] [] [] (by kernel_rfl) (by kernel_rfl) rfl ?kinds (by kernel_rfl) (by kernel_rfl) (by kernel_rfl) ?_
  case kinds =>
    constructor
    · intro i h
      rcases i with _ | _ | _ | _ | _ | _ | _ | _ | _ | _ | _ | _ | _ | _ | _ | _ | _ | _ | _ | _ | _ | _ | _ | _ | _ | _ | i <;> simp [Kx.isMade] at h
    · intro i h
      rcases i with _ | _ | _ | _ | _ | _ | _ | _ | _ | _ | _ | _ | _ | _ | _ | _ | _ | _ | _ | _ | _ | _ | _ | _ | _ | _ | i <;> simp [Kx.isUse] at h
  refine lexX_step (fun K hK => ⟨by kernel_rfl, ⟨_, rfl⟩, fun v hv => ?_, fun v hv => ?_⟩)
  · have y9 := (unhideR HY v hv).1
    have y0 := (cells_at y9 0 (by simp)).1
    go_simp
    exact mUpon_b
  subst hv
  go_simp
  refine hK _ ?_
  clear hK K
  refine lexX_step (fun K hK => ⟨by kernel_rfl, ⟨_, rfl⟩, fun v hv => ?_, fun v hv => ?_⟩)
  · go_simp
    exact mUpon_b
  subst hv
  go_simp
  refine hK _ ?_
  clear hK K
  refine lexX_step (fun K hK => ⟨by kernel_rfl, ⟨_, rfl⟩, fun v hv => ?_, fun v hv => ?_⟩)
  · go_simp
    exact mUpon_b
  subst hv
  go_simp
  refine hK _ ?_
  clear hK K
  refine lexX_step (fun K hK => ⟨by kernel_rfl, ⟨_, rfl⟩, fun v hv => ?_, fun v hv => ?_⟩)
  · have y9 := (unhideR HY v hv).2.2.2.2.1
    have y0 := (cells_at y9 0 (by simp)).1
    have y1 := (cells_at y9 1 (by simp)).1
    have y2 := (cells_at y9 2 (by simp)).1
    have y3 := (cells_at y9 3 (by simp)).1
    go_simp
    exact mUpon_b
  subst hv
  go_simp
  refine hK _ ?_
  clear hK K
  refine lexX_step (fun K hK => ⟨by kernel_rfl, ⟨_, rfl⟩, fun v hv => ?_, fun v hv => ?_⟩)
  · have y9 := (unhideR HY v hv).2.1
    have y0 := (cells_at y9 0 (by simp)).1
    have y1 := (cells_at y9 1 (by simp)).1
    have y2 := (cells_at y9 2 (by simp)).1
    have y3 := (cells_at y9 3 (by simp)).1
    go_simp
    exact mUpon_b
  subst hv
  go_simp
  refine hK _ ?_
  clear hK K
  refine lexX_step (fun K hK => ⟨by kernel_rfl, ⟨_, rfl⟩, fun v hv => ?_, fun v hv => ?_⟩)
  · go_simp
    refine (hcm v).mono ?_
    rintro e w9 ⟨rfl, k⟩
    exact ⟨_, rfl, rfl, k⟩
  subst hv
  go_simp
  refine hK _ ?_
  clear hK K
  refine lexX_step (fun K hK => ⟨by kernel_rfl, ⟨_, rfl⟩, fun v hv => ?_, fun v hv => ?_⟩)
  · go_simp
    exact mUpon_b
  subst hv
  go_simp
  refine hK _ ?_
  clear hK K
  refine lexX_step (fun K hK => ⟨by kernel_rfl, ⟨_, rfl⟩, fun v hv => ?_, fun v hv => ?_⟩)
  · go_simp
    exact mUpon_b
  subst hv
  go_simp
  refine hK _ ?_
  clear hK K
  refine lexX_step (fun K hK => ⟨by kernel_rfl, ⟨_, rfl⟩, fun v hv => ?_, fun v hv => ?_⟩)
  · go_simp
    exact mUpon_b
  subst hv
  go_simp
  refine hK _ ?_
  clear hK K
  refine lexX_step (fun K hK => ⟨by kernel_rfl, ⟨_, rfl⟩, fun v hv => ?_, fun v hv => ?_⟩)
  · have y9 := (unhideR HY v hv).2.2.1
    have y0 := (cells_at y9 0 (by simp)).1
    go_simp
    exact mUpon_b
  subst hv
  go_simp
  refine hK _ ?_
  clear hK K
  refine lexX_step (fun K hK => ⟨by kernel_rfl, ⟨_, rfl⟩, fun v hv => ?_, fun v hv => ?_⟩)
  · go_simp
    exact mUpon_b
  subst hv
  go_simp
  refine hK _ ?_
  clear hK K
  refine lexX_step (fun K hK => ⟨by kernel_rfl, ⟨_, rfl⟩, fun v hv => ?_, fun v hv => ?_⟩)
  · go_simp
    exact mUpon_b
  subst hv
  go_simp
  refine hK _ ?_
  clear hK K
  refine lexX_step (fun K hK => ⟨by kernel_rfl, ⟨_, rfl⟩, fun v hv => ?_, fun v hv => ?_⟩)
  · have y9 := (unhideR HY v hv).2.2.2.1
    have y0 := (cells_at y9 1 (by simp)).1
    go_simp
    exact mUpon_b
  subst hv
  go_simp
  refine hK _ ?_
  clear hK K
  refine lexX_step (fun K hK => ⟨by kernel_rfl, ⟨_, rfl⟩, fun v hv => ?_, fun v hv => ?_⟩)
  · go_simp
    exact mUpon_b
  subst hv
  go_simp
  refine hK _ ?_
  clear hK K
  refine lexX_step (fun K hK => ⟨by kernel_rfl, ⟨_, rfl⟩, fun v hv => ?_, fun v hv => ?_⟩)
  · go_simp
    exact mUpon_b
  subst hv
  go_simp
  refine hK _ ?_
  clear hK K
  refine lexX_step (fun K hK => ⟨by kernel_rfl, ⟨_, rfl⟩, fun v hv => ?_, fun v hv => ?_⟩)
  · go_simp
    exact mUpon_b
  subst hv
  go_simp
  refine hK _ ?_
  clear hK K
  refine lexX_step (fun K hK => ⟨by kernel_rfl, ⟨_, rfl⟩, fun v hv => ?_, fun v hv => ?_⟩)
  · have y9 := (unhideR HY v hv).2.2.2.2.2.1
    go_simp
    exact mUpon_b
  subst hv
  go_simp
  refine hK _ ?_
  clear hK K
  refine lexX_step (fun K hK => ⟨by kernel_rfl, ⟨_, rfl⟩, fun v hv => ?_, fun v hv => ?_⟩)
  · have y9 := (unhideR HY v hv).2.2.1
    have y0 := (cells_at y9 0 (by simp)).1
    go_simp
    exact mUpon_b
  subst hv
  go_simp
  refine hK _ ?_
  clear hK K
  refine lexX_step (fun K hK => ⟨by kernel_rfl, ⟨_, rfl⟩, fun v hv => ?_, fun v hv => ?_⟩)
  · go_simp
    exact mUpon_b
  subst hv
  go_simp
  refine hK _ ?_
  clear hK K
  refine lexX_step (fun K hK => ⟨by kernel_rfl, ⟨_, rfl⟩, fun v hv => ?_, fun v hv => ?_⟩)
  · go_simp
    exact mUpon_b
  subst hv
  go_simp
  refine hK _ ?_
  clear hK K
  refine lexX_step (fun K hK => ⟨by kernel_rfl, ⟨_, rfl⟩, fun v hv => ?_, fun v hv => ?_⟩)
  · have y9 := (unhideR HY v hv).2.2.2.1
    have y0 := (cells_at y9 1 (by simp)).1
    go_simp
    exact mUpon_b
  subst hv
  go_simp
  refine hK _ ?_
  clear hK K
  refine lexX_step (fun K hK => ⟨by kernel_rfl, ⟨_, rfl⟩, fun v hv => ?_, fun v hv => ?_⟩)
  · have y9 := (unhideR HY v hv).1
    have y0 := (cells_at y9 0 (by simp)).1
    go_simp
    exact mUpon_b
  subst hv
  go_simp
  refine hK _ ?_
  clear hK K
  refine lexX_step (fun K hK => ⟨by kernel_rfl, ⟨_, rfl⟩, fun v hv => ?_, fun v hv => ?_⟩)
  · go_simp
    exact mUpon_b
  subst hv
  go_simp
  refine hK _ ?_
  clear hK K
  refine lexX_step (fun K hK => ⟨by kernel_rfl, ⟨_, rfl⟩, fun v hv => ?_, fun v hv => ?_⟩)
  · go_simp
    exact mUpon_b
  subst hv
  go_simp
  refine hK _ ?_
  clear hK K
  refine lexX_step (fun K hK => ⟨by kernel_rfl, ⟨_, rfl⟩, fun v hv => ?_, fun v hv => ?_⟩)
  · have y9 := (unhideR HY v hv).2.2.2.2.2.2 (by omega)
    rw [Int.toNat_natCast] at y9
    go_simp
    exact mUpon_b
  subst hv
  go_simp
  refine hK _ ?_
  clear hK K
  refine lexX_step (fun K hK => ⟨by kernel_rfl, ⟨_, rfl⟩, fun v hv => ?_, fun v hv => ?_⟩)
  · go_simp
    exact mUpon_b
  subst hv
  go_simp
  refine hK _ ?_
  clear hK K
  refine lexX_end (fun v5 hv => ?_)
  have HV := hideR hv.low
  clear hv hcm
  refine wpAny_step (i := 26) (by kernel_rfl) rfl (by kernel_rfl) (fun K hK => ?_)
  unfold Oper.wp
  go_simp
  refine hK _ _ ?_
  clear hK K
  refine wpAny_end (by kernel_rfl) ?_
  cases lb
  case false =>
    have HQ := hideR (unhideR HNo hchz v5 (unhideR HV))
    clear HY HV HYes HNo hchz
    go_wp2
    simp [bodyPost, results, Tryz.results67, go_sem]
    exact unhideR HQ
  case true =>
    have HQ := hideR (unhideR HYes hchz)
    clear HYes HNo hchz
    have k0 := (cells_at (unhideR HY v5 (unhideR HV)).2.2.2.2.1 0 (by simp)).1
    have k1 := (cells_at (unhideR HY v5 (unhideR HV)).2.2.2.2.1 1 (by simp)).1
    have k2 := (cells_at (unhideR HY v5 (unhideR HV)).2.2.2.2.1 2 (by simp)).1
    have k3 := (cells_at (unhideR HY v5 (unhideR HV)).2.2.2.2.1 3 (by simp)).1
    have e0 := (cells_at (unhideR HY v5 (unhideR HV)).1 0 (by simp)).1
    have e1 := (cells_at (unhideR HY v5 (unhideR HV)).1 0 (by simp)).2
    have g0 := (cells_at (unhideR HY v5 (unhideR HV)).2.1 0 (by simp)).1
    have h0 := (cells_at (unhideR HY v5 (unhideR HV)).2.1 0 (by simp)).2
    have g1 := (cells_at (unhideR HY v5 (unhideR HV)).2.1 1 (by simp)).1
    have h1 := (cells_at (unhideR HY v5 (unhideR HV)).2.1 1 (by simp)).2
    have g2 := (cells_at (unhideR HY v5 (unhideR HV)).2.1 2 (by simp)).1
    have h2 := (cells_at (unhideR HY v5 (unhideR HV)).2.1 2 (by simp)).2
    have g3 := (cells_at (unhideR HY v5 (unhideR HV)).2.1 3 (by simp)).1
    have h3 := (cells_at (unhideR HY v5 (unhideR HV)).2.1 3 (by simp)).2
    have HQ2 := hideR (unhideR HQ v5.drew (drewF (unhideR HV)))
    clear HY HV HQ
    go_upto_region 2 with fail
    go_region
    go_wp2
    simp [bodyPost, results, Tryz.results67, go_sem]
    exact unhideR HQ2
end Go.Proofs.YtfonpobdnhifgamGreatDoor
