/-
  What a matrix does to a vector; rows become columns: the program's, by contracts.
-/
import Derived.Test.YtbobnmaeiohnnadSpin5
import Derived.Test.YtbobnmaeiohnnadLoose3
namespace Go.Proofs.Ytbobnmaeiohnnad
open Go Go.RowKit

def dtE (a b c x y z : Nat) : FE := .op .add (.op .add (mE a x) (mE b y)) (mE c z)
set_option maxHeartbeats 8000000 in
theorem along_any (a b c bv x y z : Nat) (w : World) (hv : w.heap[bv]? = some (.cells #[.float .f64 x, .float .f64 y, .float .f64 z] 46)) :
    Calls Try.prog 63 #[.agg #[.float .f64 a, .float .f64 b, .float .f64 c], .pointer (some ⟨bv, 0, none⟩)] w fun e v' => ∃ r, e = .returned (.float .f64 r) ∧ Ev (dtE a b c x y z) r ∧ Below w.heap.size w v' := by
  have lv : bv < w.heap.size := (Array.getElem?_eq_some_iff.1 hv).1
  obtain ⟨⟨c0, c1, c2⟩, _⟩ := three_at hv
  clear hv
  go_enter Try.func63, Try.ntmps63
  iterate 5
    go_wp2_with fail
    refine upon_float (by first | exact four_mul | exact four_add | exact four_sub) ?_
    intro r n hr
  go_wp2
  go_ret
  refine ⟨_, rfl, ?_, below_drewN ((Below.refl w.heap.size w).alloc (Nat.le_refl _) _) _⟩
  repeat' (first | exact Ev.num _ | refine Ev.op ?_ ?_ (by assumption))
def VSet (e0 e1 e2 : FE) (v : Value) : Prop := ∃ p q r, v = .agg #[.float .f64 p, .float .f64 q, .float .f64 r] ∧ Ev e0 p ∧ Ev e1 q ∧ Ev e2 r
theorem vset_some (e0 e1 e2 : FE) : ∃ v, VSet e0 e1 e2 v := by
  obtain ⟨p, hp⟩ := ev_some e0
  obtain ⟨q, hq⟩ := ev_some e1
  obtain ⟨r, hr⟩ := ev_some e2
  exact ⟨_, p, q, r, rfl, hp, hq, hr⟩
set_option maxHeartbeats 8000000 in
theorem apply_any (x0 x1 x2 x3 x4 x5 x6 x7 x8 x y z : Nat) (w : World) : Calls Try.prog 32 #[.agg (nine x0 x1 x2 x3 x4 x5 x6 x7 x8), .agg #[.float .f64 x, .float .f64 y, .float .f64 z]] w fun e w' => ∃ p q r, e = .returned (.agg #[.float .f64 p, .float .f64 q, .float .f64 r]) ∧ Ev (dtE x0 x1 x2 x y z) p ∧ Ev (dtE x3 x4 x5 x y z) q ∧ Ev (dtE x6 x7 x8 x y z) r ∧ Below w.heap.size w w' := by
  have hsf := run_store_float Try.prog
  have hmf : ∀ (fn : Fn) (first cap : Array Value) (w : World), (Instr.makeFunc fn first cap).run Try.prog w = .ok (.func fn first cap) w := fun _ _ _ _ => rfl
  have e9 : nine x0 x1 x2 x3 x4 x5 x6 x7 x8 = #[.float .f64 x0, .float .f64 x1, .float .f64 x2, .float .f64 x3, .float .f64 x4, .float .f64 x5, .float .f64 x6, .float .f64 x7, .float .f64 x8] := rfl
  rw [e9]
  clear e9
  obtain ⟨W, hW⟩ : ∃ W, W = (((w.alloc (.cells (nine x0 x1 x2 x3 x4 x5 x6 x7 x8) 50)).alloc (.cells #[.float .f64 x, .float .f64 y, .float .f64 z] 46)).alloc (.cells #[.float .f64 0, .float .f64 0, .float .f64 0] 46)) := ⟨_, rfl⟩
  have hthree : ∀ v, Below W.heap.size W v → v.heap[w.heap.size]? = some (.cells (nine x0 x1 x2 x3 x4 x5 x6 x7 x8) 50) ∧ v.heap[w.heap.size + 1]? = some (.cells #[.float .f64 x, .float .f64 y, .float .f64 z] 46) ∧ v.heap[w.heap.size + 1 + 1]? = some (.cells #[.float .f64 0, .float .f64 0, .float .f64 0] 46) ∧ Below w.heap.size w v := fun v hv => three_blocks (hW ▸ hv)
  have HT := hideR hthree
  have hWW := hideR hW.symm
  clear hthree hW
  go_enter Try.func32, Try.ntmps32
  go_wp2_with fail
  have hWW := unhideR hWW
  unfold nine at hWW
  rw [hWW]
  clear hWW
  refine wp_region_lastB W.heap.size [(· = .func (.func 63) #[] #[.pointer (some ⟨w.heap.size + 1, 0, none⟩)]),
    (· = .pointer (some ⟨w.heap.size, 0, none⟩)),
    (· = .agg #[.float .f64 x0, .float .f64 x1, .float .f64 x2]),
    FSet (dtE x0 x1 x2 x y z),
    (· = .func (.func 63) #[] #[.pointer (some ⟨w.heap.size + 1, 0, none⟩)]),
    (· = .pointer (some ⟨w.heap.size, 3, none⟩)),
    (· = .agg #[.float .f64 x3, .float .f64 x4, .float .f64 x5]),
    FSet (dtE x3 x4 x5 x y z),
    (· = .func (.func 63) #[] #[.pointer (some ⟨w.heap.size + 1, 0, none⟩)]),
    (· = .pointer (some ⟨w.heap.size, 6, none⟩)),
    (· = .agg #[.float .f64 x6, .float .f64 x7, .float .f64 x8]),
    FSet (dtE x6 x7 x8 x y z),
    VSet (dtE x0 x1 x2 x y z) (dtE x3 x4 x5 x y z) (dtE x6 x7 x8 x y z)] (by kernel_rfl) (by kernel_rfl) rfl (by kernel_rfl) (by kernel_rfl) ?_
  refine lexM_step (fun K hK => ⟨by kernel_rfl, ⟨_, rfl⟩, fun v hv => ?_, fun v hv => ?_⟩)
  · go_simp
    exact lUpon_b hv
  subst hv
  go_simp
  refine hK _ ?_
  clear hK K
  refine lexM_step (fun K hK => ⟨by kernel_rfl, ⟨_, rfl⟩, fun v hv => ?_, fun v hv => ?_⟩)
  · go_simp
    exact lUpon_b hv
  subst hv
  go_simp
  refine hK _ ?_
  clear hK K
  refine lexM_step (fun K hK => ⟨by kernel_rfl, ⟨_, rfl⟩, fun v hv => ?_, fun v hv => ?_⟩)
  · obtain ⟨⟨c0, c1, c2, c3, c4, c5, c6, c7, c8⟩, _⟩ := nine_at (unhideR HT _ hv).1
    go_simp
    exact lUpon_b hv
  subst hv
  go_simp
  refine hK _ ?_
  clear hK K
  refine lexM_step (fun K hK => ⟨by kernel_rfl, fset_some _, fun v hv => ?_, fun v hv => ?_⟩)
  · go_simp
    refine (along_any x0 x1 x2 _ x y z _ (unhideR HT _ hv).2.1).mono ?_
    rintro e w1 ⟨r, rfl, hr, k⟩
    exact ⟨_, rfl, ⟨r, rfl, hr⟩, below_on2 hv (Nat.le_refl _) k⟩
  obtain ⟨r0, rfl, e0⟩ := hv
  go_simp
  refine hK _ ?_
  clear hK K
  have E0 := hideR e0
  clear e0
  refine lexM_step (fun K hK => ⟨by kernel_rfl, ⟨_, rfl⟩, fun v hv => ?_, fun v hv => ?_⟩)
  · go_simp
    exact lUpon_b hv
  subst hv
  go_simp
  refine hK _ ?_
  clear hK K
  refine lexM_step (fun K hK => ⟨by kernel_rfl, ⟨_, rfl⟩, fun v hv => ?_, fun v hv => ?_⟩)
  · go_simp
    exact lUpon_b hv
  subst hv
  go_simp
  refine hK _ ?_
  clear hK K
  refine lexM_step (fun K hK => ⟨by kernel_rfl, ⟨_, rfl⟩, fun v hv => ?_, fun v hv => ?_⟩)
  · obtain ⟨⟨c0, c1, c2, c3, c4, c5, c6, c7, c8⟩, _⟩ := nine_at (unhideR HT _ hv).1
    go_simp
    exact lUpon_b hv
  subst hv
  go_simp
  refine hK _ ?_
  clear hK K
  refine lexM_step (fun K hK => ⟨by kernel_rfl, fset_some _, fun v hv => ?_, fun v hv => ?_⟩)
  · go_simp
    refine (along_any x3 x4 x5 _ x y z _ (unhideR HT _ hv).2.1).mono ?_
    rintro e w1 ⟨r, rfl, hr, k⟩
    exact ⟨_, rfl, ⟨r, rfl, hr⟩, below_on2 hv (Nat.le_refl _) k⟩
  obtain ⟨r1, rfl, e1⟩ := hv
  go_simp
  refine hK _ ?_
  clear hK K
  have E1 := hideR e1
  clear e1
  refine lexM_step (fun K hK => ⟨by kernel_rfl, ⟨_, rfl⟩, fun v hv => ?_, fun v hv => ?_⟩)
  · go_simp
    exact lUpon_b hv
  subst hv
  go_simp
  refine hK _ ?_
  clear hK K
  refine lexM_step (fun K hK => ⟨by kernel_rfl, ⟨_, rfl⟩, fun v hv => ?_, fun v hv => ?_⟩)
  · go_simp
    exact lUpon_b hv
  subst hv
  go_simp
  refine hK _ ?_
  clear hK K
  refine lexM_step (fun K hK => ⟨by kernel_rfl, ⟨_, rfl⟩, fun v hv => ?_, fun v hv => ?_⟩)
  · obtain ⟨⟨c0, c1, c2, c3, c4, c5, c6, c7, c8⟩, _⟩ := nine_at (unhideR HT _ hv).1
    go_simp
    exact lUpon_b hv
  subst hv
  go_simp
  refine hK _ ?_
  clear hK K
  refine lexM_step (fun K hK => ⟨by kernel_rfl, fset_some _, fun v hv => ?_, fun v hv => ?_⟩)
  · go_simp
    refine (along_any x6 x7 x8 _ x y z _ (unhideR HT _ hv).2.1).mono ?_
    rintro e w1 ⟨r, rfl, hr, k⟩
    exact ⟨_, rfl, ⟨r, rfl, hr⟩, below_on2 hv (Nat.le_refl _) k⟩
  obtain ⟨r2, rfl, e2⟩ := hv
  go_simp
  refine hK _ ?_
  clear hK K
  have E2 := hideR e2
  clear e2
  refine lexM_step (fun K hK => ⟨by kernel_rfl, vset_some _ _ _, fun v hv => ?_, fun v hv => ?_⟩)
  · go_simp
    exact ⟨hv, _, _, _, rfl, unhideR E0, unhideR E1, unhideR E2⟩
  obtain ⟨p, q, r, rfl, e0, e1, e2⟩ := hv
  go_simp
  refine hK _ ?_
  clear hK K
  have E := hideR (And.intro e0 (And.intro e1 e2))
  clear e0 e1 e2 E0 E1 E2
  refine lexM_end (o := _) rfl (by kernel_rfl) (fun v hv => ?_)
  obtain ⟨_, _, h2, hBw⟩ := unhideR HT _ hv
  obtain ⟨⟨j0, j1, j2⟩, f0, f1, f2⟩ := three_at h2
  have HB := hideR hBw
  clear h2 hBw
  unfold Oper.wp
  go_simp
  go_wp2
  simp [bodyPost, results, Try.results32, go_sem, j0, j1, j2]
  exact ⟨p, q, r, ⟨rfl, rfl, rfl⟩, (unhideR E).1, (unhideR E).2.1, (unhideR E).2.2, (((unhideR HB).setCell (by show w.heap.size ≤ w.heap.size + 1 + 1; omega) _).setCell (by show w.heap.size ≤ w.heap.size + 1 + 1; omega) _).setCell (by show w.heap.size ≤ w.heap.size + 1 + 1; omega) _⟩
theorem numbers_any (x y z : Nat) (w : World) : Calls Try.prog 65 #[.agg #[.float .f64 x, .float .f64 y, .float .f64 z]] w fun e v' => e = .returned (.agg #[.float .f64 x, .float .f64 y, .float .f64 z]) ∧ Below w.heap.size w v' := by
  have hsf := run_store_float Try.prog
  go_enter Try.func65, Try.ntmps65
  go_wp2
  simp [bodyPost, results, Try.results65, go_sem]
  exact below_al2 w _ _
theorem run_ixm0 (x0 x1 x2 x3 x4 x5 x6 x7 x8 : Nat) (v : World) : (Instr.index 50 (.agg #[.float .f64 x0, .float .f64 x1, .float .f64 x2, .float .f64 x3, .float .f64 x4, .float .f64 x5, .float .f64 x6, .float .f64 x7, .float .f64 x8]) (.int .i64 0)).run Try.prog v = .ok (.agg #[.float .f64 x0, .float .f64 x1, .float .f64 x2]) v := by kernel_rfl
theorem run_ixr0 (x0 x1 x2 : Nat) (v : World) : (Instr.index 80 (.agg #[.float .f64 x0, .float .f64 x1, .float .f64 x2]) (.int .i64 0)).run Try.prog v = .ok (.float .f64 x0) v := by kernel_rfl
theorem run_ixm1 (x0 x1 x2 x3 x4 x5 x6 x7 x8 : Nat) (v : World) : (Instr.index 50 (.agg #[.float .f64 x0, .float .f64 x1, .float .f64 x2, .float .f64 x3, .float .f64 x4, .float .f64 x5, .float .f64 x6, .float .f64 x7, .float .f64 x8]) (.int .i64 1)).run Try.prog v = .ok (.agg #[.float .f64 x3, .float .f64 x4, .float .f64 x5]) v := by kernel_rfl
theorem run_ixr1 (x0 x1 x2 : Nat) (v : World) : (Instr.index 80 (.agg #[.float .f64 x0, .float .f64 x1, .float .f64 x2]) (.int .i64 1)).run Try.prog v = .ok (.float .f64 x1) v := by kernel_rfl
theorem run_ixm2 (x0 x1 x2 x3 x4 x5 x6 x7 x8 : Nat) (v : World) : (Instr.index 50 (.agg #[.float .f64 x0, .float .f64 x1, .float .f64 x2, .float .f64 x3, .float .f64 x4, .float .f64 x5, .float .f64 x6, .float .f64 x7, .float .f64 x8]) (.int .i64 2)).run Try.prog v = .ok (.agg #[.float .f64 x6, .float .f64 x7, .float .f64 x8]) v := by kernel_rfl
theorem run_ixr2 (x0 x1 x2 : Nat) (v : World) : (Instr.index 80 (.agg #[.float .f64 x0, .float .f64 x1, .float .f64 x2]) (.int .i64 2)).run Try.prog v = .ok (.float .f64 x2) v := by kernel_rfl
theorem row_step0 {w : World} {b : Nat} {t : TypeId} {r y0 y1 y2 : Nat} (h : w.heap[b]? = some (.cells #[.float .f64 y0, .float .f64 y1, .float .f64 y2] t (0, 0))) : (w.setCell ⟨b, 0, none⟩ (.float .f64 r)).heap[b]? = some (.cells #[.float .f64 r, .float .f64 y1, .float .f64 y2] t (0, 0)) := by
  rw [heap_setCell_same _ _ _ _ _ _ h]
  simp
theorem row_step1 {w : World} {b : Nat} {t : TypeId} {r y0 y1 y2 : Nat} (h : w.heap[b]? = some (.cells #[.float .f64 y0, .float .f64 y1, .float .f64 y2] t (0, 0))) : (w.setCell ⟨b, 1, none⟩ (.float .f64 r)).heap[b]? = some (.cells #[.float .f64 y0, .float .f64 r, .float .f64 y2] t (0, 0)) := by
  rw [heap_setCell_same _ _ _ _ _ _ h]
  simp
theorem row_step2 {w : World} {b : Nat} {t : TypeId} {r y0 y1 y2 : Nat} (h : w.heap[b]? = some (.cells #[.float .f64 y0, .float .f64 y1, .float .f64 y2] t (0, 0))) : (w.setCell ⟨b, 2, none⟩ (.float .f64 r)).heap[b]? = some (.cells #[.float .f64 y0, .float .f64 y1, .float .f64 r] t (0, 0)) := by
  rw [heap_setCell_same _ _ _ _ _ _ h]
  simp
set_option maxHeartbeats 8000000 in
theorem turnrow0 (bm x0 x1 x2 x3 x4 x5 x6 x7 x8 : Nat) (w : World) (hv : w.heap[bm]? = some (.cells (nine x0 x1 x2 x3 x4 x5 x6 x7 x8) 50)) :
    Calls Try.prog 64 #[.int .i64 0, .pointer (some ⟨bm, 0, none⟩)] w fun e v' => e = .returned (.agg #[.float .f64 x0, .float .f64 x3, .float .f64 x6]) ∧ Below w.heap.size w v' := by
  have hsf := run_store_float Try.prog
  have lv : bm < w.heap.size := (Array.getElem?_eq_some_iff.1 hv).1
  obtain ⟨⟨c0, c1, c2, c3, c4, c5, c6, c7, c8⟩, _⟩ := nine_at hv
  clear hv
  have i0 := run_ixm0
  have i1 := run_ixm1
  have i2 := run_ixm2
  have j0 := run_ixr0
  have j1 := run_ixr1
  have j2 := run_ixr2
  go_enter Try.func64, Try.ntmps64
  go_wp2
  go_loopw [8] (fun kv wl => ∃ k y0 y1 y2 : Nat, k ≤ 3 ∧ kv = .int .i64 (k : Nat) ∧ wl.heap[w.heap.size + 1]? = some (.cells #[.float .f64 y0, .float .f64 y1, .float .f64 y2] 80 (0, 0)) ∧ wl.heap[w.heap.size]? = some (.cells #[.float .f64 0, .float .f64 0, .float .f64 0] 80 (0, 0)) ∧ (0 < k → y0 = x0) ∧ (1 < k → y1 = x3) ∧ (2 < k → y2 = x6) ∧ Below w.heap.size w wl) (fun kv _ => 3 - (intOf kv).toNat)
  case atStart =>
    refine ⟨0, 0, 0, 0, by omega, rfl, ?_, ?_, fun h => absurd h (by omega), fun h => absurd h (by omega), fun h => absurd h (by omega), below_al2 w _ _⟩
    · exact (two_blocks (Below.refl _ _)).2.1
    · exact (two_blocks (Below.refl _ _)).1
  case round =>
    clear c0 c1 c2 c3 c4 c5 c6 c7 c8
    obtain ⟨k, y0, y1, y2, hk, rfl, h1, h0, g0, g1, g2, hB⟩ := hrel
    rcases (show k = 0 ∨ k = 1 ∨ k = 2 ∨ k = 3 by omega) with rfl | rfl | rfl | rfl
    · have hl1 : w.heap.size + 1 < wr.heap.size := (Array.getElem?_eq_some_iff.1 h1).1
      go_wp2_with fail
      refine (numbers_any _ _ _ _).mono ?_
      rintro e w2 ⟨rfl, k2⟩
      have hs2 : wr.heap.size + 1 ≤ w2.heap.size := by simpa using k2.size
      have b1 := (k2.block (w.heap.size + 1) (by simp; omega)).trans ((alloc_block hl1).trans h1)
      have b0 := (k2.block w.heap.size (by simp; omega)).trans ((alloc_block (by omega)).trans h0)
      have HB := hideR (below_go (hB.alloc (by omega) _) k2)
      have G := hideR (And.intro g0 g1)
      obtain ⟨⟨e0, e1, e2⟩, f0, f1, f2⟩ := three_at b1
      have B1 := hideR b1
      have B0 := hideR b0
      clear hB k2 h1 h0 g0 g1 g2 b1 b0
      go_wp2
      obtain ⟨g0, g1⟩ := unhideR G
      exact ⟨⟨1, x0, y1, y2, by omega, rfl, row_step0 (unhideR B1), (heap_setCell_other _ _ _ _ (by show w.heap.size ≠ w.heap.size + 1; omega)).trans (unhideR B0), fun _ => rfl, fun h => absurd h (by omega), fun h => absurd h (by omega), (unhideR HB).setCell (by show w.heap.size ≤ w.heap.size + 1; omega) _⟩, by simp [intOf]⟩
    · have hl1 : w.heap.size + 1 < wr.heap.size := (Array.getElem?_eq_some_iff.1 h1).1
      go_wp2_with fail
      refine (numbers_any _ _ _ _).mono ?_
      rintro e w2 ⟨rfl, k2⟩
      have hs2 : wr.heap.size + 1 ≤ w2.heap.size := by simpa using k2.size
      have b1 := (k2.block (w.heap.size + 1) (by simp; omega)).trans ((alloc_block hl1).trans h1)
      have b0 := (k2.block w.heap.size (by simp; omega)).trans ((alloc_block (by omega)).trans h0)
      have HB := hideR (below_go (hB.alloc (by omega) _) k2)
      have G := hideR (And.intro g0 g1)
      obtain ⟨⟨e0, e1, e2⟩, f0, f1, f2⟩ := three_at b1
      have B1 := hideR b1
      have B0 := hideR b0
      clear hB k2 h1 h0 g0 g1 g2 b1 b0
      go_wp2
      obtain ⟨g0, g1⟩ := unhideR G
      exact ⟨⟨2, y0, x3, y2, by omega, rfl, row_step1 (unhideR B1), (heap_setCell_other _ _ _ _ (by show w.heap.size ≠ w.heap.size + 1; omega)).trans (unhideR B0), fun _ => g0 (by omega), fun _ => rfl, fun h => absurd h (by omega), (unhideR HB).setCell (by show w.heap.size ≤ w.heap.size + 1; omega) _⟩, by simp [intOf]⟩
    · have hl1 : w.heap.size + 1 < wr.heap.size := (Array.getElem?_eq_some_iff.1 h1).1
      go_wp2_with fail
      refine (numbers_any _ _ _ _).mono ?_
      rintro e w2 ⟨rfl, k2⟩
      have hs2 : wr.heap.size + 1 ≤ w2.heap.size := by simpa using k2.size
      have b1 := (k2.block (w.heap.size + 1) (by simp; omega)).trans ((alloc_block hl1).trans h1)
      have b0 := (k2.block w.heap.size (by simp; omega)).trans ((alloc_block (by omega)).trans h0)
      have HB := hideR (below_go (hB.alloc (by omega) _) k2)
      have G := hideR (And.intro g0 g1)
      obtain ⟨⟨e0, e1, e2⟩, f0, f1, f2⟩ := three_at b1
      have B1 := hideR b1
      have B0 := hideR b0
      clear hB k2 h1 h0 g0 g1 g2 b1 b0
      go_wp2
      obtain ⟨g0, g1⟩ := unhideR G
      exact ⟨⟨3, y0, y1, x6, by omega, rfl, row_step2 (unhideR B1), (heap_setCell_other _ _ _ _ (by show w.heap.size ≠ w.heap.size + 1; omega)).trans (unhideR B0), fun _ => g0 (by omega), fun _ => g1 (by omega), fun _ => rfl, (unhideR HB).setCell (by show w.heap.size ≤ w.heap.size + 1; omega) _⟩, by simp [intOf]⟩
    · obtain rfl := g0 (by omega)
      obtain rfl := g1 (by omega)
      obtain rfl := g2 (by omega)
      obtain ⟨⟨e0, e1, e2⟩, _⟩ := three_at h1
      obtain ⟨⟨d0, d1, d2⟩, f0, f1, f2⟩ := three_at h0
      have HB := hideR hB
      clear h0 h1 hB g0 g1 g2
      go_wp2
      simp [bodyPost, results, Try.results64, go_sem, d0, d1, d2]
      exact (((unhideR HB).setCell (Nat.le_refl _) _).setCell (Nat.le_refl _) _).setCell (Nat.le_refl _) _
set_option maxHeartbeats 8000000 in
theorem turnrow1 (bm x0 x1 x2 x3 x4 x5 x6 x7 x8 : Nat) (w : World) (hv : w.heap[bm]? = some (.cells (nine x0 x1 x2 x3 x4 x5 x6 x7 x8) 50)) :
    Calls Try.prog 64 #[.int .i64 1, .pointer (some ⟨bm, 0, none⟩)] w fun e v' => e = .returned (.agg #[.float .f64 x1, .float .f64 x4, .float .f64 x7]) ∧ Below w.heap.size w v' := by
  have hsf := run_store_float Try.prog
  have lv : bm < w.heap.size := (Array.getElem?_eq_some_iff.1 hv).1
  obtain ⟨⟨c0, c1, c2, c3, c4, c5, c6, c7, c8⟩, _⟩ := nine_at hv
  clear hv
  have i0 := run_ixm0
  have i1 := run_ixm1
  have i2 := run_ixm2
  have j0 := run_ixr0
  have j1 := run_ixr1
  have j2 := run_ixr2
  go_enter Try.func64, Try.ntmps64
  go_wp2
  go_loopw [8] (fun kv wl => ∃ k y0 y1 y2 : Nat, k ≤ 3 ∧ kv = .int .i64 (k : Nat) ∧ wl.heap[w.heap.size + 1]? = some (.cells #[.float .f64 y0, .float .f64 y1, .float .f64 y2] 80 (0, 0)) ∧ wl.heap[w.heap.size]? = some (.cells #[.float .f64 0, .float .f64 0, .float .f64 0] 80 (0, 0)) ∧ (0 < k → y0 = x1) ∧ (1 < k → y1 = x4) ∧ (2 < k → y2 = x7) ∧ Below w.heap.size w wl) (fun kv _ => 3 - (intOf kv).toNat)
  case atStart =>
    refine ⟨0, 0, 0, 0, by omega, rfl, ?_, ?_, fun h => absurd h (by omega), fun h => absurd h (by omega), fun h => absurd h (by omega), below_al2 w _ _⟩
    · exact (two_blocks (Below.refl _ _)).2.1
    · exact (two_blocks (Below.refl _ _)).1
  case round =>
    clear c0 c1 c2 c3 c4 c5 c6 c7 c8
    obtain ⟨k, y0, y1, y2, hk, rfl, h1, h0, g0, g1, g2, hB⟩ := hrel
    rcases (show k = 0 ∨ k = 1 ∨ k = 2 ∨ k = 3 by omega) with rfl | rfl | rfl | rfl
    · have hl1 : w.heap.size + 1 < wr.heap.size := (Array.getElem?_eq_some_iff.1 h1).1
      go_wp2_with fail
      refine (numbers_any _ _ _ _).mono ?_
      rintro e w2 ⟨rfl, k2⟩
      have hs2 : wr.heap.size + 1 ≤ w2.heap.size := by simpa using k2.size
      have b1 := (k2.block (w.heap.size + 1) (by simp; omega)).trans ((alloc_block hl1).trans h1)
      have b0 := (k2.block w.heap.size (by simp; omega)).trans ((alloc_block (by omega)).trans h0)
      have HB := hideR (below_go (hB.alloc (by omega) _) k2)
      have G := hideR (And.intro g0 g1)
      obtain ⟨⟨e0, e1, e2⟩, f0, f1, f2⟩ := three_at b1
      have B1 := hideR b1
      have B0 := hideR b0
      clear hB k2 h1 h0 g0 g1 g2 b1 b0
      go_wp2
      obtain ⟨g0, g1⟩ := unhideR G
      exact ⟨⟨1, x1, y1, y2, by omega, rfl, row_step0 (unhideR B1), (heap_setCell_other _ _ _ _ (by show w.heap.size ≠ w.heap.size + 1; omega)).trans (unhideR B0), fun _ => rfl, fun h => absurd h (by omega), fun h => absurd h (by omega), (unhideR HB).setCell (by show w.heap.size ≤ w.heap.size + 1; omega) _⟩, by simp [intOf]⟩
    · have hl1 : w.heap.size + 1 < wr.heap.size := (Array.getElem?_eq_some_iff.1 h1).1
      go_wp2_with fail
      refine (numbers_any _ _ _ _).mono ?_
      rintro e w2 ⟨rfl, k2⟩
      have hs2 : wr.heap.size + 1 ≤ w2.heap.size := by simpa using k2.size
      have b1 := (k2.block (w.heap.size + 1) (by simp; omega)).trans ((alloc_block hl1).trans h1)
      have b0 := (k2.block w.heap.size (by simp; omega)).trans ((alloc_block (by omega)).trans h0)
      have HB := hideR (below_go (hB.alloc (by omega) _) k2)
      have G := hideR (And.intro g0 g1)
      obtain ⟨⟨e0, e1, e2⟩, f0, f1, f2⟩ := three_at b1
      have B1 := hideR b1
      have B0 := hideR b0
      clear hB k2 h1 h0 g0 g1 g2 b1 b0
      go_wp2
      obtain ⟨g0, g1⟩ := unhideR G
      exact ⟨⟨2, y0, x4, y2, by omega, rfl, row_step1 (unhideR B1), (heap_setCell_other _ _ _ _ (by show w.heap.size ≠ w.heap.size + 1; omega)).trans (unhideR B0), fun _ => g0 (by omega), fun _ => rfl, fun h => absurd h (by omega), (unhideR HB).setCell (by show w.heap.size ≤ w.heap.size + 1; omega) _⟩, by simp [intOf]⟩
    · have hl1 : w.heap.size + 1 < wr.heap.size := (Array.getElem?_eq_some_iff.1 h1).1
      go_wp2_with fail
      refine (numbers_any _ _ _ _).mono ?_
      rintro e w2 ⟨rfl, k2⟩
      have hs2 : wr.heap.size + 1 ≤ w2.heap.size := by simpa using k2.size
      have b1 := (k2.block (w.heap.size + 1) (by simp; omega)).trans ((alloc_block hl1).trans h1)
      have b0 := (k2.block w.heap.size (by simp; omega)).trans ((alloc_block (by omega)).trans h0)
      have HB := hideR (below_go (hB.alloc (by omega) _) k2)
      have G := hideR (And.intro g0 g1)
      obtain ⟨⟨e0, e1, e2⟩, f0, f1, f2⟩ := three_at b1
      have B1 := hideR b1
      have B0 := hideR b0
      clear hB k2 h1 h0 g0 g1 g2 b1 b0
      go_wp2
      obtain ⟨g0, g1⟩ := unhideR G
      exact ⟨⟨3, y0, y1, x7, by omega, rfl, row_step2 (unhideR B1), (heap_setCell_other _ _ _ _ (by show w.heap.size ≠ w.heap.size + 1; omega)).trans (unhideR B0), fun _ => g0 (by omega), fun _ => g1 (by omega), fun _ => rfl, (unhideR HB).setCell (by show w.heap.size ≤ w.heap.size + 1; omega) _⟩, by simp [intOf]⟩
    · obtain rfl := g0 (by omega)
      obtain rfl := g1 (by omega)
      obtain rfl := g2 (by omega)
      obtain ⟨⟨e0, e1, e2⟩, _⟩ := three_at h1
      obtain ⟨⟨d0, d1, d2⟩, f0, f1, f2⟩ := three_at h0
      have HB := hideR hB
      clear h0 h1 hB g0 g1 g2
      go_wp2
      simp [bodyPost, results, Try.results64, go_sem, d0, d1, d2]
      exact (((unhideR HB).setCell (Nat.le_refl _) _).setCell (Nat.le_refl _) _).setCell (Nat.le_refl _) _
set_option maxHeartbeats 8000000 in
theorem turnrow2 (bm x0 x1 x2 x3 x4 x5 x6 x7 x8 : Nat) (w : World) (hv : w.heap[bm]? = some (.cells (nine x0 x1 x2 x3 x4 x5 x6 x7 x8) 50)) :
    Calls Try.prog 64 #[.int .i64 2, .pointer (some ⟨bm, 0, none⟩)] w fun e v' => e = .returned (.agg #[.float .f64 x2, .float .f64 x5, .float .f64 x8]) ∧ Below w.heap.size w v' := by
  have hsf := run_store_float Try.prog
  have lv : bm < w.heap.size := (Array.getElem?_eq_some_iff.1 hv).1
  obtain ⟨⟨c0, c1, c2, c3, c4, c5, c6, c7, c8⟩, _⟩ := nine_at hv
  clear hv
  have i0 := run_ixm0
  have i1 := run_ixm1
  have i2 := run_ixm2
  have j0 := run_ixr0
  have j1 := run_ixr1
  have j2 := run_ixr2
  go_enter Try.func64, Try.ntmps64
  go_wp2
  go_loopw [8] (fun kv wl => ∃ k y0 y1 y2 : Nat, k ≤ 3 ∧ kv = .int .i64 (k : Nat) ∧ wl.heap[w.heap.size + 1]? = some (.cells #[.float .f64 y0, .float .f64 y1, .float .f64 y2] 80 (0, 0)) ∧ wl.heap[w.heap.size]? = some (.cells #[.float .f64 0, .float .f64 0, .float .f64 0] 80 (0, 0)) ∧ (0 < k → y0 = x2) ∧ (1 < k → y1 = x5) ∧ (2 < k → y2 = x8) ∧ Below w.heap.size w wl) (fun kv _ => 3 - (intOf kv).toNat)
  case atStart =>
    refine ⟨0, 0, 0, 0, by omega, rfl, ?_, ?_, fun h => absurd h (by omega), fun h => absurd h (by omega), fun h => absurd h (by omega), below_al2 w _ _⟩
    · exact (two_blocks (Below.refl _ _)).2.1
    · exact (two_blocks (Below.refl _ _)).1
  case round =>
    clear c0 c1 c2 c3 c4 c5 c6 c7 c8
    obtain ⟨k, y0, y1, y2, hk, rfl, h1, h0, g0, g1, g2, hB⟩ := hrel
    rcases (show k = 0 ∨ k = 1 ∨ k = 2 ∨ k = 3 by omega) with rfl | rfl | rfl | rfl
    · have hl1 : w.heap.size + 1 < wr.heap.size := (Array.getElem?_eq_some_iff.1 h1).1
      go_wp2_with fail
      refine (numbers_any _ _ _ _).mono ?_
      rintro e w2 ⟨rfl, k2⟩
      have hs2 : wr.heap.size + 1 ≤ w2.heap.size := by simpa using k2.size
      have b1 := (k2.block (w.heap.size + 1) (by simp; omega)).trans ((alloc_block hl1).trans h1)
      have b0 := (k2.block w.heap.size (by simp; omega)).trans ((alloc_block (by omega)).trans h0)
      have HB := hideR (below_go (hB.alloc (by omega) _) k2)
      have G := hideR (And.intro g0 g1)
      obtain ⟨⟨e0, e1, e2⟩, f0, f1, f2⟩ := three_at b1
      have B1 := hideR b1
      have B0 := hideR b0
      clear hB k2 h1 h0 g0 g1 g2 b1 b0
      go_wp2
      obtain ⟨g0, g1⟩ := unhideR G
      exact ⟨⟨1, x2, y1, y2, by omega, rfl, row_step0 (unhideR B1), (heap_setCell_other _ _ _ _ (by show w.heap.size ≠ w.heap.size + 1; omega)).trans (unhideR B0), fun _ => rfl, fun h => absurd h (by omega), fun h => absurd h (by omega), (unhideR HB).setCell (by show w.heap.size ≤ w.heap.size + 1; omega) _⟩, by simp [intOf]⟩
    · have hl1 : w.heap.size + 1 < wr.heap.size := (Array.getElem?_eq_some_iff.1 h1).1
      go_wp2_with fail
      refine (numbers_any _ _ _ _).mono ?_
      rintro e w2 ⟨rfl, k2⟩
      have hs2 : wr.heap.size + 1 ≤ w2.heap.size := by simpa using k2.size
      have b1 := (k2.block (w.heap.size + 1) (by simp; omega)).trans ((alloc_block hl1).trans h1)
      have b0 := (k2.block w.heap.size (by simp; omega)).trans ((alloc_block (by omega)).trans h0)
      have HB := hideR (below_go (hB.alloc (by omega) _) k2)
      have G := hideR (And.intro g0 g1)
      obtain ⟨⟨e0, e1, e2⟩, f0, f1, f2⟩ := three_at b1
      have B1 := hideR b1
      have B0 := hideR b0
      clear hB k2 h1 h0 g0 g1 g2 b1 b0
      go_wp2
      obtain ⟨g0, g1⟩ := unhideR G
      exact ⟨⟨2, y0, x5, y2, by omega, rfl, row_step1 (unhideR B1), (heap_setCell_other _ _ _ _ (by show w.heap.size ≠ w.heap.size + 1; omega)).trans (unhideR B0), fun _ => g0 (by omega), fun _ => rfl, fun h => absurd h (by omega), (unhideR HB).setCell (by show w.heap.size ≤ w.heap.size + 1; omega) _⟩, by simp [intOf]⟩
    · have hl1 : w.heap.size + 1 < wr.heap.size := (Array.getElem?_eq_some_iff.1 h1).1
      go_wp2_with fail
      refine (numbers_any _ _ _ _).mono ?_
      rintro e w2 ⟨rfl, k2⟩
      have hs2 : wr.heap.size + 1 ≤ w2.heap.size := by simpa using k2.size
      have b1 := (k2.block (w.heap.size + 1) (by simp; omega)).trans ((alloc_block hl1).trans h1)
      have b0 := (k2.block w.heap.size (by simp; omega)).trans ((alloc_block (by omega)).trans h0)
      have HB := hideR (below_go (hB.alloc (by omega) _) k2)
      have G := hideR (And.intro g0 g1)
      obtain ⟨⟨e0, e1, e2⟩, f0, f1, f2⟩ := three_at b1
      have B1 := hideR b1
      have B0 := hideR b0
      clear hB k2 h1 h0 g0 g1 g2 b1 b0
      go_wp2
      obtain ⟨g0, g1⟩ := unhideR G
      exact ⟨⟨3, y0, y1, x8, by omega, rfl, row_step2 (unhideR B1), (heap_setCell_other _ _ _ _ (by show w.heap.size ≠ w.heap.size + 1; omega)).trans (unhideR B0), fun _ => g0 (by omega), fun _ => g1 (by omega), fun _ => rfl, (unhideR HB).setCell (by show w.heap.size ≤ w.heap.size + 1; omega) _⟩, by simp [intOf]⟩
    · obtain rfl := g0 (by omega)
      obtain rfl := g1 (by omega)
      obtain rfl := g2 (by omega)
      obtain ⟨⟨e0, e1, e2⟩, _⟩ := three_at h1
      obtain ⟨⟨d0, d1, d2⟩, f0, f1, f2⟩ := three_at h0
      have HB := hideR hB
      clear h0 h1 hB g0 g1 g2
      go_wp2
      simp [bodyPost, results, Try.results64, go_sem, d0, d1, d2]
      exact (((unhideR HB).setCell (Nat.le_refl _) _).setCell (Nat.le_refl _) _).setCell (Nat.le_refl _) _
def ColRel (x0 x1 x2 x3 x4 x5 x6 x7 x8 i r0 r1 r2 : Nat) : Prop := (i = 0 → r0 = x0 ∧ r1 = x3 ∧ r2 = x6) ∧ (i = 1 → r0 = x1 ∧ r1 = x4 ∧ r2 = x7) ∧ (i = 2 → r0 = x2 ∧ r1 = x5 ∧ r2 = x8)
set_option maxHeartbeats 8000000 in
theorem turned_any (x0 x1 x2 x3 x4 x5 x6 x7 x8 : Nat) (w : World) : Calls Try.prog 34 #[.agg (nine x0 x1 x2 x3 x4 x5 x6 x7 x8)] w fun e w' => e = .returned (.agg (nine x0 x3 x6 x1 x4 x7 x2 x5 x8)) ∧ Below w.heap.size w w' := by
  have hsf := run_store_float Try.prog
  have hmf : ∀ (fn : Fn) (first cap : Array Value) (w : World), (Instr.makeFunc fn first cap).run Try.prog w = .ok (.func fn first cap) w := fun _ _ _ _ => rfl
  have e9 : nine x0 x1 x2 x3 x4 x5 x6 x7 x8 = #[.float .f64 x0, .float .f64 x1, .float .f64 x2, .float .f64 x3, .float .f64 x4, .float .f64 x5, .float .f64 x6, .float .f64 x7, .float .f64 x8] := rfl
  rw [e9]
  clear e9
  go_enter Try.func34, Try.ntmps34
  go_wp2_with fail
  refine (madeT_any (ColRel x0 x1 x2 x3 x4 x5 x6 x7 x8) _ _ ?_).mono ?_
  · intro i hi v hv
    obtain ⟨h0, _, _⟩ := two_blocks hv
    rcases (show i = 0 ∨ i = 1 ∨ i = 2 by omega) with rfl | rfl | rfl
    · refine (turnrow0 _ x0 x1 x2 x3 x4 x5 x6 x7 x8 v h0).mono ?_
      rintro e v2 ⟨rfl, k⟩
      exact ⟨_, _, _, rfl, ⟨fun _ => ⟨rfl, rfl, rfl⟩, fun h => absurd h (by decide), fun h => absurd h (by decide)⟩, k⟩
    · refine (turnrow1 _ x0 x1 x2 x3 x4 x5 x6 x7 x8 v h0).mono ?_
      rintro e v2 ⟨rfl, k⟩
      exact ⟨_, _, _, rfl, ⟨fun h => absurd h (by decide), fun _ => ⟨rfl, rfl, rfl⟩, fun h => absurd h (by decide)⟩, k⟩
    · refine (turnrow2 _ x0 x1 x2 x3 x4 x5 x6 x7 x8 v h0).mono ?_
      rintro e v2 ⟨rfl, k⟩
      exact ⟨_, _, _, rfl, ⟨fun h => absurd h (by decide), fun h => absurd h (by decide), fun _ => ⟨rfl, rfl, rfl⟩⟩, k⟩
  rintro e w1 ⟨y0, y1, y2, y3, y4, y5, y6, y7, y8, rfl, hM, hB⟩
  obtain ⟨rfl, rfl, rfl⟩ := (hM.a (by omega)).1 rfl
  obtain ⟨rfl, rfl, rfl⟩ := (hM.b (by omega)).2.1 rfl
  obtain ⟨rfl, rfl, rfl⟩ := (hM.c (by omega)).2.2 rfl
  obtain ⟨_, h1, hBw⟩ := two_blocks hB
  obtain ⟨⟨d0, d1, d2, d3, d4, d5, d6, d7, d8⟩, df⟩ := nine_at (x0 := 0) (x1 := 0) (x2 := 0) (x3 := 0) (x4 := 0) (x5 := 0) (x6 := 0) (x7 := 0) (x8 := 0) h1
  have f0 := df 0 (by omega)
  have f1 := df 1 (by omega)
  have f2 := df 2 (by omega)
  have f3 := df 3 (by omega)
  have f4 := df 4 (by omega)
  have f5 := df 5 (by omega)
  have f6 := df 6 (by omega)
  have f7 := df 7 (by omega)
  have f8 := df 8 (by omega)
  have HB := hideR hBw
  clear df h1 hB hBw hM
  unfold nine
  go_wp2
  simp [bodyPost, results, Try.results34, go_sem, d0, d1, d2, d3, d4, d5, d6, d7, d8]
  first
    | exact ⟨rfl, below_nine (b := w.heap.size + 1) (unhideR HB) (by omega) _ _ _ _ _ _ _ _ _⟩
    | (refine ⟨?_, below_nine (b := w.heap.size + 1) (unhideR HB) (by omega) _ _ _ _ _ _ _ _ _⟩; simp [nine])
end Go.Proofs.Ytbobnmaeiohnnad
