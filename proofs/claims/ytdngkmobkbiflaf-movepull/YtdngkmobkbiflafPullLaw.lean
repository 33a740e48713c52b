/-
  The law MovePull: its walk, out of the program's Pull by its contract.
-/
import Derived.Test.YtdngkmobkbiflafPullW
namespace Go.Proofs.Ytdngkmobkbiflaf
open Go Go.RowKit

def PullOK : Prop := ∀ (d : Cl) (w : World), Calls Try.prog 8 #[.agg #[.int .i64 d.x, .int .i64 d.y, .int .i64 d.z]] w fun e w' => e = .returned (pullV d).val ∧ Below w.heap.size w w'
theorem pull100 : pullV ⟨100, 0, 0⟩ = ⟨98788, 0, 0⟩ := by decide +kernel
set_option maxRecDepth 100000 in
set_option maxHeartbeats 3200000 in
theorem pull_walk (hP : PullOK) (d : Cl) (w : World) : Calls Try.prog 4 #[.agg #[.int .i64 d.x, .int .i64 d.y, .int .i64 d.z]] w fun e w' => e = .returned (.bool true) ∧ Below w.heap.size w w' := by
  have h1 := hP ⟨100, 0, 0⟩
  rw [pull100] at h1
  unfold Cl.val at h1
  have h2 := hP d
  have h3 := hP d.neg
  have hdoc := fun u => pullOf_any d u
  rw [pullV_neg] at h3
  have hz := pullV_size d
  generalize pullV d = P at *
  clear hP
  unfold Cl.val Cl.neg at h3
  unfold Cl.val at h2
  go_enter Try.func4, Try.ntmps4
  go_wp2_with fail
  refine (h1 _).mono ?_
  rintro e w1 ⟨rfl, k1⟩
  have H0 := hideR ((CBox.new w d).go k1)
  have HW := hideR (below_go (below_a w _) k1)
  clear k1 h1
  have h0' := (unhideR H0).go (below_a w1 (.cells #[.int .i64 98788, .int .i64 0, .int .i64 0] 30))
  obtain ⟨⟨c0, c1, c2⟩, _⟩ := cell_at h0'.at_
  by_cases x1 : 1099511627776 < d.x
  · go_wp2
    go_ret
    exact ⟨rfl, below_go (unhideR HW) (below_a _ _)⟩
  by_cases x2 : d.x < -1099511627776
  · go_wp2
    go_ret
    exact ⟨rfl, below_go (unhideR HW) (below_a _ _)⟩
  by_cases y1 : 1099511627776 < d.y
  · go_wp2
    go_ret
    exact ⟨rfl, below_go (unhideR HW) (below_a _ _)⟩
  by_cases y2 : d.y < -1099511627776
  · go_wp2
    go_ret
    exact ⟨rfl, below_go (unhideR HW) (below_a _ _)⟩
  by_cases z1 : 1099511627776 < d.z
  · go_wp2
    go_ret
    exact ⟨rfl, below_go (unhideR HW) (below_a _ _)⟩
  by_cases z2 : d.z < -1099511627776
  · go_wp2
    go_ret
    exact ⟨rfl, below_go (unhideR HW) (below_a _ _)⟩
  have x1' : d.x ≤ 1099511627776 := by omega
  have x2' : -1099511627776 ≤ d.x := by omega
  have y1' : d.y ≤ 1099511627776 := by omega
  have y2' : -1099511627776 ≤ d.y := by omega
  have z1' : d.z ≤ 1099511627776 := by omega
  have z2' : -1099511627776 ≤ d.z := by omega
  obtain ⟨p1, p2, p3, p4, p5, p6⟩ := hz
  have hw1 : IntKind.i64.wrap (-P.x) = -P.x := iwrap (by omega) (by omega)
  have hw2 : IntKind.i64.wrap (-P.y) = -P.y := iwrap (by omega) (by omega)
  have hw3 : IntKind.i64.wrap (-P.z) = -P.z := iwrap (by omega) (by omega)
  clear x1 x2 y1 y2 z1 z2
  have H3 := hideR (CBox.new w1 ⟨98788, 0, 0⟩)
  replace HW := hideR (below_go (unhideR HW) (below_a w1 (.cells #[.int .i64 98788, .int .i64 0, .int .i64 0] 30)))
  have l0 := ltB (unhideR H0).at_
  replace H0 := hideR h0'
  clear h0'
  go_wp2_with fail
  obtain ⟨g3, hg3⟩ : ∃ g, w1.heap.size = g := ⟨_, rfl⟩
  rw [hg3] at H3 l0 ⊢
  clear hg3 c0 c1 c2
  generalize w1.alloc (.cells #[.int .i64 98788, .int .i64 0, .int .i64 0] 30) = W1 at *
  refine (h2 _).mono ?_
  rintro e w2 ⟨rfl, k2⟩
  replace H0 := hideR ((unhideR H0).go k2)
  replace H3 := hideR ((unhideR H3).go k2)
  replace HW := hideR (below_go (unhideR HW) k2)
  clear k2 h2
  obtain ⟨⟨e0, e1, e2⟩, f0, f1, f2⟩ := cell_at (unhideR H3).at_
  have H3n := hideR ((unhideR H3).set P)
  have HWn := hideR (below_three (unhideR HW) (show w.heap.size ≤ g3 by omega) (.int .i64 P.x) (.int .i64 P.y) (.int .i64 P.z))
  have H0n := hideR ((unhideR H0).other (show w.heap.size ≠ g3 by omega) (.int .i64 P.x) (.int .i64 P.y) (.int .i64 P.z))
  obtain ⟨⟨c0, c1, c2⟩, _⟩ := cell_at (unhideR H0n).at_
  go_wp2_with fail
  clear e0 e1 e2 f0 f1 f2 c0 c1 c2 H3 HW H0
  generalize ((w2.setCell ⟨g3, 0, none⟩ (.int .i64 P.x)).setCell ⟨g3, 1, none⟩ (.int .i64 P.y)).setCell ⟨g3, 2, none⟩ (.int .i64 P.z) = W2 at *
  refine (h3 _).mono ?_
  rintro e w3 ⟨rfl, k3⟩
  have H0 := hideR ((unhideR H0n).go k3)
  have H3 := hideR ((unhideR H3n).go k3)
  have HW := hideR (below_go (unhideR HWn) k3)
  clear k3 h3 H0n H3n HWn
  have H4 := hideR (CBox.new w3 ⟨-P.x, -P.y, -P.z⟩)
  have l3 := ltB (unhideR H3).at_
  replace H0 := hideR ((unhideR H0).go (below_a w3 (.cells #[.int .i64 (-P.x), .int .i64 (-P.y), .int .i64 (-P.z)] 30)))
  replace H3 := hideR ((unhideR H3).go (below_a w3 (.cells #[.int .i64 (-P.x), .int .i64 (-P.y), .int .i64 (-P.z)] 30)))
  replace HW := hideR (below_go (unhideR HW) (below_a w3 (.cells #[.int .i64 (-P.x), .int .i64 (-P.y), .int .i64 (-P.z)] 30)))
  go_wp2_with fail
  obtain ⟨g4, hg4⟩ : ∃ g, w3.heap.size = g := ⟨_, rfl⟩
  rw [hg4] at H4 l3 ⊢
  clear hg4
  · skip
    generalize w3.alloc (.cells #[.int .i64 (-P.x), .int .i64 (-P.y), .int .i64 (-P.z)] 30) = W3 at *
    refine wp_region_made 0 #[true, true, true, true, true, true, true, true, true, true, true, true, true, true, true, true, true, true, true, true, true, true, true, true, true, true, true, true, false] [.lets (· = .agg #[.int .i64 P.x, .int .i64 P.y, .int .i64 P.z]),
      .lets (· = .agg #[.int .i64 d.x, .int .i64 d.y, .int .i64 d.z]),
      .lets (· = P.val),
      .lets (· = .bool true),
      .lets (· = .bool true),
      .lets (· = .pointer (some ⟨g4, 0, none⟩)),
      .lets (· = .int .i64 (-P.x)),
      .lets (· = .pointer (some ⟨g3, 0, none⟩)),
      .lets (· = .int .i64 P.x),
      .lets (· = .int .i64 (-P.x)),
      .lets (· = .bool true),
      .lets (· = .bool true),
      .lets (· = .bool true),
      .lets (· = .pointer (some ⟨g4, 1, none⟩)),
      .lets (· = .int .i64 (-P.y)),
      .lets (· = .pointer (some ⟨g3, 1, none⟩)),
      .lets (· = .int .i64 P.y),
      .lets (· = .int .i64 (-P.y)),
      .lets (· = .bool true),
      .lets (· = .bool true),
      .lets (· = .bool true),
      .lets (· = .pointer (some ⟨g4, 2, none⟩)),
      .lets (· = .int .i64 (-P.z)),
      .lets (· = .pointer (some ⟨g3, 2, none⟩)),
      .lets (· = .int .i64 P.z),
      .lets (· = .int .i64 (-P.z)),
      .lets (· = .bool true),
      .lets (· = .bool true)] [] [] (by kernel_rfl) (by kernel_rfl) rfl ?kinds (by kernel_rfl) (by kernel_rfl) (by kernel_rfl) ?_
    case kinds =>
      constructor
      · intro i h
        rcases i with _ | _ | _ | _ | _ | _ | _ | _ | _ | _ | _ | _ | _ | _ | _ | _ | _ | _ | _ | _ | _ | _ | _ | _ | _ | _ | _ | _ | i <;> simp [Kx.isMade] at h
      · intro i h
        rcases i with _ | _ | _ | _ | _ | _ | _ | _ | _ | _ | _ | _ | _ | _ | _ | _ | _ | _ | _ | _ | _ | _ | _ | _ | _ | _ | _ | _ | i <;> simp [Kx.isUse] at h
    refine lexX_step (fun K hK => ⟨by kernel_rfl, ⟨_, rfl⟩, fun v hv => ?_, fun v hv => ?_⟩)
    · obtain ⟨⟨c0, c1, c2⟩, _⟩ := cell_at ((unhideR H3).go hv).at_
      go_simp
      exact mUpon_b
    subst hv
    go_simp
    refine hK _ ?_
    clear hK K
    refine lexX_step (fun K hK => ⟨by kernel_rfl, ⟨_, rfl⟩, fun v hv => ?_, fun v hv => ?_⟩)
    · obtain ⟨⟨c0, c1, c2⟩, _⟩ := cell_at ((unhideR H0).go hv).at_
      go_simp
      exact mUpon_b
    subst hv
    go_simp
    refine hK _ ?_
    clear hK K
    refine lexX_step (fun K hK => ⟨by kernel_rfl, ⟨_, rfl⟩, fun v hv => ?_, fun v hv => ?_⟩)
    · go_simp
      refine (hdoc _).mono ?_
      rintro e w9 ⟨rfl, k⟩
      exact ⟨_, rfl, rfl, k⟩
    subst hv
    unfold Cl.val
    go_simp
    refine hK _ ?_
    clear hK K
    refine lexX_step (fun K hK => ⟨by kernel_rfl, ⟨_, rfl⟩, fun v hv => ?_, fun v hv => ?_⟩)
    · go_simp
      exact mUpon_b
    subst hv
    go_simp
    refine hK _ ?_
    clear hK K
    refine lexX_step (fun K hK => ⟨by kernel_rfl, ⟨_, rfl⟩, fun v hv => ?_, fun v hv => ?_⟩)
    · go_simp
      exact mUpon_b
    subst hv
    go_simp
    refine hK _ ?_
    clear hK K
    refine lexX_step (fun K hK => ⟨by kernel_rfl, ⟨_, rfl⟩, fun v hv => ?_, fun v hv => ?_⟩)
    · go_simp
      exact mUpon_b
    subst hv
    go_simp
    refine hK _ ?_
    clear hK K
    refine lexX_step (fun K hK => ⟨by kernel_rfl, ⟨_, rfl⟩, fun v hv => ?_, fun v hv => ?_⟩)
    · obtain ⟨⟨c0, c1, c2⟩, _⟩ := cell_at ((unhideR H4).go hv).at_
      go_simp
      exact mUpon_b
    subst hv
    go_simp
    refine hK _ ?_
    clear hK K
    refine lexX_step (fun K hK => ⟨by kernel_rfl, ⟨_, rfl⟩, fun v hv => ?_, fun v hv => ?_⟩)
    · go_simp
      exact mUpon_b
    subst hv
    go_simp
    refine hK _ ?_
    clear hK K
    refine lexX_step (fun K hK => ⟨by kernel_rfl, ⟨_, rfl⟩, fun v hv => ?_, fun v hv => ?_⟩)
    · obtain ⟨⟨c0, c1, c2⟩, _⟩ := cell_at ((unhideR H3).go hv).at_
      go_simp
      exact mUpon_b
    subst hv
    go_simp
    refine hK _ ?_
    clear hK K
    refine lexX_step (fun K hK => ⟨by kernel_rfl, ⟨_, rfl⟩, fun v hv => ?_, fun v hv => ?_⟩)
    · go_simp
      exact mUpon_b
    subst hv
    go_simp
    refine hK _ ?_
    clear hK K
    refine lexX_step (fun K hK => ⟨by kernel_rfl, ⟨_, rfl⟩, fun v hv => ?_, fun v hv => ?_⟩)
    · go_simp
      exact mUpon_b
    subst hv
    go_simp
    refine hK _ ?_
    clear hK K
    refine lexX_step (fun K hK => ⟨by kernel_rfl, ⟨_, rfl⟩, fun v hv => ?_, fun v hv => ?_⟩)
    · go_simp
      exact mUpon_b
    subst hv
    go_simp
    refine hK _ ?_
    clear hK K
    refine lexX_step (fun K hK => ⟨by kernel_rfl, ⟨_, rfl⟩, fun v hv => ?_, fun v hv => ?_⟩)
    · go_simp
      exact mUpon_b
    subst hv
    go_simp
    refine hK _ ?_
    clear hK K
    refine lexX_step (fun K hK => ⟨by kernel_rfl, ⟨_, rfl⟩, fun v hv => ?_, fun v hv => ?_⟩)
    · go_simp
      exact mUpon_b
    subst hv
    go_simp
    refine hK _ ?_
    clear hK K
    refine lexX_step (fun K hK => ⟨by kernel_rfl, ⟨_, rfl⟩, fun v hv => ?_, fun v hv => ?_⟩)
    · obtain ⟨⟨c0, c1, c2⟩, _⟩ := cell_at ((unhideR H4).go hv).at_
      go_simp
      exact mUpon_b
    subst hv
    go_simp
    refine hK _ ?_
    clear hK K
    refine lexX_step (fun K hK => ⟨by kernel_rfl, ⟨_, rfl⟩, fun v hv => ?_, fun v hv => ?_⟩)
    · go_simp
      exact mUpon_b
    subst hv
    go_simp
    refine hK _ ?_
    clear hK K
    refine lexX_step (fun K hK => ⟨by kernel_rfl, ⟨_, rfl⟩, fun v hv => ?_, fun v hv => ?_⟩)
    · obtain ⟨⟨c0, c1, c2⟩, _⟩ := cell_at ((unhideR H3).go hv).at_
      go_simp
      exact mUpon_b
    subst hv
    go_simp
    refine hK _ ?_
    clear hK K
    refine lexX_step (fun K hK => ⟨by kernel_rfl, ⟨_, rfl⟩, fun v hv => ?_, fun v hv => ?_⟩)
    · go_simp
      exact mUpon_b
    subst hv
    go_simp
    refine hK _ ?_
    clear hK K
    refine lexX_step (fun K hK => ⟨by kernel_rfl, ⟨_, rfl⟩, fun v hv => ?_, fun v hv => ?_⟩)
    · go_simp
      exact mUpon_b
    subst hv
    go_simp
    refine hK _ ?_
    clear hK K
    refine lexX_step (fun K hK => ⟨by kernel_rfl, ⟨_, rfl⟩, fun v hv => ?_, fun v hv => ?_⟩)
    · go_simp
      exact mUpon_b
    subst hv
    go_simp
    refine hK _ ?_
    clear hK K
    refine lexX_step (fun K hK => ⟨by kernel_rfl, ⟨_, rfl⟩, fun v hv => ?_, fun v hv => ?_⟩)
    · go_simp
      exact mUpon_b
    subst hv
    go_simp
    refine hK _ ?_
    clear hK K
    refine lexX_step (fun K hK => ⟨by kernel_rfl, ⟨_, rfl⟩, fun v hv => ?_, fun v hv => ?_⟩)
    · go_simp
      exact mUpon_b
    subst hv
    go_simp
    refine hK _ ?_
    clear hK K
    refine lexX_step (fun K hK => ⟨by kernel_rfl, ⟨_, rfl⟩, fun v hv => ?_, fun v hv => ?_⟩)
    · obtain ⟨⟨c0, c1, c2⟩, _⟩ := cell_at ((unhideR H4).go hv).at_
      go_simp
      exact mUpon_b
    subst hv
    go_simp
    refine hK _ ?_
    clear hK K
    refine lexX_step (fun K hK => ⟨by kernel_rfl, ⟨_, rfl⟩, fun v hv => ?_, fun v hv => ?_⟩)
    · go_simp
      exact mUpon_b
    subst hv
    go_simp
    refine hK _ ?_
    clear hK K
    refine lexX_step (fun K hK => ⟨by kernel_rfl, ⟨_, rfl⟩, fun v hv => ?_, fun v hv => ?_⟩)
    · obtain ⟨⟨c0, c1, c2⟩, _⟩ := cell_at ((unhideR H3).go hv).at_
      go_simp
      exact mUpon_b
    subst hv
    go_simp
    refine hK _ ?_
    clear hK K
    refine lexX_step (fun K hK => ⟨by kernel_rfl, ⟨_, rfl⟩, fun v hv => ?_, fun v hv => ?_⟩)
    · go_simp
      exact mUpon_b
    subst hv
    go_simp
    refine hK _ ?_
    clear hK K
    refine lexX_step (fun K hK => ⟨by kernel_rfl, ⟨_, rfl⟩, fun v hv => ?_, fun v hv => ?_⟩)
    · go_simp
      exact mUpon_b
    subst hv
    go_simp
    refine hK _ ?_
    clear hK K
    refine lexX_step (fun K hK => ⟨by kernel_rfl, ⟨_, rfl⟩, fun v hv => ?_, fun v hv => ?_⟩)
    · go_simp
      exact mUpon_b
    subst hv
    go_simp
    refine hK _ ?_
    clear hK K
    refine lexX_end (fun v hv => ?_)
    have hW := below_go (unhideR HW) hv.low
    clear hv
    refine wpAny_step (i := 28) (by kernel_rfl) rfl (by kernel_rfl) (fun K hK => ?_)
    unfold Oper.wp
    go_simp
    refine hK _ _ ?_
    clear hK K
    refine wpAny_end (by kernel_rfl) ?_
    go_wp2
    go_ret
    exact ⟨rfl, hW⟩
end Go.Proofs.Ytdngkmobkbiflaf
