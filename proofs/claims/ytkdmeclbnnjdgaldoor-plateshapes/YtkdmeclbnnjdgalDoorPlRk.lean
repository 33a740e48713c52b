/-
  The document's RankOf of the first three points of a row, by contract.
-/
import Derived.Test.YtkdmeclbnnjdgalDoorPlRp
namespace Go.Proofs.YtkdmeclbnnjdgalDoor
open Go Go.RowKit

set_option maxRecDepth 1000000 in
set_option maxHeartbeats 4000000 in
theorem rankOf_any {w : World} {b off n cap : Nat} {p0 p1 p2 : Pt} (hL : Pt3 w b off p0 p1 p2) (hn : 3 ≤ n) :
    Calls Tryd.prog 13 #[.slice (some ⟨b, off, none⟩) n cap, .int .i64 0, .int .i64 1, .int .i64 2] w fun e w' => RkPost p0 p1 p2 e ∧ Below w.heap.size w w' := by
  have HL : HeldR (∀ u, Below w.heap.size w u → Pt3 u b off p0 p1 p2) := hideR (fun u k => hL.below k)
  have c0 := fun u => isPoint_any p0 u
  have c1 := fun u => isPoint_any p1 u
  have c2 := fun u => isPoint_any p2 u
  have ht := fun u (a : isPtB p0 = true) (b : isPtB p1 = true) (c : isPtB p2 = true) => twice_any p0 p1 p2 u a b c
  have hd0 := fun u (a : isPtB p0 = true) (b : isPtB p1 = true) (c : isPtB p2 = true) => between_any p1 p2 u b c
  have hd1 := fun u (a : isPtB p0 = true) (b : isPtB p1 = true) (c : isPtB p2 = true) => between_any p2 p0 u c a
  have hd2 := fun u (a : isPtB p0 = true) (b : isPtB p1 = true) (c : isPtB p2 = true) => between_any p0 p1 u a b
  have l0 : (0 : Int) < (n : Int) := by omega
  have l1 : (1 : Int) < (n : Int) := by omega
  have l2 : (2 : Int) < (n : Int) := by omega
  have l3 : 0 < n := by omega
  have l4 : 1 < n := by omega
  have l5 : 2 < n := by omega
  unfold Pt.val at *
  obtain ⟨B0, h0⟩ : ∃ B, isPtB p0 = B := ⟨_, rfl⟩
  obtain ⟨B1, h1⟩ : ∃ B, isPtB p1 = B := ⟨_, rfl⟩
  obtain ⟨B2, h2⟩ : ∃ B, isPtB p2 = B := ⟨_, rfl⟩
  have HNo : HeldR (rkB p0 p1 p2 = false → RkPost p0 p1 p2 (.returned (.tuple #[.agg #[.int .i64 0, .int .i64 0, .int .i64 0, .int .i64 0, .int .i64 0, .int .i64 0, .int .i64 0], .bool false]))) := hideR (rk_no p0 p1 p2)
  have HYes : HeldR (rkB p0 p1 p2 = true → ∀ x0 x1 x2 h, rkF p0 p1 p2 x0 x1 x2 → h = rkH p0 p1 p2 x0 x1 x2 → RkPost p0 p1 p2 (.returned (.tuple #[.agg #[.int .i64 x0.d, .int .i64 x1.d, .int .i64 x2.d, .int .i64 h, .int .i64 (x0.k : Nat), .int .i64 (x1.k : Nat), .int .i64 (x2.k : Nat)], .bool true]))) := hideR (rk_yes p0 p1 p2)
  have hR : rkB p0 p1 p2 = (B0 && (B1 && (B2 && !decide (twc p0 p1 p2 = 0)))) := by unfold rkB; rw [h0, h1, h2]
  rw [hR] at HNo HYes
  rw [h0] at c0
  rw [h1] at c1
  rw [h2] at c2
  have hz := alloc_last w (.cells #[.int .i64 0, .int .i64 0, .int .i64 0, .int .i64 0, .int .i64 0, .int .i64 0, .int .i64 0] 45)
  have HB := hideR (below_a w (.cells #[.int .i64 0, .int .i64 0, .int .i64 0, .int .i64 0, .int .i64 0, .int .i64 0, .int .i64 0] 45))
  clear hL hR
  obtain ⟨PQ, hPQ⟩ : ∃ PQ : Ending → Prop, RkPost p0 p1 p2 = PQ := ⟨_, rfl⟩
  rw [hPQ] at HNo HYes ⊢
  clear hPQ
  go_enter Tryd.func13, Tryd.ntmps13
  go_upto_region 1 with fail
  generalize w.alloc (.cells #[.int .i64 0, .int .i64 0, .int .i64 0, .int .i64 0, .int .i64 0, .int .i64 0, .int .i64 0] 45) = u at *
  obtain ⟨K, hK⟩ : ∃ K, w.heap.size = K := ⟨_, rfl⟩
  have HK := hideR hK
  rw [hK] at hz ⊢
  clear hK
  have hp := unhideR HL u (unhideR HB)
  have x0 := hp.a0.c0
  have x1 := hp.a0.c1
  have x2 := hp.a0.c2
  go_wp2_with fail
  refine (c0 _).mono ?_
  rintro e v1 ⟨rfl, k1⟩
  replace HB := hideR (below_go (unhideR HB) k1)
  replace hz := keepB hz k1
  replace hp := hp.below k1
  clear x0 x1 x2 k1
  have x0 := hp.a1.c0
  have x1 := hp.a1.c1
  have x2 := hp.a1.c2
  go_wp2_with fail
  refine (c1 _).mono ?_
  rintro e v2 ⟨rfl, k1⟩
  replace HB := hideR (below_go (unhideR HB) k1)
  replace hz := keepB hz k1
  replace hp := hp.below k1
  clear x0 x1 x2 k1
  have x0 := hp.a2.c0
  have x1 := hp.a2.c1
  have x2 := hp.a2.c2
  go_wp2_with fail
  refine (c2 _).mono ?_
  rintro e v3 ⟨rfl, k1⟩
  replace HB := hideR (below_go (unhideR HB) k1)
  replace hz := keepB hz k1
  replace hp := hp.below k1
  clear x0 x1 x2 k1
  go_upto_region 4 with fail
  clear c0 c1 c2 HL
  cases B0 with
  | false =>
    replace HB := hideR (drewBl1 (unhideR HB))
    replace hz : v3.drew.heap[K]? = some (.cells #[.int .i64 0, .int .i64 0, .int .i64 0, .int .i64 0, .int .i64 0, .int .i64 0, .int .i64 0] 45) := hz
    replace hp : Pt3 v3.drew b off p0 p1 p2 := hp.below (drewBl1 (Below.refl _ _))
    replace HNo := hideR (unhideR HNo rfl)
    clear HYes ht hd0 hd1 hd2
    go_region
    generalize v3.drew = v5 at *
    have o0 := (cells_at hz 0 (by simp)).1
    have f0 := (cells_at hz 0 (by simp)).2
    have o1 := (cells_at hz 1 (by simp)).1
    have f1 := (cells_at hz 1 (by simp)).2
    have o2 := (cells_at hz 2 (by simp)).1
    have f2 := (cells_at hz 2 (by simp)).2
    have o3 := (cells_at hz 3 (by simp)).1
    have f3 := (cells_at hz 3 (by simp)).2
    have o4 := (cells_at hz 4 (by simp)).1
    have f4 := (cells_at hz 4 (by simp)).2
    have o5 := (cells_at hz 5 (by simp)).1
    have f5 := (cells_at hz 5 (by simp)).2
    have o6 := (cells_at hz 6 (by simp)).1
    have f6 := (cells_at hz 6 (by simp)).2
    have HF := hideR (And.intro (unhideR HNo) (set7_bl (unhideR HB) (show w.heap.size ≤ K by have := unhideR HK; omega) (.int .i64 0) (.int .i64 0) (.int .i64 0) (.int .i64 0) (.int .i64 0) (.int .i64 0) (.int .i64 0)))
    clear hz HB HK hp HNo
    go_wp2
    simp [bodyPost, results, Tryd.results13, go_sem, o0, o1, o2, o3, o4, o5, o6]
    exact unhideR HF
  | true =>
  cases B1 with
  | false =>
    replace HB := hideR (drewBl1 (unhideR HB))
    replace hz : v3.drew.heap[K]? = some (.cells #[.int .i64 0, .int .i64 0, .int .i64 0, .int .i64 0, .int .i64 0, .int .i64 0, .int .i64 0] 45) := hz
    replace hp : Pt3 v3.drew b off p0 p1 p2 := hp.below (drewBl1 (Below.refl _ _))
    replace HNo := hideR (unhideR HNo rfl)
    clear HYes ht hd0 hd1 hd2
    go_region
    generalize v3.drew = v5 at *
    have o0 := (cells_at hz 0 (by simp)).1
    have f0 := (cells_at hz 0 (by simp)).2
    have o1 := (cells_at hz 1 (by simp)).1
    have f1 := (cells_at hz 1 (by simp)).2
    have o2 := (cells_at hz 2 (by simp)).1
    have f2 := (cells_at hz 2 (by simp)).2
    have o3 := (cells_at hz 3 (by simp)).1
    have f3 := (cells_at hz 3 (by simp)).2
    have o4 := (cells_at hz 4 (by simp)).1
    have f4 := (cells_at hz 4 (by simp)).2
    have o5 := (cells_at hz 5 (by simp)).1
    have f5 := (cells_at hz 5 (by simp)).2
    have o6 := (cells_at hz 6 (by simp)).1
    have f6 := (cells_at hz 6 (by simp)).2
    have HF := hideR (And.intro (unhideR HNo) (set7_bl (unhideR HB) (show w.heap.size ≤ K by have := unhideR HK; omega) (.int .i64 0) (.int .i64 0) (.int .i64 0) (.int .i64 0) (.int .i64 0) (.int .i64 0) (.int .i64 0)))
    clear hz HB HK hp HNo
    go_wp2
    simp [bodyPost, results, Tryd.results13, go_sem, o0, o1, o2, o3, o4, o5, o6]
    exact unhideR HF
  | true =>
  cases B2 with
  | false =>
    replace HB := hideR (drewBl1 (unhideR HB))
    replace hz : v3.drew.heap[K]? = some (.cells #[.int .i64 0, .int .i64 0, .int .i64 0, .int .i64 0, .int .i64 0, .int .i64 0, .int .i64 0] 45) := hz
    replace hp : Pt3 v3.drew b off p0 p1 p2 := hp.below (drewBl1 (Below.refl _ _))
    replace HNo := hideR (unhideR HNo rfl)
    clear HYes ht hd0 hd1 hd2
    go_region
    generalize v3.drew = v5 at *
    have o0 := (cells_at hz 0 (by simp)).1
    have f0 := (cells_at hz 0 (by simp)).2
    have o1 := (cells_at hz 1 (by simp)).1
    have f1 := (cells_at hz 1 (by simp)).2
    have o2 := (cells_at hz 2 (by simp)).1
    have f2 := (cells_at hz 2 (by simp)).2
    have o3 := (cells_at hz 3 (by simp)).1
    have f3 := (cells_at hz 3 (by simp)).2
    have o4 := (cells_at hz 4 (by simp)).1
    have f4 := (cells_at hz 4 (by simp)).2
    have o5 := (cells_at hz 5 (by simp)).1
    have f5 := (cells_at hz 5 (by simp)).2
    have o6 := (cells_at hz 6 (by simp)).1
    have f6 := (cells_at hz 6 (by simp)).2
    have HF := hideR (And.intro (unhideR HNo) (set7_bl (unhideR HB) (show w.heap.size ≤ K by have := unhideR HK; omega) (.int .i64 0) (.int .i64 0) (.int .i64 0) (.int .i64 0) (.int .i64 0) (.int .i64 0) (.int .i64 0)))
    clear hz HB HK hp HNo
    go_wp2
    simp [bodyPost, results, Tryd.results13, go_sem, o0, o1, o2, o3, o4, o5, o6]
    exact unhideR HF
  | true =>
  replace ht := fun u => ht u h0 h1 h2
  replace hd0 := fun u => hd0 u h0 h1 h2
  replace hd1 := fun u => hd1 u h0 h1 h2
  replace hd2 := fun u => hd2 u h0 h1 h2
  have HP : HeldR (∀ k, isPtB (ptK p0 p1 p2 k) = true) := hideR (fun k => by
    unfold ptK
    split
    · exact h0
    · split
      · exact h1
      · exact h2)
  clear h0 h1 h2
  by_cases q : twc p0 p1 p2 = 0
  · have t1 : (twc p0 p1 p2 == 0) = true := by simp [q]
    rw [decide_eq_true q] at HNo HYes
    replace HNo := hideR (unhideR HNo rfl)
    clear q HYes hd0 hd1 hd2
    generalize twc p0 p1 p2 = T at *
    refine wp_region_made 0 #[true, true, true, true, true, true, true, true, true, true, true, true, true, true, true, true, true, true, true, true, true, true, true, true, true, false] [.lets (· = .bool true),
      .lets (· = .bool false),
      .lets (· = .bool false),
      .lets (· = .bool true),
      .lets (· = .bool false),
      .lets (· = .bool false),
      .lets (· = .bool false),
      .lets (· = .bool true),
      .lets (· = .bool false),
      .lets (· = .bool false),
      .lets (· = .bool false),
      .lets (· = .slice (some ⟨b, off, none⟩) n cap),
      .lets (· = .int .i64 0),
      .lets (· = .pointer (some ⟨b, off, none⟩)),
      .lets (· = .agg #[.int .i64 p0.x, .int .i64 p0.y, .int .i64 p0.z]),
      .lets (· = .slice (some ⟨b, off, none⟩) n cap),
      .lets (· = .int .i64 1),
      .lets (· = .pointer (some ⟨b, off + 3, none⟩)),
      .lets (· = .agg #[.int .i64 p1.x, .int .i64 p1.y, .int .i64 p1.z]),
      .lets (· = .slice (some ⟨b, off, none⟩) n cap),
      .lets (· = .int .i64 2),
      .lets (· = .pointer (some ⟨b, off + 6, none⟩)),
      .lets (· = .agg #[.int .i64 p2.x, .int .i64 p2.y, .int .i64 p2.z]),
      .lets (· = .int .i64 T),
      .lets (· = .bool true)] [] [] (by kernel_rfl) (by kernel_rfl) rfl ?kinds (by kernel_rfl) (by kernel_rfl) (by kernel_rfl) ?_
    case kinds =>
      constructor
      · intro i h
        rcases i with _ | _ | _ | _ | _ | _ | _ | _ | _ | _ | _ | _ | _ | _ | _ | _ | _ | _ | _ | _ | _ | _ | _ | _ | _ | i <;> simp [Kx.isMade] at h
      · intro i h
        rcases i with _ | _ | _ | _ | _ | _ | _ | _ | _ | _ | _ | _ | _ | _ | _ | _ | _ | _ | _ | _ | _ | _ | _ | _ | _ | i <;> simp [Kx.isUse] at h
    refine lexX_step (fun K hK => ⟨by kernel_rfl, ⟨_, rfl⟩, fun v hv => ?_, fun v hv => ?_⟩)
    · go_simp
      exact mUpon_b
    subst hv
    go_simp
    refine hK _ ?_
    clear hK K
    refine lexX_step (fun K hK => ⟨by kernel_rfl, ⟨_, rfl⟩, fun v hv => ?_, fun v hv => ?_⟩)
    · go_simp
      exact mUpon_b
    subst hv
    go_simp
    refine hK _ ?_
    clear hK K
    refine lexX_step (fun K hK => ⟨by kernel_rfl, ⟨_, rfl⟩, fun v hv => ?_, fun v hv => ?_⟩)
    · go_simp
      exact mUpon_b
    subst hv
    go_simp
    refine hK _ ?_
    clear hK K
    refine lexX_step (fun K hK => ⟨by kernel_rfl, ⟨_, rfl⟩, fun v hv => ?_, fun v hv => ?_⟩)
    · go_simp
      exact mUpon_b
    subst hv
    go_simp
    refine hK _ ?_
    clear hK K
    refine lexX_step (fun K hK => ⟨by kernel_rfl, ⟨_, rfl⟩, fun v hv => ?_, fun v hv => ?_⟩)
    · go_simp
      exact mUpon_b
    subst hv
    go_simp
    refine hK _ ?_
    clear hK K
    refine lexX_step (fun K hK => ⟨by kernel_rfl, ⟨_, rfl⟩, fun v hv => ?_, fun v hv => ?_⟩)
    · go_simp
      exact mUpon_b
    subst hv
    go_simp
    refine hK _ ?_
    clear hK K
    refine lexX_step (fun K hK => ⟨by kernel_rfl, ⟨_, rfl⟩, fun v hv => ?_, fun v hv => ?_⟩)
    · go_simp
      exact mUpon_b
    subst hv
    go_simp
    refine hK _ ?_
    clear hK K
    refine lexX_step (fun K hK => ⟨by kernel_rfl, ⟨_, rfl⟩, fun v hv => ?_, fun v hv => ?_⟩)
    · go_simp
      exact mUpon_b
    subst hv
    go_simp
    refine hK _ ?_
    clear hK K
    refine lexX_step (fun K hK => ⟨by kernel_rfl, ⟨_, rfl⟩, fun v hv => ?_, fun v hv => ?_⟩)
    · go_simp
      exact mUpon_b
    subst hv
    go_simp
    refine hK _ ?_
    clear hK K
    refine lexX_step (fun K hK => ⟨by kernel_rfl, ⟨_, rfl⟩, fun v hv => ?_, fun v hv => ?_⟩)
    · go_simp
      exact mUpon_b
    subst hv
    go_simp
    refine hK _ ?_
    clear hK K
    refine lexX_step (fun K hK => ⟨by kernel_rfl, ⟨_, rfl⟩, fun v hv => ?_, fun v hv => ?_⟩)
    · go_simp
      exact mUpon_b
    subst hv
    go_simp
    refine hK _ ?_
    clear hK K
    refine lexX_step (fun K hK => ⟨by kernel_rfl, ⟨_, rfl⟩, fun v hv => ?_, fun v hv => ?_⟩)
    · go_simp
      exact mUpon_b
    subst hv
    go_simp
    refine hK _ ?_
    clear hK K
    refine lexX_step (fun K hK => ⟨by kernel_rfl, ⟨_, rfl⟩, fun v hv => ?_, fun v hv => ?_⟩)
    · go_simp
      exact mUpon_b
    subst hv
    go_simp
    refine hK _ ?_
    clear hK K
    refine lexX_step (fun K hK => ⟨by kernel_rfl, ⟨_, rfl⟩, fun v hv => ?_, fun v hv => ?_⟩)
    · go_simp
      exact mUpon_b
    subst hv
    go_simp
    refine hK _ ?_
    clear hK K
    refine lexX_step (fun K hK => ⟨by kernel_rfl, ⟨_, rfl⟩, fun v hv => ?_, fun v hv => ?_⟩)
    · have q9 := hp.below hv
      have q0 := q9.a0.c0
      have q1 := q9.a0.c1
      have q2 := q9.a0.c2
      go_simp
      exact mUpon_b
    subst hv
    go_simp
    refine hK _ ?_
    clear hK K
    refine lexX_step (fun K hK => ⟨by kernel_rfl, ⟨_, rfl⟩, fun v hv => ?_, fun v hv => ?_⟩)
    · go_simp
      exact mUpon_b
    subst hv
    go_simp
    refine hK _ ?_
    clear hK K
    refine lexX_step (fun K hK => ⟨by kernel_rfl, ⟨_, rfl⟩, fun v hv => ?_, fun v hv => ?_⟩)
    · go_simp
      exact mUpon_b
    subst hv
    go_simp
    refine hK _ ?_
    clear hK K
    refine lexX_step (fun K hK => ⟨by kernel_rfl, ⟨_, rfl⟩, fun v hv => ?_, fun v hv => ?_⟩)
    · go_simp
      exact mUpon_b
    subst hv
    go_simp
    refine hK _ ?_
    clear hK K
    refine lexX_step (fun K hK => ⟨by kernel_rfl, ⟨_, rfl⟩, fun v hv => ?_, fun v hv => ?_⟩)
    · have q9 := hp.below hv
      have q0 := q9.a1.c0
      have q1 := q9.a1.c1
      have q2 := q9.a1.c2
      go_simp
      exact mUpon_b
    subst hv
    go_simp
    refine hK _ ?_
    clear hK K
    refine lexX_step (fun K hK => ⟨by kernel_rfl, ⟨_, rfl⟩, fun v hv => ?_, fun v hv => ?_⟩)
    · go_simp
      exact mUpon_b
    subst hv
    go_simp
    refine hK _ ?_
    clear hK K
    refine lexX_step (fun K hK => ⟨by kernel_rfl, ⟨_, rfl⟩, fun v hv => ?_, fun v hv => ?_⟩)
    · go_simp
      exact mUpon_b
    subst hv
    go_simp
    refine hK _ ?_
    clear hK K
    refine lexX_step (fun K hK => ⟨by kernel_rfl, ⟨_, rfl⟩, fun v hv => ?_, fun v hv => ?_⟩)
    · go_simp
      exact mUpon_b
    subst hv
    go_simp
    refine hK _ ?_
    clear hK K
    refine lexX_step (fun K hK => ⟨by kernel_rfl, ⟨_, rfl⟩, fun v hv => ?_, fun v hv => ?_⟩)
    · have q9 := hp.below hv
      have q0 := q9.a2.c0
      have q1 := q9.a2.c1
      have q2 := q9.a2.c2
      go_simp
      exact mUpon_b
    subst hv
    go_simp
    refine hK _ ?_
    clear hK K
    refine lexX_step (fun K hK => ⟨by kernel_rfl, ⟨_, rfl⟩, fun v hv => ?_, fun v hv => ?_⟩)
    · go_simp
      refine (ht _).mono ?_
      rintro e w9 ⟨rfl, k⟩
      exact ⟨_, rfl, rfl, k⟩
    subst hv
    go_simp
    refine hK _ ?_
    clear hK K
    refine lexX_step (fun K hK => ⟨by kernel_rfl, ⟨_, rfl⟩, fun v hv => ?_, fun v hv => ?_⟩)
    · go_simp
      exact mUpon_b
    subst hv
    go_simp
    refine hK _ ?_
    clear hK K
    refine lexX_end (fun v4 hv => ?_)
    have k5 := hv.low
    clear hv ht
    replace HB := hideR (below_go (unhideR HB) k5)
    replace hz := keepB hz k5
    replace hp := hp.below k5
    clear k5
    refine wpAny_step (i := 25) (by kernel_rfl) rfl (by kernel_rfl) (fun K hK => ?_)
    unfold Oper.wp
    go_simp
    refine hK _ _ ?_
    clear hK K
    refine wpAny_end (by kernel_rfl) ?_
    have o0 := (cells_at hz 0 (by simp)).1
    have f0 := (cells_at hz 0 (by simp)).2
    have o1 := (cells_at hz 1 (by simp)).1
    have f1 := (cells_at hz 1 (by simp)).2
    have o2 := (cells_at hz 2 (by simp)).1
    have f2 := (cells_at hz 2 (by simp)).2
    have o3 := (cells_at hz 3 (by simp)).1
    have f3 := (cells_at hz 3 (by simp)).2
    have o4 := (cells_at hz 4 (by simp)).1
    have f4 := (cells_at hz 4 (by simp)).2
    have o5 := (cells_at hz 5 (by simp)).1
    have f5 := (cells_at hz 5 (by simp)).2
    have o6 := (cells_at hz 6 (by simp)).1
    have f6 := (cells_at hz 6 (by simp)).2
    have HF := hideR (And.intro (unhideR HNo) (set7_bl (unhideR HB) (show w.heap.size ≤ K by have := unhideR HK; omega) (.int .i64 0) (.int .i64 0) (.int .i64 0) (.int .i64 0) (.int .i64 0) (.int .i64 0) (.int .i64 0)))
    clear hz HB HK hp HNo
    go_wp2
    simp [bodyPost, results, Tryd.results13, go_sem, o0, o1, o2, o3, o4, o5, o6]
    exact unhideR HF
  have t1 : (twc p0 p1 p2 == 0) = false := by simp [q]
  rw [decide_eq_false q] at HNo HYes
  replace HYes := hideR (unhideR HYes rfl)
  clear q HNo
  generalize twc p0 p1 p2 = T at *
  refine wp_region_made 0 #[true, true, true, true, true, true, true, true, true, true, true, true, true, true, true, true, true, true, true, true, true, true, true, true, true, false] [.lets (· = .bool true),
    .lets (· = .bool false),
    .lets (· = .bool false),
    .lets (· = .bool true),
    .lets (· = .bool false),
    .lets (· = .bool false),
    .lets (· = .bool false),
    .lets (· = .bool true),
    .lets (· = .bool false),
    .lets (· = .bool false),
    .lets (· = .bool false),
    .lets (· = .slice (some ⟨b, off, none⟩) n cap),
    .lets (· = .int .i64 0),
    .lets (· = .pointer (some ⟨b, off, none⟩)),
    .lets (· = .agg #[.int .i64 p0.x, .int .i64 p0.y, .int .i64 p0.z]),
    .lets (· = .slice (some ⟨b, off, none⟩) n cap),
    .lets (· = .int .i64 1),
    .lets (· = .pointer (some ⟨b, off + 3, none⟩)),
    .lets (· = .agg #[.int .i64 p1.x, .int .i64 p1.y, .int .i64 p1.z]),
    .lets (· = .slice (some ⟨b, off, none⟩) n cap),
    .lets (· = .int .i64 2),
    .lets (· = .pointer (some ⟨b, off + 6, none⟩)),
    .lets (· = .agg #[.int .i64 p2.x, .int .i64 p2.y, .int .i64 p2.z]),
    .lets (· = .int .i64 T),
    .lets (· = .bool false)] [] [] (by kernel_rfl) (by kernel_rfl) rfl ?kinds (by kernel_rfl) (by kernel_rfl) (by kernel_rfl) ?_
  case kinds =>
    constructor
    · intro i h
      rcases i with _ | _ | _ | _ | _ | _ | _ | _ | _ | _ | _ | _ | _ | _ | _ | _ | _ | _ | _ | _ | _ | _ | _ | _ | _ | i <;> simp [Kx.isMade] at h
    · intro i h
      rcases i with _ | _ | _ | _ | _ | _ | _ | _ | _ | _ | _ | _ | _ | _ | _ | _ | _ | _ | _ | _ | _ | _ | _ | _ | _ | i <;> simp [Kx.isUse] at h
  refine lexX_step (fun K hK => ⟨by kernel_rfl, ⟨_, rfl⟩, fun v hv => ?_, fun v hv => ?_⟩)
  · go_simp
    exact mUpon_b
  subst hv
  go_simp
  refine hK _ ?_
  clear hK K
  refine lexX_step (fun K hK => ⟨by kernel_rfl, ⟨_, rfl⟩, fun v hv => ?_, fun v hv => ?_⟩)
  · go_simp
    exact mUpon_b
  subst hv
  go_simp
  refine hK _ ?_
  clear hK K
  refine lexX_step (fun K hK => ⟨by kernel_rfl, ⟨_, rfl⟩, fun v hv => ?_, fun v hv => ?_⟩)
  · go_simp
    exact mUpon_b
  subst hv
  go_simp
  refine hK _ ?_
  clear hK K
  refine lexX_step (fun K hK => ⟨by kernel_rfl, ⟨_, rfl⟩, fun v hv => ?_, fun v hv => ?_⟩)
  · go_simp
    exact mUpon_b
  subst hv
  go_simp
  refine hK _ ?_
  clear hK K
  refine lexX_step (fun K hK => ⟨by kernel_rfl, ⟨_, rfl⟩, fun v hv => ?_, fun v hv => ?_⟩)
  · go_simp
    exact mUpon_b
  subst hv
  go_simp
  refine hK _ ?_
  clear hK K
  refine lexX_step (fun K hK => ⟨by kernel_rfl, ⟨_, rfl⟩, fun v hv => ?_, fun v hv => ?_⟩)
  · go_simp
    exact mUpon_b
  subst hv
  go_simp
  refine hK _ ?_
  clear hK K
  refine lexX_step (fun K hK => ⟨by kernel_rfl, ⟨_, rfl⟩, fun v hv => ?_, fun v hv => ?_⟩)
  · go_simp
    exact mUpon_b
  subst hv
  go_simp
  refine hK _ ?_
  clear hK K
  refine lexX_step (fun K hK => ⟨by kernel_rfl, ⟨_, rfl⟩, fun v hv => ?_, fun v hv => ?_⟩)
  · go_simp
    exact mUpon_b
  subst hv
  go_simp
  refine hK _ ?_
  clear hK K
  refine lexX_step (fun K hK => ⟨by kernel_rfl, ⟨_, rfl⟩, fun v hv => ?_, fun v hv => ?_⟩)
  · go_simp
    exact mUpon_b
  subst hv
  go_simp
  refine hK _ ?_
  clear hK K
  refine lexX_step (fun K hK => ⟨by kernel_rfl, ⟨_, rfl⟩, fun v hv => ?_, fun v hv => ?_⟩)
  · go_simp
    exact mUpon_b
  subst hv
  go_simp
  refine hK _ ?_
  clear hK K
  refine lexX_step (fun K hK => ⟨by kernel_rfl, ⟨_, rfl⟩, fun v hv => ?_, fun v hv => ?_⟩)
  · go_simp
    exact mUpon_b
  subst hv
  go_simp
  refine hK _ ?_
  clear hK K
  refine lexX_step (fun K hK => ⟨by kernel_rfl, ⟨_, rfl⟩, fun v hv => ?_, fun v hv => ?_⟩)
  · go_simp
    exact mUpon_b
  subst hv
  go_simp
  refine hK _ ?_
  clear hK K
  refine lexX_step (fun K hK => ⟨by kernel_rfl, ⟨_, rfl⟩, fun v hv => ?_, fun v hv => ?_⟩)
  · go_simp
    exact mUpon_b
  subst hv
  go_simp
  refine hK _ ?_
  clear hK K
  refine lexX_step (fun K hK => ⟨by kernel_rfl, ⟨_, rfl⟩, fun v hv => ?_, fun v hv => ?_⟩)
  · go_simp
    exact mUpon_b
  subst hv
  go_simp
  refine hK _ ?_
  clear hK K
  refine lexX_step (fun K hK => ⟨by kernel_rfl, ⟨_, rfl⟩, fun v hv => ?_, fun v hv => ?_⟩)
  · have q9 := hp.below hv
    have q0 := q9.a0.c0
    have q1 := q9.a0.c1
    have q2 := q9.a0.c2
    go_simp
    exact mUpon_b
  subst hv
  go_simp
  refine hK _ ?_
  clear hK K
  refine lexX_step (fun K hK => ⟨by kernel_rfl, ⟨_, rfl⟩, fun v hv => ?_, fun v hv => ?_⟩)
  · go_simp
    exact mUpon_b
  subst hv
  go_simp
  refine hK _ ?_
  clear hK K
  refine lexX_step (fun K hK => ⟨by kernel_rfl, ⟨_, rfl⟩, fun v hv => ?_, fun v hv => ?_⟩)
  · go_simp
    exact mUpon_b
  subst hv
  go_simp
  refine hK _ ?_
  clear hK K
  refine lexX_step (fun K hK => ⟨by kernel_rfl, ⟨_, rfl⟩, fun v hv => ?_, fun v hv => ?_⟩)
  · go_simp
    exact mUpon_b
  subst hv
  go_simp
  refine hK _ ?_
  clear hK K
  refine lexX_step (fun K hK => ⟨by kernel_rfl, ⟨_, rfl⟩, fun v hv => ?_, fun v hv => ?_⟩)
  · have q9 := hp.below hv
    have q0 := q9.a1.c0
    have q1 := q9.a1.c1
    have q2 := q9.a1.c2
    go_simp
    exact mUpon_b
  subst hv
  go_simp
  refine hK _ ?_
  clear hK K
  refine lexX_step (fun K hK => ⟨by kernel_rfl, ⟨_, rfl⟩, fun v hv => ?_, fun v hv => ?_⟩)
  · go_simp
    exact mUpon_b
  subst hv
  go_simp
  refine hK _ ?_
  clear hK K
  refine lexX_step (fun K hK => ⟨by kernel_rfl, ⟨_, rfl⟩, fun v hv => ?_, fun v hv => ?_⟩)
  · go_simp
    exact mUpon_b
  subst hv
  go_simp
  refine hK _ ?_
  clear hK K
  refine lexX_step (fun K hK => ⟨by kernel_rfl, ⟨_, rfl⟩, fun v hv => ?_, fun v hv => ?_⟩)
  · go_simp
    exact mUpon_b
  subst hv
  go_simp
  refine hK _ ?_
  clear hK K
  refine lexX_step (fun K hK => ⟨by kernel_rfl, ⟨_, rfl⟩, fun v hv => ?_, fun v hv => ?_⟩)
  · have q9 := hp.below hv
    have q0 := q9.a2.c0
    have q1 := q9.a2.c1
    have q2 := q9.a2.c2
    go_simp
    exact mUpon_b
  subst hv
  go_simp
  refine hK _ ?_
  clear hK K
  refine lexX_step (fun K hK => ⟨by kernel_rfl, ⟨_, rfl⟩, fun v hv => ?_, fun v hv => ?_⟩)
  · go_simp
    refine (ht _).mono ?_
    rintro e w9 ⟨rfl, k⟩
    exact ⟨_, rfl, rfl, k⟩
  subst hv
  go_simp
  refine hK _ ?_
  clear hK K
  refine lexX_step (fun K hK => ⟨by kernel_rfl, ⟨_, rfl⟩, fun v hv => ?_, fun v hv => ?_⟩)
  · go_simp
    exact mUpon_b
  subst hv
  go_simp
  refine hK _ ?_
  clear hK K
  refine lexX_end (fun v4 hv => ?_)
  have k5 := hv.low
  clear hv ht
  replace HB := hideR (below_go (unhideR HB) k5)
  replace hz := keepB hz k5
  replace hp := hp.below k5
  clear k5
  refine wpAny_step (i := 25) (by kernel_rfl) rfl (by kernel_rfl) (fun K hK => ?_)
  unfold Oper.wp
  go_simp
  refine hK _ _ ?_
  clear hK K
  refine wpAny_end (by kernel_rfl) ?_
  have zA := alloc_last v4 (.cells #[.int .i64 0, .int .i64 1, .int .i64 2] 3)
  have kA := below_a v4 (.cells #[.int .i64 0, .int .i64 1, .int .i64 2] 3)
  have HB4 := HB
  have HbA : HeldR (b < v4.heap.size ∧ K < v4.heap.size) := hideR ⟨hp.lt, (Array.getElem?_eq_some_iff.1 hz).1⟩
  replace HB := hideR (below_go (unhideR HB) kA)
  replace hz := keepB hz kA
  replace hp := hp.below kA
  have HA0 : HeldR (v4.heap.size < (v4.alloc (.cells #[.int .i64 0, .int .i64 1, .int .i64 2] 3)).heap.size ∧ w.heap.size ≤ v4.heap.size) := hideR ⟨by simp, (unhideR HB4).size⟩
  clear kA
  go_upto_region 7 with fail
  generalize v4.alloc (.cells #[.int .i64 0, .int .i64 1, .int .i64 2] 3) = u5 at *
  obtain ⟨A, hA⟩ : ∃ A, v4.heap.size = A := ⟨_, rfl⟩
  rw [hA] at zA HbA HA0 ⊢
  clear hA
  have HR0 : HeldR (rk0 p0 p1 p2 = (⟨btw p1 p2, 0⟩, ⟨btw p2 p0, 1⟩, ⟨btw p0 p1, 2⟩)) := hideR rfl
  generalize btw p1 p2 = d0 at *
  generalize btw p2 p0 = d1 at *
  generalize btw p0 p1 = d2 at *
  refine wp_region_made 1 #[true, true, true, true, true, true, true, true, true, true, true, true, true, true, true, true, true, true, true, true, true, true, true, true, true, true, true, false, false] [.lets (· = .slice (some ⟨b, off, none⟩) n cap),
    .lets (· = .int .i64 1),
    .lets (· = .pointer (some ⟨b, off + 3, none⟩)),
    .lets (· = .agg #[.int .i64 p1.x, .int .i64 p1.y, .int .i64 p1.z]),
    .lets (· = .slice (some ⟨b, off, none⟩) n cap),
    .lets (· = .int .i64 2),
    .lets (· = .pointer (some ⟨b, off + 6, none⟩)),
    .lets (· = .agg #[.int .i64 p2.x, .int .i64 p2.y, .int .i64 p2.z]),
    .lets (· = .int .i64 d0),
    .lets (· = .slice (some ⟨b, off, none⟩) n cap),
    .lets (· = .int .i64 2),
    .lets (· = .pointer (some ⟨b, off + 6, none⟩)),
    .lets (· = .agg #[.int .i64 p2.x, .int .i64 p2.y, .int .i64 p2.z]),
    .lets (· = .slice (some ⟨b, off, none⟩) n cap),
    .lets (· = .int .i64 0),
    .lets (· = .pointer (some ⟨b, off, none⟩)),
    .lets (· = .agg #[.int .i64 p0.x, .int .i64 p0.y, .int .i64 p0.z]),
    .lets (· = .int .i64 d1),
    .lets (· = .slice (some ⟨b, off, none⟩) n cap),
    .lets (· = .int .i64 0),
    .lets (· = .pointer (some ⟨b, off, none⟩)),
    .lets (· = .agg #[.int .i64 p0.x, .int .i64 p0.y, .int .i64 p0.z]),
    .lets (· = .slice (some ⟨b, off, none⟩) n cap),
    .lets (· = .int .i64 1),
    .lets (· = .pointer (some ⟨b, off + 3, none⟩)),
    .lets (· = .agg #[.int .i64 p1.x, .int .i64 p1.y, .int .i64 p1.z]),
    .lets (· = .int .i64 d2)] [] [] (by kernel_rfl) (by kernel_rfl) rfl ?kinds (by kernel_rfl) (by kernel_rfl) (by kernel_rfl) ?_
  case kinds =>
    constructor
    · intro i h
      rcases i with _ | _ | _ | _ | _ | _ | _ | _ | _ | _ | _ | _ | _ | _ | _ | _ | _ | _ | _ | _ | _ | _ | _ | _ | _ | _ | _ | i <;> simp [Kx.isMade] at h
    · intro i h
      rcases i with _ | _ | _ | _ | _ | _ | _ | _ | _ | _ | _ | _ | _ | _ | _ | _ | _ | _ | _ | _ | _ | _ | _ | _ | _ | _ | _ | i <;> simp [Kx.isUse] at h
  refine lexX_step (fun K hK => ⟨by kernel_rfl, ⟨_, rfl⟩, fun v hv => ?_, fun v hv => ?_⟩)
  · go_simp
    exact mUpon_b
  subst hv
  go_simp
  refine hK _ ?_
  clear hK K
  refine lexX_step (fun K hK => ⟨by kernel_rfl, ⟨_, rfl⟩, fun v hv => ?_, fun v hv => ?_⟩)
  · go_simp
    exact mUpon_b
  subst hv
  go_simp
  refine hK _ ?_
  clear hK K
  refine lexX_step (fun K hK => ⟨by kernel_rfl, ⟨_, rfl⟩, fun v hv => ?_, fun v hv => ?_⟩)
  · go_simp
    exact mUpon_b
  subst hv
  go_simp
  refine hK _ ?_
  clear hK K
  refine lexX_step (fun K hK => ⟨by kernel_rfl, ⟨_, rfl⟩, fun v hv => ?_, fun v hv => ?_⟩)
  · have q9 := hp.below hv
    have q0 := q9.a1.c0
    have q1 := q9.a1.c1
    have q2 := q9.a1.c2
    go_simp
    exact mUpon_b
  subst hv
  go_simp
  refine hK _ ?_
  clear hK K
  refine lexX_step (fun K hK => ⟨by kernel_rfl, ⟨_, rfl⟩, fun v hv => ?_, fun v hv => ?_⟩)
  · go_simp
    exact mUpon_b
  subst hv
  go_simp
  refine hK _ ?_
  clear hK K
  refine lexX_step (fun K hK => ⟨by kernel_rfl, ⟨_, rfl⟩, fun v hv => ?_, fun v hv => ?_⟩)
  · go_simp
    exact mUpon_b
  subst hv
  go_simp
  refine hK _ ?_
  clear hK K
  refine lexX_step (fun K hK => ⟨by kernel_rfl, ⟨_, rfl⟩, fun v hv => ?_, fun v hv => ?_⟩)
  · go_simp
    exact mUpon_b
  subst hv
  go_simp
  refine hK _ ?_
  clear hK K
  refine lexX_step (fun K hK => ⟨by kernel_rfl, ⟨_, rfl⟩, fun v hv => ?_, fun v hv => ?_⟩)
  · have q9 := hp.below hv
    have q0 := q9.a2.c0
    have q1 := q9.a2.c1
    have q2 := q9.a2.c2
    go_simp
    exact mUpon_b
  subst hv
  go_simp
  refine hK _ ?_
  clear hK K
  refine lexX_step (fun K hK => ⟨by kernel_rfl, ⟨_, rfl⟩, fun v hv => ?_, fun v hv => ?_⟩)
  · go_simp
    refine (hd0 _).mono ?_
    rintro e w9 ⟨rfl, k⟩
    exact ⟨_, rfl, rfl, k⟩
  subst hv
  go_simp
  refine hK _ ?_
  clear hK K
  refine lexX_step (fun K hK => ⟨by kernel_rfl, ⟨_, rfl⟩, fun v hv => ?_, fun v hv => ?_⟩)
  · go_simp
    exact mUpon_b
  subst hv
  go_simp
  refine hK _ ?_
  clear hK K
  refine lexX_step (fun K hK => ⟨by kernel_rfl, ⟨_, rfl⟩, fun v hv => ?_, fun v hv => ?_⟩)
  · go_simp
    exact mUpon_b
  subst hv
  go_simp
  refine hK _ ?_
  clear hK K
  refine lexX_step (fun K hK => ⟨by kernel_rfl, ⟨_, rfl⟩, fun v hv => ?_, fun v hv => ?_⟩)
  · go_simp
    exact mUpon_b
  subst hv
  go_simp
  refine hK _ ?_
  clear hK K
  refine lexX_step (fun K hK => ⟨by kernel_rfl, ⟨_, rfl⟩, fun v hv => ?_, fun v hv => ?_⟩)
  · have q9 := hp.below hv
    have q0 := q9.a2.c0
    have q1 := q9.a2.c1
    have q2 := q9.a2.c2
    go_simp
    exact mUpon_b
  subst hv
  go_simp
  refine hK _ ?_
  clear hK K
  refine lexX_step (fun K hK => ⟨by kernel_rfl, ⟨_, rfl⟩, fun v hv => ?_, fun v hv => ?_⟩)
  · go_simp
    exact mUpon_b
  subst hv
  go_simp
  refine hK _ ?_
  clear hK K
  refine lexX_step (fun K hK => ⟨by kernel_rfl, ⟨_, rfl⟩, fun v hv => ?_, fun v hv => ?_⟩)
  · go_simp
    exact mUpon_b
  subst hv
  go_simp
  refine hK _ ?_
  clear hK K
  refine lexX_step (fun K hK => ⟨by kernel_rfl, ⟨_, rfl⟩, fun v hv => ?_, fun v hv => ?_⟩)
  · go_simp
    exact mUpon_b
  subst hv
  go_simp
  refine hK _ ?_
  clear hK K
  refine lexX_step (fun K hK => ⟨by kernel_rfl, ⟨_, rfl⟩, fun v hv => ?_, fun v hv => ?_⟩)
  · have q9 := hp.below hv
    have q0 := q9.a0.c0
    have q1 := q9.a0.c1
    have q2 := q9.a0.c2
    go_simp
    exact mUpon_b
  subst hv
  go_simp
  refine hK _ ?_
  clear hK K
  refine lexX_step (fun K hK => ⟨by kernel_rfl, ⟨_, rfl⟩, fun v hv => ?_, fun v hv => ?_⟩)
  · go_simp
    refine (hd1 _).mono ?_
    rintro e w9 ⟨rfl, k⟩
    exact ⟨_, rfl, rfl, k⟩
  subst hv
  go_simp
  refine hK _ ?_
  clear hK K
  refine lexX_step (fun K hK => ⟨by kernel_rfl, ⟨_, rfl⟩, fun v hv => ?_, fun v hv => ?_⟩)
  · go_simp
    exact mUpon_b
  subst hv
  go_simp
  refine hK _ ?_
  clear hK K
  refine lexX_step (fun K hK => ⟨by kernel_rfl, ⟨_, rfl⟩, fun v hv => ?_, fun v hv => ?_⟩)
  · go_simp
    exact mUpon_b
  subst hv
  go_simp
  refine hK _ ?_
  clear hK K
  refine lexX_step (fun K hK => ⟨by kernel_rfl, ⟨_, rfl⟩, fun v hv => ?_, fun v hv => ?_⟩)
  · go_simp
    exact mUpon_b
  subst hv
  go_simp
  refine hK _ ?_
  clear hK K
  refine lexX_step (fun K hK => ⟨by kernel_rfl, ⟨_, rfl⟩, fun v hv => ?_, fun v hv => ?_⟩)
  · have q9 := hp.below hv
    have q0 := q9.a0.c0
    have q1 := q9.a0.c1
    have q2 := q9.a0.c2
    go_simp
    exact mUpon_b
  subst hv
  go_simp
  refine hK _ ?_
  clear hK K
  refine lexX_step (fun K hK => ⟨by kernel_rfl, ⟨_, rfl⟩, fun v hv => ?_, fun v hv => ?_⟩)
  · go_simp
    exact mUpon_b
  subst hv
  go_simp
  refine hK _ ?_
  clear hK K
  refine lexX_step (fun K hK => ⟨by kernel_rfl, ⟨_, rfl⟩, fun v hv => ?_, fun v hv => ?_⟩)
  · go_simp
    exact mUpon_b
  subst hv
  go_simp
  refine hK _ ?_
  clear hK K
  refine lexX_step (fun K hK => ⟨by kernel_rfl, ⟨_, rfl⟩, fun v hv => ?_, fun v hv => ?_⟩)
  · go_simp
    exact mUpon_b
  subst hv
  go_simp
  refine hK _ ?_
  clear hK K
  refine lexX_step (fun K hK => ⟨by kernel_rfl, ⟨_, rfl⟩, fun v hv => ?_, fun v hv => ?_⟩)
  · have q9 := hp.below hv
    have q0 := q9.a1.c0
    have q1 := q9.a1.c1
    have q2 := q9.a1.c2
    go_simp
    exact mUpon_b
  subst hv
  go_simp
  refine hK _ ?_
  clear hK K
  refine lexX_step (fun K hK => ⟨by kernel_rfl, ⟨_, rfl⟩, fun v hv => ?_, fun v hv => ?_⟩)
  · go_simp
    refine (hd2 _).mono ?_
    rintro e w9 ⟨rfl, k⟩
    exact ⟨_, rfl, rfl, k⟩
  subst hv
  go_simp
  refine hK _ ?_
  clear hK K
  refine lexX_end (fun v6 hv => ?_)
  have k5 := hv.low
  clear hv hd0 hd1 hd2
  replace HB := hideR (below_go (unhideR HB) k5)
  replace hz := keepB hz k5
  replace zA := keepB zA k5
  replace hp := hp.below k5
  have HA1 : HeldR (A < v6.heap.size) := hideR (Nat.lt_of_lt_of_le (unhideR HA0).1 k5.size)
  clear k5
  refine wpAny_step (i := 27) (by kernel_rfl) rfl (by kernel_rfl) (fun K hK => ?_)
  unfold Oper.wp
  go_simp
  refine hK _ _ ?_
  clear hK K
  refine wpAny_step (i := 28) (by kernel_rfl) rfl (by kernel_rfl) (fun K hK => ?_)
  unfold Oper.wp
  go_simp
  refine hK _ _ ?_
  clear hK K
  refine wpAny_end (by kernel_rfl) ?_
  have zF := alloc_last v6 (.cells #[.int .i64 d0, .int .i64 d1, .int .i64 d2] 3)
  have kF := below_a v6 (.cells #[.int .i64 d0, .int .i64 d1, .int .i64 d2] 3)
  have HW : HeldR (RkW w w.heap.size K A v6.heap.size b off p0 p1 p2 ⟨d0, 0⟩ ⟨d1, 1⟩ ⟨d2, 2⟩ (v6.alloc (.cells #[.int .i64 d0, .int .i64 d1, .int .i64 d2] 3))) := hideR ⟨keepB hz kF, keepB zA kF, zF, hp.below kF, below_go (unhideR HB) kF, by
    have q1 := unhideR HbA
    have q2 := unhideR HA0
    have q3 := unhideR HA1
    have q4 := unhideR HK
    omega⟩
  clear zF kF hz zA hp HB HbA HA0 HA1
  go_upto_region 8 with fail
  generalize v6.alloc (.cells #[.int .i64 d0, .int .i64 d1, .int .i64 d2] 3) = u6 at *
  generalize v6.heap.size = F at *
  have HO : HeldR (out 0 ((⟨d0, 0⟩, ⟨d1, 1⟩, ⟨d2, 2⟩) : Rk × Rk × Rk) = out 0 (rk0 p0 p1 p2)) := hideR (by rw [unhideR HR0])
  clear HR0
  have HFi : HeldR (∀ x0 x1 x2, out 2 (x0, x1, x2) = out 0 (rk0 p0 p1 p2) → rkF p0 p1 p2 x0 x1 x2) := hideR (fun _ _ _ h => h.symm)
  generalize out 0 (rk0 p0 p1 p2) = R at *
  go_wp2_with fail
  go_loopw [15] (fun nv wl => ∃ m : Nat, m ≤ 2 ∧ nv = .int .i64 (m : Nat) ∧ ∃ x0 x1 x2 : Rk, HeldR (out m (x0, x1, x2) = R) ∧ HeldR (RkW w w.heap.size K A F b off p0 p1 p2 x0 x1 x2 wl)) (fun nv _ => 3 - (intOf nv).toNat)
  case atStart => exact ⟨0, by omega, rfl, _, _, _, HO, HW⟩
  case round =>
    clear HO HW
    obtain ⟨m, hm, rfl, x0, x1, x2, HO, HW⟩ := hrel
    by_cases hm2 : m < 2
    · have tm : decide ((m : Int) < 2) = true := decide_eq_true (by omega)
      have tmn : decide (m < 2) = true := decide_eq_true hm2
      have wm : IntKind.i64.wrap ((m : Int) + 1) = (m : Int) + 1 := iwrap (by omega) (by omega)
      have HN : HeldR (out (m + 1) (inn 0 (x0, x1, x2)) = R) := hideR (by
        have q := unhideR HO
        rcases (show m = 0 ∨ m = 1 by omega) with rfl | rfl
        · exact q
        · exact q)
      have HI : HeldR (inn 0 (x0, x1, x2) = inn 0 (x0, x1, x2)) := hideR rfl
      obtain ⟨G, hG⟩ : ∃ G, inn 0 (x0, x1, x2) = G := ⟨_, rfl⟩
      rw [hG] at HN
      replace HI : HeldR (inn 0 (x0, x1, x2) = G) := hideR hG
      clear hG HO
      go_wp2_with fail
      go_loopw [16] (fun iv wl => ∃ i : Nat, i ≤ 2 ∧ iv = .int .i64 (i : Nat) ∧ ∃ x0 x1 x2 : Rk, HeldR (inn i (x0, x1, x2) = G) ∧ HeldR (RkW w w.heap.size K A F b off p0 p1 p2 x0 x1 x2 wl)) (fun iv _ => 3 - (intOf iv).toNat)
      case atStart => exact ⟨0, by omega, rfl, _, _, _, HI, HW⟩
      case round =>
        clear HI HW x0 x1 x2
        obtain ⟨i, hi, rfl, x0, x1, x2, HI, HW⟩ := hrel
        rcases (show i = 0 ∨ i = 1 ∨ i = 2 by omega) with rfl | rfl | rfl
        · clear hi
          by_cases q : x0.d < x1.d
          · have tq : decide (x0.d < x1.d) = true := decide_eq_true q
            have HI2 : HeldR (inn 1 (x1, x0, x2) = G) := hideR (by rw [← inn0_yes q]; exact unhideR HI)
            clear HI q
            go_upto_region 14 with fail
            have H2 := hideR (unhideR HW).drew
            clear HW
            have y0 := (cells_at (unhideR H2).f 0 (by simp)).1
            have g0 := (cells_at (unhideR H2).f 0 (by simp)).2
            have a0 := (cells_at (unhideR H2).a 0 (by simp)).1
            have e0 := (cells_at (unhideR H2).a 0 (by simp)).2
            have y1 := (cells_at (unhideR H2).f 1 (by simp)).1
            have g1 := (cells_at (unhideR H2).f 1 (by simp)).2
            have a1 := (cells_at (unhideR H2).a 1 (by simp)).1
            have e1 := (cells_at (unhideR H2).a 1 (by simp)).2
            have y2 := (cells_at (unhideR H2).f 2 (by simp)).1
            have g2 := (cells_at (unhideR H2).f 2 (by simp)).2
            have a2 := (cells_at (unhideR H2).a 2 (by simp)).1
            have e2 := (cells_at (unhideR H2).a 2 (by simp)).2
            go_region
            generalize wr.drew = u6 at *
            clear y0 g0 a0 e0 y1 g1 a1 e1 y2 g2 a2 e2
            go_upto_region 15 with fail
            have H3 := hideR (unhideR H2).drew
            have y0 := (cells_at (unhideR H3).f 0 (by simp)).1
            have g0 := (cells_at (unhideR H3).f 0 (by simp)).2
            have a0 := (cells_at (unhideR H3).a 0 (by simp)).1
            have e0 := (cells_at (unhideR H3).a 0 (by simp)).2
            have y1 := (cells_at (unhideR H3).f 1 (by simp)).1
            have g1 := (cells_at (unhideR H3).f 1 (by simp)).2
            have a1 := (cells_at (unhideR H3).a 1 (by simp)).1
            have e1 := (cells_at (unhideR H3).a 1 (by simp)).2
            have y2 := (cells_at (unhideR H3).f 2 (by simp)).1
            have g2 := (cells_at (unhideR H3).f 2 (by simp)).2
            have a2 := (cells_at (unhideR H3).a 2 (by simp)).1
            have e2 := (cells_at (unhideR H3).a 2 (by simp)).2
            have m1 := (cells_at (one_at3 (unhideR H3).f 0 (.int .i64 x1.d)) 1 (by simp)).1
            have m2 := (cells_at (one_at3 (unhideR H3).f 0 (.int .i64 x1.d)) 1 (by simp)).2
            replace m1 : (u6.setCell ⟨F, 0, none⟩ (.int .i64 x1.d)).drew.cell? ⟨F, 1, none⟩ = some (.int .i64 x1.d) := m1
            replace m2 : (u6.setCell ⟨F, 0, none⟩ (.int .i64 x1.d)).drew.frozen? ⟨F, 1, none⟩ = false := m2
            go_region
            clear m1 m2
            have H4 : HeldR (RkW w w.heap.size K A F b off p0 p1 p2 ⟨x1.d, x0.k⟩ ⟨x0.d, x1.k⟩ x2 (((u6.setCell ⟨F, 0, none⟩ (.int .i64 x1.d)).setCell ⟨F, 1, none⟩ (.int .i64 x0.d)).drew)) := hideR (unhideR H2).f01.drew
            clear H2 H3 y0 g0 a0 e0 y1 g1 a1 e1 y2 g2 a2 e2
            generalize ((u6.setCell ⟨F, 0, none⟩ (.int .i64 x1.d)).setCell ⟨F, 1, none⟩ (.int .i64 x0.d)).drew = u8 at *
            go_upto_region 16 with fail
            have H5 := hideR (unhideR H4).drew
            have y0 := (cells_at (unhideR H5).f 0 (by simp)).1
            have g0 := (cells_at (unhideR H5).f 0 (by simp)).2
            have a0 := (cells_at (unhideR H5).a 0 (by simp)).1
            have e0 := (cells_at (unhideR H5).a 0 (by simp)).2
            have y1 := (cells_at (unhideR H5).f 1 (by simp)).1
            have g1 := (cells_at (unhideR H5).f 1 (by simp)).2
            have a1 := (cells_at (unhideR H5).a 1 (by simp)).1
            have e1 := (cells_at (unhideR H5).a 1 (by simp)).2
            have y2 := (cells_at (unhideR H5).f 2 (by simp)).1
            have g2 := (cells_at (unhideR H5).f 2 (by simp)).2
            have a2 := (cells_at (unhideR H5).a 2 (by simp)).1
            have e2 := (cells_at (unhideR H5).a 2 (by simp)).2
            have m1 := (cells_at (one_at3 (unhideR H5).a 0 (.int .i64 (x1.k : Nat))) 1 (by simp)).1
            have m2 := (cells_at (one_at3 (unhideR H5).a 0 (.int .i64 (x1.k : Nat))) 1 (by simp)).2
            replace m1 : (u8.setCell ⟨A, 0, none⟩ (.int .i64 (x1.k : Nat))).drew.cell? ⟨A, 1, none⟩ = some (.int .i64 (x1.k : Nat)) := m1
            replace m2 : (u8.setCell ⟨A, 0, none⟩ (.int .i64 (x1.k : Nat))).drew.frozen? ⟨A, 1, none⟩ = false := m2
            go_region
            clear m1 m2
            have H6 : HeldR (RkW w w.heap.size K A F b off p0 p1 p2 x1 x0 x2 (((u8.setCell ⟨A, 0, none⟩ (.int .i64 (x1.k : Nat))).setCell ⟨A, 1, none⟩ (.int .i64 (x0.k : Nat))).drew)) := hideR (unhideR H4).a01.drew
            clear H4 H5 y0 g0 a0 e0 y1 g1 a1 e1 y2 g2 a2 e2
            generalize ((u8.setCell ⟨A, 0, none⟩ (.int .i64 (x1.k : Nat))).setCell ⟨A, 1, none⟩ (.int .i64 (x0.k : Nat))).drew = u10 at *
            go_wp2
            exact ⟨⟨1, by omega, by go_num, x1, x0, x2, HI2, H6⟩, by simp [intOf]⟩
          · have tq : decide (x0.d < x1.d) = false := decide_eq_false q
            have HI2 : HeldR (inn 1 (x0, x1, x2) = G) := hideR (by rw [← inn0_no q]; exact unhideR HI)
            clear HI q
            go_upto_region 14 with fail
            have H2 := hideR (unhideR HW).drew
            clear HW
            have y0 := (cells_at (unhideR H2).f 0 (by simp)).1
            have g0 := (cells_at (unhideR H2).f 0 (by simp)).2
            have a0 := (cells_at (unhideR H2).a 0 (by simp)).1
            have e0 := (cells_at (unhideR H2).a 0 (by simp)).2
            have y1 := (cells_at (unhideR H2).f 1 (by simp)).1
            have g1 := (cells_at (unhideR H2).f 1 (by simp)).2
            have a1 := (cells_at (unhideR H2).a 1 (by simp)).1
            have e1 := (cells_at (unhideR H2).a 1 (by simp)).2
            have y2 := (cells_at (unhideR H2).f 2 (by simp)).1
            have g2 := (cells_at (unhideR H2).f 2 (by simp)).2
            have a2 := (cells_at (unhideR H2).a 2 (by simp)).1
            have e2 := (cells_at (unhideR H2).a 2 (by simp)).2
            go_region
            generalize wr.drew = u6 at *
            clear y0 g0 a0 e0 y1 g1 a1 e1 y2 g2 a2 e2
            go_wp2
            exact ⟨⟨1, by omega, by go_num, x0, x1, x2, HI2, H2⟩, by simp [intOf]⟩
        · clear hi
          by_cases q : x1.d < x2.d
          · have tq : decide (x1.d < x2.d) = true := decide_eq_true q
            have HI2 : HeldR (inn 2 (x0, x2, x1) = G) := hideR (by rw [← inn1_yes q]; exact unhideR HI)
            clear HI q
            go_upto_region 14 with fail
            have H2 := hideR (unhideR HW).drew
            clear HW
            have y0 := (cells_at (unhideR H2).f 0 (by simp)).1
            have g0 := (cells_at (unhideR H2).f 0 (by simp)).2
            have a0 := (cells_at (unhideR H2).a 0 (by simp)).1
            have e0 := (cells_at (unhideR H2).a 0 (by simp)).2
            have y1 := (cells_at (unhideR H2).f 1 (by simp)).1
            have g1 := (cells_at (unhideR H2).f 1 (by simp)).2
            have a1 := (cells_at (unhideR H2).a 1 (by simp)).1
            have e1 := (cells_at (unhideR H2).a 1 (by simp)).2
            have y2 := (cells_at (unhideR H2).f 2 (by simp)).1
            have g2 := (cells_at (unhideR H2).f 2 (by simp)).2
            have a2 := (cells_at (unhideR H2).a 2 (by simp)).1
            have e2 := (cells_at (unhideR H2).a 2 (by simp)).2
            go_region
            generalize wr.drew = u6 at *
            clear y0 g0 a0 e0 y1 g1 a1 e1 y2 g2 a2 e2
            go_upto_region 15 with fail
            have H3 := hideR (unhideR H2).drew
            have y0 := (cells_at (unhideR H3).f 0 (by simp)).1
            have g0 := (cells_at (unhideR H3).f 0 (by simp)).2
            have a0 := (cells_at (unhideR H3).a 0 (by simp)).1
            have e0 := (cells_at (unhideR H3).a 0 (by simp)).2
            have y1 := (cells_at (unhideR H3).f 1 (by simp)).1
            have g1 := (cells_at (unhideR H3).f 1 (by simp)).2
            have a1 := (cells_at (unhideR H3).a 1 (by simp)).1
            have e1 := (cells_at (unhideR H3).a 1 (by simp)).2
            have y2 := (cells_at (unhideR H3).f 2 (by simp)).1
            have g2 := (cells_at (unhideR H3).f 2 (by simp)).2
            have a2 := (cells_at (unhideR H3).a 2 (by simp)).1
            have e2 := (cells_at (unhideR H3).a 2 (by simp)).2
            have m1 := (cells_at (one_at3 (unhideR H3).f 1 (.int .i64 x2.d)) 2 (by simp)).1
            have m2 := (cells_at (one_at3 (unhideR H3).f 1 (.int .i64 x2.d)) 2 (by simp)).2
            replace m1 : (u6.setCell ⟨F, 1, none⟩ (.int .i64 x2.d)).drew.cell? ⟨F, 2, none⟩ = some (.int .i64 x2.d) := m1
            replace m2 : (u6.setCell ⟨F, 1, none⟩ (.int .i64 x2.d)).drew.frozen? ⟨F, 2, none⟩ = false := m2
            go_region
            clear m1 m2
            have H4 : HeldR (RkW w w.heap.size K A F b off p0 p1 p2 x0 ⟨x2.d, x1.k⟩ ⟨x1.d, x2.k⟩ (((u6.setCell ⟨F, 1, none⟩ (.int .i64 x2.d)).setCell ⟨F, 2, none⟩ (.int .i64 x1.d)).drew)) := hideR (unhideR H2).f12.drew
            clear H2 H3 y0 g0 a0 e0 y1 g1 a1 e1 y2 g2 a2 e2
            generalize ((u6.setCell ⟨F, 1, none⟩ (.int .i64 x2.d)).setCell ⟨F, 2, none⟩ (.int .i64 x1.d)).drew = u8 at *
            go_upto_region 16 with fail
            have H5 := hideR (unhideR H4).drew
            have y0 := (cells_at (unhideR H5).f 0 (by simp)).1
            have g0 := (cells_at (unhideR H5).f 0 (by simp)).2
            have a0 := (cells_at (unhideR H5).a 0 (by simp)).1
            have e0 := (cells_at (unhideR H5).a 0 (by simp)).2
            have y1 := (cells_at (unhideR H5).f 1 (by simp)).1
            have g1 := (cells_at (unhideR H5).f 1 (by simp)).2
            have a1 := (cells_at (unhideR H5).a 1 (by simp)).1
            have e1 := (cells_at (unhideR H5).a 1 (by simp)).2
            have y2 := (cells_at (unhideR H5).f 2 (by simp)).1
            have g2 := (cells_at (unhideR H5).f 2 (by simp)).2
            have a2 := (cells_at (unhideR H5).a 2 (by simp)).1
            have e2 := (cells_at (unhideR H5).a 2 (by simp)).2
            have m1 := (cells_at (one_at3 (unhideR H5).a 1 (.int .i64 (x2.k : Nat))) 2 (by simp)).1
            have m2 := (cells_at (one_at3 (unhideR H5).a 1 (.int .i64 (x2.k : Nat))) 2 (by simp)).2
            replace m1 : (u8.setCell ⟨A, 1, none⟩ (.int .i64 (x2.k : Nat))).drew.cell? ⟨A, 2, none⟩ = some (.int .i64 (x2.k : Nat)) := m1
            replace m2 : (u8.setCell ⟨A, 1, none⟩ (.int .i64 (x2.k : Nat))).drew.frozen? ⟨A, 2, none⟩ = false := m2
            go_region
            clear m1 m2
            have H6 : HeldR (RkW w w.heap.size K A F b off p0 p1 p2 x0 x2 x1 (((u8.setCell ⟨A, 1, none⟩ (.int .i64 (x2.k : Nat))).setCell ⟨A, 2, none⟩ (.int .i64 (x1.k : Nat))).drew)) := hideR (unhideR H4).a12.drew
            clear H4 H5 y0 g0 a0 e0 y1 g1 a1 e1 y2 g2 a2 e2
            generalize ((u8.setCell ⟨A, 1, none⟩ (.int .i64 (x2.k : Nat))).setCell ⟨A, 2, none⟩ (.int .i64 (x1.k : Nat))).drew = u10 at *
            go_wp2
            exact ⟨⟨2, by omega, by go_num, x0, x2, x1, HI2, H6⟩, by simp [intOf]⟩
          · have tq : decide (x1.d < x2.d) = false := decide_eq_false q
            have HI2 : HeldR (inn 2 (x0, x1, x2) = G) := hideR (by rw [← inn1_no q]; exact unhideR HI)
            clear HI q
            go_upto_region 14 with fail
            have H2 := hideR (unhideR HW).drew
            clear HW
            have y0 := (cells_at (unhideR H2).f 0 (by simp)).1
            have g0 := (cells_at (unhideR H2).f 0 (by simp)).2
            have a0 := (cells_at (unhideR H2).a 0 (by simp)).1
            have e0 := (cells_at (unhideR H2).a 0 (by simp)).2
            have y1 := (cells_at (unhideR H2).f 1 (by simp)).1
            have g1 := (cells_at (unhideR H2).f 1 (by simp)).2
            have a1 := (cells_at (unhideR H2).a 1 (by simp)).1
            have e1 := (cells_at (unhideR H2).a 1 (by simp)).2
            have y2 := (cells_at (unhideR H2).f 2 (by simp)).1
            have g2 := (cells_at (unhideR H2).f 2 (by simp)).2
            have a2 := (cells_at (unhideR H2).a 2 (by simp)).1
            have e2 := (cells_at (unhideR H2).a 2 (by simp)).2
            go_region
            generalize wr.drew = u6 at *
            clear y0 g0 a0 e0 y1 g1 a1 e1 y2 g2 a2 e2
            go_wp2
            exact ⟨⟨2, by omega, by go_num, x0, x1, x2, HI2, H2⟩, by simp [intOf]⟩
        · have HO2 : HeldR (out (m + 1) (x0, x1, x2) = R) := hideR (by
            have q : (x0, x1, x2) = G := unhideR HI
            rw [q]
            exact unhideR HN)
          clear HI
          go_wp2
          exact ⟨⟨m + 1, by omega, by go_num, x0, x1, x2, HO2, HW⟩, by simp [intOf]; omega⟩
    · obtain rfl : m = 2 := by omega
      have hF := unhideR HFi x0 x1 x2 (unhideR HO)
      go_upto_region 17 with fail
      refine wp_region_made 0 #[true, true, true, true, true, true, true, true, true, true, true, true, true, true, true, true, true, true, true, true, true, false] [.lets (· = .slice (some ⟨F, 0, none⟩) 3 3),
        .lets (· = .pointer (some ⟨F, 0, none⟩)),
        .lets (· = .int .i64 x0.d),
        .lets (· = .slice (some ⟨F, 0, none⟩) 3 3),
        .lets (· = .pointer (some ⟨F, 1, none⟩)),
        .lets (· = .int .i64 x1.d),
        .lets (· = .slice (some ⟨F, 0, none⟩) 3 3),
        .lets (· = .pointer (some ⟨F, 2, none⟩)),
        .lets (· = .int .i64 x2.d),
        .lets (· = .agg #[.int .i64 x0.d, .int .i64 x1.d, .int .i64 x2.d, .int .i64 0]),
        .lets (· = .slice (some ⟨A, 0, none⟩) 3 3),
        .lets (· = .pointer (some ⟨A, 0, none⟩)),
        .lets (· = .int .i64 (x0.k : Nat)),
        .lets (· = .slice (some ⟨A, 0, none⟩) 3 3),
        .lets (· = .pointer (some ⟨A, 1, none⟩)),
        .lets (· = .int .i64 (x1.k : Nat)),
        .lets (· = .slice (some ⟨A, 0, none⟩) 3 3),
        .lets (· = .pointer (some ⟨A, 2, none⟩)),
        .lets (· = .int .i64 (x2.k : Nat)),
        .lets (· = .agg #[.int .i64 x0.d, .int .i64 x1.d, .int .i64 x2.d, .int .i64 (0), .int .i64 (x0.k : Nat), .int .i64 (x1.k : Nat), .int .i64 (x2.k : Nat)]),
        .made MdP (R7At wr.heap.size)] [20] [] (by kernel_rfl) (by kernel_rfl) rfl ?kinds (by kernel_rfl) (by kernel_rfl) (by kernel_rfl) ?_
      case kinds =>
        constructor
        · intro i h
          rcases i with _ | _ | _ | _ | _ | _ | _ | _ | _ | _ | _ | _ | _ | _ | _ | _ | _ | _ | _ | _ | _ | i <;> simp [Kx.isMade] at h ⊢
        · intro i h
          rcases i with _ | _ | _ | _ | _ | _ | _ | _ | _ | _ | _ | _ | _ | _ | _ | _ | _ | _ | _ | _ | _ | i <;> simp [Kx.isUse] at h
      refine lexX_step (fun K hK => ⟨by kernel_rfl, ⟨_, rfl⟩, fun v hv => ?_, fun v hv => ?_⟩)
      · go_simp
        exact mUpon_b
      subst hv
      go_simp
      refine hK _ ?_
      clear hK K
      refine lexX_step (fun K hK => ⟨by kernel_rfl, ⟨_, rfl⟩, fun v hv => ?_, fun v hv => ?_⟩)
      · go_simp
        exact mUpon_b
      subst hv
      go_simp
      refine hK _ ?_
      clear hK K
      refine lexX_step (fun K hK => ⟨by kernel_rfl, ⟨_, rfl⟩, fun v hv => ?_, fun v hv => ?_⟩)
      · have q9 := (cells_at (keepB (unhideR HW).f hv) 0 (by simp)).1
        go_simp
        exact mUpon_b
      subst hv
      go_simp
      refine hK _ ?_
      clear hK K
      refine lexX_step (fun K hK => ⟨by kernel_rfl, ⟨_, rfl⟩, fun v hv => ?_, fun v hv => ?_⟩)
      · go_simp
        exact mUpon_b
      subst hv
      go_simp
      refine hK _ ?_
      clear hK K
      refine lexX_step (fun K hK => ⟨by kernel_rfl, ⟨_, rfl⟩, fun v hv => ?_, fun v hv => ?_⟩)
      · go_simp
        exact mUpon_b
      subst hv
      go_simp
      refine hK _ ?_
      clear hK K
      refine lexX_step (fun K hK => ⟨by kernel_rfl, ⟨_, rfl⟩, fun v hv => ?_, fun v hv => ?_⟩)
      · have q9 := (cells_at (keepB (unhideR HW).f hv) 1 (by simp)).1
        go_simp
        exact mUpon_b
      subst hv
      go_simp
      refine hK _ ?_
      clear hK K
      refine lexX_step (fun K hK => ⟨by kernel_rfl, ⟨_, rfl⟩, fun v hv => ?_, fun v hv => ?_⟩)
      · go_simp
        exact mUpon_b
      subst hv
      go_simp
      refine hK _ ?_
      clear hK K
      refine lexX_step (fun K hK => ⟨by kernel_rfl, ⟨_, rfl⟩, fun v hv => ?_, fun v hv => ?_⟩)
      · go_simp
        exact mUpon_b
      subst hv
      go_simp
      refine hK _ ?_
      clear hK K
      refine lexX_step (fun K hK => ⟨by kernel_rfl, ⟨_, rfl⟩, fun v hv => ?_, fun v hv => ?_⟩)
      · have q9 := (cells_at (keepB (unhideR HW).f hv) 2 (by simp)).1
        go_simp
        exact mUpon_b
      subst hv
      go_simp
      refine hK _ ?_
      clear hK K
      refine lexX_step (fun K hK => ⟨by kernel_rfl, ⟨_, rfl⟩, fun v hv => ?_, fun v hv => ?_⟩)
      · go_simp
        exact mUpon_b
      subst hv
      go_simp
      refine hK _ ?_
      clear hK K
      refine lexX_step (fun K hK => ⟨by kernel_rfl, ⟨_, rfl⟩, fun v hv => ?_, fun v hv => ?_⟩)
      · go_simp
        exact mUpon_b
      subst hv
      go_simp
      refine hK _ ?_
      clear hK K
      refine lexX_step (fun K hK => ⟨by kernel_rfl, ⟨_, rfl⟩, fun v hv => ?_, fun v hv => ?_⟩)
      · go_simp
        exact mUpon_b
      subst hv
      go_simp
      refine hK _ ?_
      clear hK K
      refine lexX_step (fun K hK => ⟨by kernel_rfl, ⟨_, rfl⟩, fun v hv => ?_, fun v hv => ?_⟩)
      · have q9 := (cells_at (keepB (unhideR HW).a hv) 0 (by simp)).1
        go_simp
        exact mUpon_b
      subst hv
      go_simp
      refine hK _ ?_
      clear hK K
      refine lexX_step (fun K hK => ⟨by kernel_rfl, ⟨_, rfl⟩, fun v hv => ?_, fun v hv => ?_⟩)
      · go_simp
        exact mUpon_b
      subst hv
      go_simp
      refine hK _ ?_
      clear hK K
      refine lexX_step (fun K hK => ⟨by kernel_rfl, ⟨_, rfl⟩, fun v hv => ?_, fun v hv => ?_⟩)
      · go_simp
        exact mUpon_b
      subst hv
      go_simp
      refine hK _ ?_
      clear hK K
      refine lexX_step (fun K hK => ⟨by kernel_rfl, ⟨_, rfl⟩, fun v hv => ?_, fun v hv => ?_⟩)
      · have q9 := (cells_at (keepB (unhideR HW).a hv) 1 (by simp)).1
        go_simp
        exact mUpon_b
      subst hv
      go_simp
      refine hK _ ?_
      clear hK K
      refine lexX_step (fun K hK => ⟨by kernel_rfl, ⟨_, rfl⟩, fun v hv => ?_, fun v hv => ?_⟩)
      · go_simp
        exact mUpon_b
      subst hv
      go_simp
      refine hK _ ?_
      clear hK K
      refine lexX_step (fun K hK => ⟨by kernel_rfl, ⟨_, rfl⟩, fun v hv => ?_, fun v hv => ?_⟩)
      · go_simp
        exact mUpon_b
      subst hv
      go_simp
      refine hK _ ?_
      clear hK K
      refine lexX_step (fun K hK => ⟨by kernel_rfl, ⟨_, rfl⟩, fun v hv => ?_, fun v hv => ?_⟩)
      · have q9 := (cells_at (keepB (unhideR HW).a hv) 2 (by simp)).1
        go_simp
        exact mUpon_b
      subst hv
      go_simp
      refine hK _ ?_
      clear hK K
      refine lexX_step (fun K hK => ⟨by kernel_rfl, ⟨_, rfl⟩, fun v hv => ?_, fun v hv => ?_⟩)
      · go_simp
        exact mUpon_b
      subst hv
      go_simp
      refine hK _ ?_
      clear hK K
      refine lexX_made ⟨by kernel_rfl, ⟨_, 0, rfl⟩, r7_stb _, fun v hv => ?_, ?_⟩
      · go_simp
        refine ⟨(Below.refl _ v).alloc (Nat.le_refl _) _, ⟨_, rfl⟩, fun b' e => ?_⟩
        cases e
        exact ⟨alloc_last v _, hv.size⟩
      rintro _ ⟨G, rfl⟩ K hK
      go_simp
      refine hK _ ?_
      clear hK K
      refine lexX_end (fun v17 hv => ?_)
      have hn := hv.fact.2 G rfl
      have k5 := hv.low
      clear hv
      have HG : HeldR (A < G ∧ F < G ∧ K < G ∧ b < G ∧ w.heap.size ≤ G) := hideR (by
        have q1 := (unhideR HW).lt
        have q2 := hn.2
        omega)
      have H1 := hideR ((unhideR HW).go k5)
      have zN := hn.1
      clear HW k5 hn
      have o0 := (cells_at zN 0 (by simp)).1
      have f0 := (cells_at zN 0 (by simp)).2
      have o1 := (cells_at zN 1 (by simp)).1
      have f1 := (cells_at zN 1 (by simp)).2
      have o2 := (cells_at zN 2 (by simp)).1
      have f2 := (cells_at zN 2 (by simp)).2
      have o3 := (cells_at zN 3 (by simp)).1
      have f3 := (cells_at zN 3 (by simp)).2
      have o4 := (cells_at zN 4 (by simp)).1
      have f4 := (cells_at zN 4 (by simp)).2
      have o5 := (cells_at zN 5 (by simp)).1
      have f5 := (cells_at zN 5 (by simp)).2
      have o6 := (cells_at zN 6 (by simp)).1
      have f6 := (cells_at zN 6 (by simp)).2
      have zR : (((((((v17.setCell ⟨G, 0, none⟩ (.int .i64 x0.d)).setCell ⟨G, 1, none⟩ (.int .i64 x1.d)).setCell ⟨G, 2, none⟩ (.int .i64 x2.d)).setCell ⟨G, 3, none⟩ (.int .i64 0)).setCell ⟨G, 4, none⟩ (.int .i64 (x0.k : Nat))).setCell ⟨G, 5, none⟩ (.int .i64 (x1.k : Nat))).setCell ⟨G, 6, none⟩ (.int .i64 (x2.k : Nat))).heap[G]? = some (.cells #[.int .i64 x0.d, .int .i64 x1.d, .int .i64 x2.d, .int .i64 (0), .int .i64 (x0.k : Nat), .int .i64 (x1.k : Nat), .int .i64 (x2.k : Nat)] 45) := set_all7 zN
      have H3 := hideR ((unhideR H1).set7 G (.int .i64 x0.d) (.int .i64 x1.d) (.int .i64 x2.d) (.int .i64 0) (.int .i64 (x0.k : Nat)) (.int .i64 (x1.k : Nat)) (.int .i64 (x2.k : Nat)) (unhideR HG))
      clear zN H1
      refine wpAny_step (i := 21) (by kernel_rfl) rfl (by kernel_rfl) (fun K hK => ?_)
      unfold Oper.wp
      go_simp
      refine hK _ _ ?_
      clear hK K
      refine wpAny_end (by kernel_rfl) ?_
      clear o0 f0 o1 f1 o2 f2 o3 f3 o4 f4 o5 f5 o6 f6
      generalize (((((((v17.setCell ⟨G, 0, none⟩ (.int .i64 x0.d)).setCell ⟨G, 1, none⟩ (.int .i64 x1.d)).setCell ⟨G, 2, none⟩ (.int .i64 x2.d)).setCell ⟨G, 3, none⟩ (.int .i64 0)).setCell ⟨G, 4, none⟩ (.int .i64 (x0.k : Nat))).setCell ⟨G, 5, none⟩ (.int .i64 (x1.k : Nat))).setCell ⟨G, 6, none⟩ (.int .i64 (x2.k : Nat))) = u17 at *
      have hk := rkF_k hF
      have kb0 : (x0.k : Int) < (n : Int) := by omega
      have kb1 : (x1.k : Int) < (n : Int) := by omega
      have kb2 : (x2.k : Int) < (n : Int) := by omega
      have kn0 : x0.k < n := by omega
      have kn1 : x1.k < n := by omega
      have kn2 : x2.k < n := by omega
      have HQ : HeldR (∀ v, Pt3 v b off p0 p1 p2 → PtAt v b (off + x0.k * 3) (ptK p0 p1 p2 x0.k) ∧ PtAt v b (off + x1.k * 3) (ptK p0 p1 p2 x1.k) ∧ PtAt v b (off + x2.k * 3) (ptK p0 p1 p2 x2.k)) := hideR (fun v hv => ⟨hv.at_ hk.1, hv.at_ hk.2.1, hv.at_ hk.2.2⟩)
      have ht := fun u => twice_any (ptK p0 p1 p2 x0.k) (ptK p0 p1 p2 x1.k) (ptK p0 p1 p2 x2.k) u (unhideR HP _) (unhideR HP _) (unhideR HP _)
      unfold Pt.val at ht
      have HE : HeldR (∀ h, h = rkH p0 p1 p2 x0 x1 x2 → PQ (.returned (.tuple #[.agg #[.int .i64 x0.d, .int .i64 x1.d, .int .i64 x2.d, .int .i64 (h), .int .i64 (x0.k : Nat), .int .i64 (x1.k : Nat), .int .i64 (x2.k : Nat)], .bool true]))) := hideR (fun h e => unhideR HYes x0 x1 x2 h hF e)
      have hH : rkH p0 p1 p2 x0 x1 x2 = if x0.d ≠ x1.d ∧ x1.d ≠ x2.d then (if twc (ptK p0 p1 p2 x0.k) (ptK p0 p1 p2 x1.k) (ptK p0 p1 p2 x2.k) < 0 then -1 else 1) else 0 := rfl
      clear hF HYes HFi HO hk HP
      generalize ptK p0 p1 p2 x0.k = Q0 at *
      generalize ptK p0 p1 p2 x1.k = Q1 at *
      generalize ptK p0 p1 p2 x2.k = Q2 at *
      generalize twc Q0 Q1 Q2 = T2 at *
      go_upto_region 18 with fail
      have H4 := H3
      clear H3
      by_cases q1 : x0.d = x1.d
      · have t2 : (x0.d != x1.d) = false := by simp [q1]
        rw [if_neg (fun q => q.1 q1)] at hH
        replace HE := hideR (unhideR HE 0 hH.symm)
        clear q1 hH ht HQ
        refine wp_region_made 0 #[true, true, true, true, true, true, true, true, true, true, true, true, true, true, true, false] [.lets (· = .slice (some ⟨F, 0, none⟩) 3 3),
          .lets (· = .pointer (some ⟨F, 0, none⟩)),
          .lets (· = .int .i64 x0.d),
          .lets (· = .slice (some ⟨F, 0, none⟩) 3 3),
          .lets (· = .pointer (some ⟨F, 1, none⟩)),
          .lets (· = .int .i64 x1.d),
          .lets (· = .bool false),
          .lets (· = .bool false),
          .lets (· = undef),
          .lets (· = undef),
          .lets (· = undef),
          .lets (· = undef),
          .lets (· = undef),
          .lets (· = undef),
          .lets (· = undef)] [] [] (by kernel_rfl) (by kernel_rfl) rfl ?kinds (by kernel_rfl) (by kernel_rfl) (by kernel_rfl) ?_
        case kinds =>
          constructor
          · intro i h
            rcases i with _ | _ | _ | _ | _ | _ | _ | _ | _ | _ | _ | _ | _ | _ | _ | i <;> simp [Kx.isMade] at h
          · intro i h
            rcases i with _ | _ | _ | _ | _ | _ | _ | _ | _ | _ | _ | _ | _ | _ | _ | i <;> simp [Kx.isUse] at h
        refine lexX_step (fun K hK => ⟨by kernel_rfl, ⟨_, rfl⟩, fun v hv => ?_, fun v hv => ?_⟩)
        · go_simp
          exact mUpon_b
        subst hv
        go_simp
        refine hK _ ?_
        clear hK K
        refine lexX_step (fun K hK => ⟨by kernel_rfl, ⟨_, rfl⟩, fun v hv => ?_, fun v hv => ?_⟩)
        · go_simp
          exact mUpon_b
        subst hv
        go_simp
        refine hK _ ?_
        clear hK K
        refine lexX_step (fun K hK => ⟨by kernel_rfl, ⟨_, rfl⟩, fun v hv => ?_, fun v hv => ?_⟩)
        · have q9 := (cells_at (keepB (unhideR H4).f hv) 0 (by simp)).1
          go_simp
          exact mUpon_b
        subst hv
        go_simp
        refine hK _ ?_
        clear hK K
        refine lexX_step (fun K hK => ⟨by kernel_rfl, ⟨_, rfl⟩, fun v hv => ?_, fun v hv => ?_⟩)
        · go_simp
          exact mUpon_b
        subst hv
        go_simp
        refine hK _ ?_
        clear hK K
        refine lexX_step (fun K hK => ⟨by kernel_rfl, ⟨_, rfl⟩, fun v hv => ?_, fun v hv => ?_⟩)
        · go_simp
          exact mUpon_b
        subst hv
        go_simp
        refine hK _ ?_
        clear hK K
        refine lexX_step (fun K hK => ⟨by kernel_rfl, ⟨_, rfl⟩, fun v hv => ?_, fun v hv => ?_⟩)
        · have q9 := (cells_at (keepB (unhideR H4).f hv) 1 (by simp)).1
          go_simp
          exact mUpon_b
        subst hv
        go_simp
        refine hK _ ?_
        clear hK K
        refine lexX_step (fun K hK => ⟨by kernel_rfl, ⟨_, rfl⟩, fun v hv => ?_, fun v hv => ?_⟩)
        · go_simp
          exact mUpon_b
        subst hv
        go_simp
        refine hK _ ?_
        clear hK K
        refine lexX_step (fun K hK => ⟨by kernel_rfl, ⟨_, rfl⟩, fun v hv => ?_, fun v hv => ?_⟩)
        · go_simp
          exact mUpon_b
        subst hv
        go_simp
        refine hK _ ?_
        clear hK K
        refine lexX_skip (fun K hK => ⟨by kernel_rfl, ?_⟩)
        go_simp
        refine hK _ ?_
        clear hK K
        refine lexX_skip (fun K hK => ⟨by kernel_rfl, ?_⟩)
        go_simp
        refine hK _ ?_
        clear hK K
        refine lexX_skip (fun K hK => ⟨by kernel_rfl, ?_⟩)
        go_simp
        refine hK _ ?_
        clear hK K
        refine lexX_skip (fun K hK => ⟨by kernel_rfl, ?_⟩)
        go_simp
        refine hK _ ?_
        clear hK K
        refine lexX_skip (fun K hK => ⟨by kernel_rfl, ?_⟩)
        go_simp
        refine hK _ ?_
        clear hK K
        refine lexX_skip (fun K hK => ⟨by kernel_rfl, ?_⟩)
        go_simp
        refine hK _ ?_
        clear hK K
        refine lexX_skip (fun K hK => ⟨by kernel_rfl, ?_⟩)
        go_simp
        refine hK _ ?_
        clear hK K
        refine lexX_end (fun u18 hv => ?_)
        have k5 := hv.low
        clear hv
        replace zR := keepB zR k5
        replace H4 := hideR ((unhideR H4).go k5)
        clear k5
        refine wpAny_step (i := 15) (by kernel_rfl) rfl (by kernel_rfl) (fun K hK => ?_)
        unfold Oper.wp
        go_simp
        refine hK _ _ ?_
        clear hK K
        refine wpAny_end (by kernel_rfl) ?_
        have r0 := (cells_at zR 0 (by simp)).1
        have r1 := (cells_at zR 1 (by simp)).1
        have r2 := (cells_at zR 2 (by simp)).1
        have r3 := (cells_at zR 3 (by simp)).1
        have r4 := (cells_at zR 4 (by simp)).1
        have r5 := (cells_at zR 5 (by simp)).1
        have r6 := (cells_at zR 6 (by simp)).1
        have o0 := (cells_at (unhideR H4).z 0 (by simp)).1
        have f0 := (cells_at (unhideR H4).z 0 (by simp)).2
        have o1 := (cells_at (unhideR H4).z 1 (by simp)).1
        have f1 := (cells_at (unhideR H4).z 1 (by simp)).2
        have o2 := (cells_at (unhideR H4).z 2 (by simp)).1
        have f2 := (cells_at (unhideR H4).z 2 (by simp)).2
        have o3 := (cells_at (unhideR H4).z 3 (by simp)).1
        have f3 := (cells_at (unhideR H4).z 3 (by simp)).2
        have o4 := (cells_at (unhideR H4).z 4 (by simp)).1
        have f4 := (cells_at (unhideR H4).z 4 (by simp)).2
        have o5 := (cells_at (unhideR H4).z 5 (by simp)).1
        have f5 := (cells_at (unhideR H4).z 5 (by simp)).2
        have o6 := (cells_at (unhideR H4).z 6 (by simp)).1
        have f6 := (cells_at (unhideR H4).z 6 (by simp)).2
        have HF := hideR (And.intro (unhideR HE) (set7_bl (unhideR H4).bl (unhideR H4).h.2.2.2.2.2.2.2 (.int .i64 x0.d) (.int .i64 x1.d) (.int .i64 x2.d) (.int .i64 (0)) (.int .i64 (x0.k : Nat)) (.int .i64 (x1.k : Nat)) (.int .i64 (x2.k : Nat))))
        clear zR H4 HE HG
        go_wp2
        simp [bodyPost, results, Tryd.results13, go_sem, o0, o1, o2, o3, o4, o5, o6]
        exact unhideR HF
      have t2 : (x0.d != x1.d) = true := by simp [q1]
      by_cases q2 : x1.d = x2.d
      · have t3 : (x1.d != x2.d) = false := by simp [q2]
        rw [if_neg (fun q => q.2 q2)] at hH
        replace HE := hideR (unhideR HE 0 hH.symm)
        clear q1 q2 hH ht HQ
        refine wp_region_made 0 #[true, true, true, true, true, true, true, true, true, true, true, true, true, true, true, false] [.lets (· = .slice (some ⟨F, 0, none⟩) 3 3),
          .lets (· = .pointer (some ⟨F, 0, none⟩)),
          .lets (· = .int .i64 x0.d),
          .lets (· = .slice (some ⟨F, 0, none⟩) 3 3),
          .lets (· = .pointer (some ⟨F, 1, none⟩)),
          .lets (· = .int .i64 x1.d),
          .lets (· = .bool true),
          .lets (· = .bool true),
          .lets (· = .slice (some ⟨F, 0, none⟩) 3 3),
          .lets (· = .pointer (some ⟨F, 1, none⟩)),
          .lets (· = .int .i64 x1.d),
          .lets (· = .slice (some ⟨F, 0, none⟩) 3 3),
          .lets (· = .pointer (some ⟨F, 2, none⟩)),
          .lets (· = .int .i64 x2.d),
          .lets (· = .bool false)] [] [] (by kernel_rfl) (by kernel_rfl) rfl ?kinds (by kernel_rfl) (by kernel_rfl) (by kernel_rfl) ?_
        case kinds =>
          constructor
          · intro i h
            rcases i with _ | _ | _ | _ | _ | _ | _ | _ | _ | _ | _ | _ | _ | _ | _ | i <;> simp [Kx.isMade] at h
          · intro i h
            rcases i with _ | _ | _ | _ | _ | _ | _ | _ | _ | _ | _ | _ | _ | _ | _ | i <;> simp [Kx.isUse] at h
        refine lexX_step (fun K hK => ⟨by kernel_rfl, ⟨_, rfl⟩, fun v hv => ?_, fun v hv => ?_⟩)
        · go_simp
          exact mUpon_b
        subst hv
        go_simp
        refine hK _ ?_
        clear hK K
        refine lexX_step (fun K hK => ⟨by kernel_rfl, ⟨_, rfl⟩, fun v hv => ?_, fun v hv => ?_⟩)
        · go_simp
          exact mUpon_b
        subst hv
        go_simp
        refine hK _ ?_
        clear hK K
        refine lexX_step (fun K hK => ⟨by kernel_rfl, ⟨_, rfl⟩, fun v hv => ?_, fun v hv => ?_⟩)
        · have q9 := (cells_at (keepB (unhideR H4).f hv) 0 (by simp)).1
          go_simp
          exact mUpon_b
        subst hv
        go_simp
        refine hK _ ?_
        clear hK K
        refine lexX_step (fun K hK => ⟨by kernel_rfl, ⟨_, rfl⟩, fun v hv => ?_, fun v hv => ?_⟩)
        · go_simp
          exact mUpon_b
        subst hv
        go_simp
        refine hK _ ?_
        clear hK K
        refine lexX_step (fun K hK => ⟨by kernel_rfl, ⟨_, rfl⟩, fun v hv => ?_, fun v hv => ?_⟩)
        · go_simp
          exact mUpon_b
        subst hv
        go_simp
        refine hK _ ?_
        clear hK K
        refine lexX_step (fun K hK => ⟨by kernel_rfl, ⟨_, rfl⟩, fun v hv => ?_, fun v hv => ?_⟩)
        · have q9 := (cells_at (keepB (unhideR H4).f hv) 1 (by simp)).1
          go_simp
          exact mUpon_b
        subst hv
        go_simp
        refine hK _ ?_
        clear hK K
        refine lexX_step (fun K hK => ⟨by kernel_rfl, ⟨_, rfl⟩, fun v hv => ?_, fun v hv => ?_⟩)
        · go_simp
          exact mUpon_b
        subst hv
        go_simp
        refine hK _ ?_
        clear hK K
        refine lexX_step (fun K hK => ⟨by kernel_rfl, ⟨_, rfl⟩, fun v hv => ?_, fun v hv => ?_⟩)
        · go_simp
          exact mUpon_b
        subst hv
        go_simp
        refine hK _ ?_
        clear hK K
        refine lexX_step (fun K hK => ⟨by kernel_rfl, ⟨_, rfl⟩, fun v hv => ?_, fun v hv => ?_⟩)
        · go_simp
          exact mUpon_b
        subst hv
        go_simp
        refine hK _ ?_
        clear hK K
        refine lexX_step (fun K hK => ⟨by kernel_rfl, ⟨_, rfl⟩, fun v hv => ?_, fun v hv => ?_⟩)
        · go_simp
          exact mUpon_b
        subst hv
        go_simp
        refine hK _ ?_
        clear hK K
        refine lexX_step (fun K hK => ⟨by kernel_rfl, ⟨_, rfl⟩, fun v hv => ?_, fun v hv => ?_⟩)
        · have q9 := (cells_at (keepB (unhideR H4).f hv) 1 (by simp)).1
          go_simp
          exact mUpon_b
        subst hv
        go_simp
        refine hK _ ?_
        clear hK K
        refine lexX_step (fun K hK => ⟨by kernel_rfl, ⟨_, rfl⟩, fun v hv => ?_, fun v hv => ?_⟩)
        · go_simp
          exact mUpon_b
        subst hv
        go_simp
        refine hK _ ?_
        clear hK K
        refine lexX_step (fun K hK => ⟨by kernel_rfl, ⟨_, rfl⟩, fun v hv => ?_, fun v hv => ?_⟩)
        · go_simp
          exact mUpon_b
        subst hv
        go_simp
        refine hK _ ?_
        clear hK K
        refine lexX_step (fun K hK => ⟨by kernel_rfl, ⟨_, rfl⟩, fun v hv => ?_, fun v hv => ?_⟩)
        · have q9 := (cells_at (keepB (unhideR H4).f hv) 2 (by simp)).1
          go_simp
          exact mUpon_b
        subst hv
        go_simp
        refine hK _ ?_
        clear hK K
        refine lexX_step (fun K hK => ⟨by kernel_rfl, ⟨_, rfl⟩, fun v hv => ?_, fun v hv => ?_⟩)
        · go_simp
          exact mUpon_b
        subst hv
        go_simp
        refine hK _ ?_
        clear hK K
        refine lexX_end (fun u18 hv => ?_)
        have k5 := hv.low
        clear hv
        replace zR := keepB zR k5
        replace H4 := hideR ((unhideR H4).go k5)
        clear k5
        refine wpAny_step (i := 15) (by kernel_rfl) rfl (by kernel_rfl) (fun K hK => ?_)
        unfold Oper.wp
        go_simp
        refine hK _ _ ?_
        clear hK K
        refine wpAny_end (by kernel_rfl) ?_
        have r0 := (cells_at zR 0 (by simp)).1
        have r1 := (cells_at zR 1 (by simp)).1
        have r2 := (cells_at zR 2 (by simp)).1
        have r3 := (cells_at zR 3 (by simp)).1
        have r4 := (cells_at zR 4 (by simp)).1
        have r5 := (cells_at zR 5 (by simp)).1
        have r6 := (cells_at zR 6 (by simp)).1
        have o0 := (cells_at (unhideR H4).z 0 (by simp)).1
        have f0 := (cells_at (unhideR H4).z 0 (by simp)).2
        have o1 := (cells_at (unhideR H4).z 1 (by simp)).1
        have f1 := (cells_at (unhideR H4).z 1 (by simp)).2
        have o2 := (cells_at (unhideR H4).z 2 (by simp)).1
        have f2 := (cells_at (unhideR H4).z 2 (by simp)).2
        have o3 := (cells_at (unhideR H4).z 3 (by simp)).1
        have f3 := (cells_at (unhideR H4).z 3 (by simp)).2
        have o4 := (cells_at (unhideR H4).z 4 (by simp)).1
        have f4 := (cells_at (unhideR H4).z 4 (by simp)).2
        have o5 := (cells_at (unhideR H4).z 5 (by simp)).1
        have f5 := (cells_at (unhideR H4).z 5 (by simp)).2
        have o6 := (cells_at (unhideR H4).z 6 (by simp)).1
        have f6 := (cells_at (unhideR H4).z 6 (by simp)).2
        have HF := hideR (And.intro (unhideR HE) (set7_bl (unhideR H4).bl (unhideR H4).h.2.2.2.2.2.2.2 (.int .i64 x0.d) (.int .i64 x1.d) (.int .i64 x2.d) (.int .i64 (0)) (.int .i64 (x0.k : Nat)) (.int .i64 (x1.k : Nat)) (.int .i64 (x2.k : Nat))))
        clear zR H4 HE HG
        go_wp2
        simp [bodyPost, results, Tryd.results13, go_sem, o0, o1, o2, o3, o4, o5, o6]
        exact unhideR HF
      have t3 : (x1.d != x2.d) = true := by simp [q2]
      rw [if_pos ⟨q1, q2⟩] at hH
      clear q1 q2
      refine wp_region_made 0 #[true, true, true, true, true, true, true, true, true, true, true, true, true, true, true, false] [.lets (· = .slice (some ⟨F, 0, none⟩) 3 3),
        .lets (· = .pointer (some ⟨F, 0, none⟩)),
        .lets (· = .int .i64 x0.d),
        .lets (· = .slice (some ⟨F, 0, none⟩) 3 3),
        .lets (· = .pointer (some ⟨F, 1, none⟩)),
        .lets (· = .int .i64 x1.d),
        .lets (· = .bool true),
        .lets (· = .bool true),
        .lets (· = .slice (some ⟨F, 0, none⟩) 3 3),
        .lets (· = .pointer (some ⟨F, 1, none⟩)),
        .lets (· = .int .i64 x1.d),
        .lets (· = .slice (some ⟨F, 0, none⟩) 3 3),
        .lets (· = .pointer (some ⟨F, 2, none⟩)),
        .lets (· = .int .i64 x2.d),
        .lets (· = .bool true)] [] [] (by kernel_rfl) (by kernel_rfl) rfl ?kinds (by kernel_rfl) (by kernel_rfl) (by kernel_rfl) ?_
      case kinds =>
        constructor
        · intro i h
          rcases i with _ | _ | _ | _ | _ | _ | _ | _ | _ | _ | _ | _ | _ | _ | _ | i <;> simp [Kx.isMade] at h
        · intro i h
          rcases i with _ | _ | _ | _ | _ | _ | _ | _ | _ | _ | _ | _ | _ | _ | _ | i <;> simp [Kx.isUse] at h
      refine lexX_step (fun K hK => ⟨by kernel_rfl, ⟨_, rfl⟩, fun v hv => ?_, fun v hv => ?_⟩)
      · go_simp
        exact mUpon_b
      subst hv
      go_simp
      refine hK _ ?_
      clear hK K
      refine lexX_step (fun K hK => ⟨by kernel_rfl, ⟨_, rfl⟩, fun v hv => ?_, fun v hv => ?_⟩)
      · go_simp
        exact mUpon_b
      subst hv
      go_simp
      refine hK _ ?_
      clear hK K
      refine lexX_step (fun K hK => ⟨by kernel_rfl, ⟨_, rfl⟩, fun v hv => ?_, fun v hv => ?_⟩)
      · have q9 := (cells_at (keepB (unhideR H4).f hv) 0 (by simp)).1
        go_simp
        exact mUpon_b
      subst hv
      go_simp
      refine hK _ ?_
      clear hK K
      refine lexX_step (fun K hK => ⟨by kernel_rfl, ⟨_, rfl⟩, fun v hv => ?_, fun v hv => ?_⟩)
      · go_simp
        exact mUpon_b
      subst hv
      go_simp
      refine hK _ ?_
      clear hK K
      refine lexX_step (fun K hK => ⟨by kernel_rfl, ⟨_, rfl⟩, fun v hv => ?_, fun v hv => ?_⟩)
      · go_simp
        exact mUpon_b
      subst hv
      go_simp
      refine hK _ ?_
      clear hK K
      refine lexX_step (fun K hK => ⟨by kernel_rfl, ⟨_, rfl⟩, fun v hv => ?_, fun v hv => ?_⟩)
      · have q9 := (cells_at (keepB (unhideR H4).f hv) 1 (by simp)).1
        go_simp
        exact mUpon_b
      subst hv
      go_simp
      refine hK _ ?_
      clear hK K
      refine lexX_step (fun K hK => ⟨by kernel_rfl, ⟨_, rfl⟩, fun v hv => ?_, fun v hv => ?_⟩)
      · go_simp
        exact mUpon_b
      subst hv
      go_simp
      refine hK _ ?_
      clear hK K
      refine lexX_step (fun K hK => ⟨by kernel_rfl, ⟨_, rfl⟩, fun v hv => ?_, fun v hv => ?_⟩)
      · go_simp
        exact mUpon_b
      subst hv
      go_simp
      refine hK _ ?_
      clear hK K
      refine lexX_step (fun K hK => ⟨by kernel_rfl, ⟨_, rfl⟩, fun v hv => ?_, fun v hv => ?_⟩)
      · go_simp
        exact mUpon_b
      subst hv
      go_simp
      refine hK _ ?_
      clear hK K
      refine lexX_step (fun K hK => ⟨by kernel_rfl, ⟨_, rfl⟩, fun v hv => ?_, fun v hv => ?_⟩)
      · go_simp
        exact mUpon_b
      subst hv
      go_simp
      refine hK _ ?_
      clear hK K
      refine lexX_step (fun K hK => ⟨by kernel_rfl, ⟨_, rfl⟩, fun v hv => ?_, fun v hv => ?_⟩)
      · have q9 := (cells_at (keepB (unhideR H4).f hv) 1 (by simp)).1
        go_simp
        exact mUpon_b
      subst hv
      go_simp
      refine hK _ ?_
      clear hK K
      refine lexX_step (fun K hK => ⟨by kernel_rfl, ⟨_, rfl⟩, fun v hv => ?_, fun v hv => ?_⟩)
      · go_simp
        exact mUpon_b
      subst hv
      go_simp
      refine hK _ ?_
      clear hK K
      refine lexX_step (fun K hK => ⟨by kernel_rfl, ⟨_, rfl⟩, fun v hv => ?_, fun v hv => ?_⟩)
      · go_simp
        exact mUpon_b
      subst hv
      go_simp
      refine hK _ ?_
      clear hK K
      refine lexX_step (fun K hK => ⟨by kernel_rfl, ⟨_, rfl⟩, fun v hv => ?_, fun v hv => ?_⟩)
      · have q9 := (cells_at (keepB (unhideR H4).f hv) 2 (by simp)).1
        go_simp
        exact mUpon_b
      subst hv
      go_simp
      refine hK _ ?_
      clear hK K
      refine lexX_step (fun K hK => ⟨by kernel_rfl, ⟨_, rfl⟩, fun v hv => ?_, fun v hv => ?_⟩)
      · go_simp
        exact mUpon_b
      subst hv
      go_simp
      refine hK _ ?_
      clear hK K
      refine lexX_end (fun u18 hv => ?_)
      have k5 := hv.low
      clear hv
      replace zR := keepB zR k5
      replace H4 := hideR ((unhideR H4).go k5)
      clear k5
      refine wpAny_step (i := 15) (by kernel_rfl) rfl (by kernel_rfl) (fun K hK => ?_)
      unfold Oper.wp
      go_simp
      refine hK _ _ ?_
      clear hK K
      refine wpAny_end (by kernel_rfl) ?_
      have o3 := (cells_at zR 3 (by simp)).1
      have f3 := (cells_at zR 3 (by simp)).2
      go_upto_region 20 with fail
      clear o3 f3
      replace zR := set_r3 (x := .int .i64 1) zR
      have H5 := hideR ((unhideR H4).set G 3 (.int .i64 1) (unhideR HG))
      clear H4
      generalize u18.setCell ⟨G, 3, none⟩ (.int .i64 1) = u19 at *
      by_cases q3 : T2 < 0
      · have t4 : decide (T2 < 0) = true := decide_eq_true q3
        rw [if_pos q3] at hH
        replace HE := hideR (unhideR HE (-1) hH.symm)
        clear q3 hH
        refine wp_region_made 0 #[true, true, true, true, true, true, true, true, true, true, true, true, true, true, true, true, true, true, true, false] [.lets (· = .slice (some ⟨b, off, none⟩) n cap),
          .lets (· = .slice (some ⟨A, 0, none⟩) 3 3),
          .lets (· = .pointer (some ⟨A, 0, none⟩)),
          .lets (· = .int .i64 (x0.k : Nat)),
          .lets (· = .pointer (some ⟨b, off + x0.k * 3, none⟩)),
          .lets (· = .agg #[.int .i64 Q0.x, .int .i64 Q0.y, .int .i64 Q0.z]),
          .lets (· = .slice (some ⟨b, off, none⟩) n cap),
          .lets (· = .slice (some ⟨A, 0, none⟩) 3 3),
          .lets (· = .pointer (some ⟨A, 1, none⟩)),
          .lets (· = .int .i64 (x1.k : Nat)),
          .lets (· = .pointer (some ⟨b, off + x1.k * 3, none⟩)),
          .lets (· = .agg #[.int .i64 Q1.x, .int .i64 Q1.y, .int .i64 Q1.z]),
          .lets (· = .slice (some ⟨b, off, none⟩) n cap),
          .lets (· = .slice (some ⟨A, 0, none⟩) 3 3),
          .lets (· = .pointer (some ⟨A, 2, none⟩)),
          .lets (· = .int .i64 (x2.k : Nat)),
          .lets (· = .pointer (some ⟨b, off + x2.k * 3, none⟩)),
          .lets (· = .agg #[.int .i64 Q2.x, .int .i64 Q2.y, .int .i64 Q2.z]),
          .lets (· = .int .i64 T2)] [] [] (by kernel_rfl) (by kernel_rfl) rfl ?kinds (by kernel_rfl) (by kernel_rfl) (by kernel_rfl) ?_
        case kinds =>
          constructor
          · intro i h
            rcases i with _ | _ | _ | _ | _ | _ | _ | _ | _ | _ | _ | _ | _ | _ | _ | _ | _ | _ | _ | i <;> simp [Kx.isMade] at h
          · intro i h
            rcases i with _ | _ | _ | _ | _ | _ | _ | _ | _ | _ | _ | _ | _ | _ | _ | _ | _ | _ | _ | i <;> simp [Kx.isUse] at h
        refine lexX_step (fun K hK => ⟨by kernel_rfl, ⟨_, rfl⟩, fun v hv => ?_, fun v hv => ?_⟩)
        · go_simp
          exact mUpon_b
        subst hv
        go_simp
        refine hK _ ?_
        clear hK K
        refine lexX_step (fun K hK => ⟨by kernel_rfl, ⟨_, rfl⟩, fun v hv => ?_, fun v hv => ?_⟩)
        · go_simp
          exact mUpon_b
        subst hv
        go_simp
        refine hK _ ?_
        clear hK K
        refine lexX_step (fun K hK => ⟨by kernel_rfl, ⟨_, rfl⟩, fun v hv => ?_, fun v hv => ?_⟩)
        · go_simp
          exact mUpon_b
        subst hv
        go_simp
        refine hK _ ?_
        clear hK K
        refine lexX_step (fun K hK => ⟨by kernel_rfl, ⟨_, rfl⟩, fun v hv => ?_, fun v hv => ?_⟩)
        · have q9 := (cells_at (keepB (unhideR H5).a hv) 0 (by simp)).1
          go_simp
          exact mUpon_b
        subst hv
        go_simp
        refine hK _ ?_
        clear hK K
        refine lexX_step (fun K hK => ⟨by kernel_rfl, ⟨_, rfl⟩, fun v hv => ?_, fun v hv => ?_⟩)
        · go_simp
          exact mUpon_b
        subst hv
        go_simp
        refine hK _ ?_
        clear hK K
        refine lexX_step (fun K hK => ⟨by kernel_rfl, ⟨_, rfl⟩, fun v hv => ?_, fun v hv => ?_⟩)
        · have q9 := (unhideR HQ v ((unhideR H5).p.below hv)).1
          have q0 := q9.c0
          have q1 := q9.c1
          have q2 := q9.c2
          go_simp
          exact mUpon_b
        subst hv
        go_simp
        refine hK _ ?_
        clear hK K
        refine lexX_step (fun K hK => ⟨by kernel_rfl, ⟨_, rfl⟩, fun v hv => ?_, fun v hv => ?_⟩)
        · go_simp
          exact mUpon_b
        subst hv
        go_simp
        refine hK _ ?_
        clear hK K
        refine lexX_step (fun K hK => ⟨by kernel_rfl, ⟨_, rfl⟩, fun v hv => ?_, fun v hv => ?_⟩)
        · go_simp
          exact mUpon_b
        subst hv
        go_simp
        refine hK _ ?_
        clear hK K
        refine lexX_step (fun K hK => ⟨by kernel_rfl, ⟨_, rfl⟩, fun v hv => ?_, fun v hv => ?_⟩)
        · go_simp
          exact mUpon_b
        subst hv
        go_simp
        refine hK _ ?_
        clear hK K
        refine lexX_step (fun K hK => ⟨by kernel_rfl, ⟨_, rfl⟩, fun v hv => ?_, fun v hv => ?_⟩)
        · have q9 := (cells_at (keepB (unhideR H5).a hv) 1 (by simp)).1
          go_simp
          exact mUpon_b
        subst hv
        go_simp
        refine hK _ ?_
        clear hK K
        refine lexX_step (fun K hK => ⟨by kernel_rfl, ⟨_, rfl⟩, fun v hv => ?_, fun v hv => ?_⟩)
        · go_simp
          exact mUpon_b
        subst hv
        go_simp
        refine hK _ ?_
        clear hK K
        refine lexX_step (fun K hK => ⟨by kernel_rfl, ⟨_, rfl⟩, fun v hv => ?_, fun v hv => ?_⟩)
        · have q9 := (unhideR HQ v ((unhideR H5).p.below hv)).2.1
          have q0 := q9.c0
          have q1 := q9.c1
          have q2 := q9.c2
          go_simp
          exact mUpon_b
        subst hv
        go_simp
        refine hK _ ?_
        clear hK K
        refine lexX_step (fun K hK => ⟨by kernel_rfl, ⟨_, rfl⟩, fun v hv => ?_, fun v hv => ?_⟩)
        · go_simp
          exact mUpon_b
        subst hv
        go_simp
        refine hK _ ?_
        clear hK K
        refine lexX_step (fun K hK => ⟨by kernel_rfl, ⟨_, rfl⟩, fun v hv => ?_, fun v hv => ?_⟩)
        · go_simp
          exact mUpon_b
        subst hv
        go_simp
        refine hK _ ?_
        clear hK K
        refine lexX_step (fun K hK => ⟨by kernel_rfl, ⟨_, rfl⟩, fun v hv => ?_, fun v hv => ?_⟩)
        · go_simp
          exact mUpon_b
        subst hv
        go_simp
        refine hK _ ?_
        clear hK K
        refine lexX_step (fun K hK => ⟨by kernel_rfl, ⟨_, rfl⟩, fun v hv => ?_, fun v hv => ?_⟩)
        · have q9 := (cells_at (keepB (unhideR H5).a hv) 2 (by simp)).1
          go_simp
          exact mUpon_b
        subst hv
        go_simp
        refine hK _ ?_
        clear hK K
        refine lexX_step (fun K hK => ⟨by kernel_rfl, ⟨_, rfl⟩, fun v hv => ?_, fun v hv => ?_⟩)
        · go_simp
          exact mUpon_b
        subst hv
        go_simp
        refine hK _ ?_
        clear hK K
        refine lexX_step (fun K hK => ⟨by kernel_rfl, ⟨_, rfl⟩, fun v hv => ?_, fun v hv => ?_⟩)
        · have q9 := (unhideR HQ v ((unhideR H5).p.below hv)).2.2
          have q0 := q9.c0
          have q1 := q9.c1
          have q2 := q9.c2
          go_simp
          exact mUpon_b
        subst hv
        go_simp
        refine hK _ ?_
        clear hK K
        refine lexX_step (fun K hK => ⟨by kernel_rfl, ⟨_, rfl⟩, fun v hv => ?_, fun v hv => ?_⟩)
        · go_simp
          refine (ht _).mono ?_
          rintro e w9 ⟨rfl, k⟩
          exact ⟨_, rfl, rfl, k⟩
        subst hv
        go_simp
        refine hK _ ?_
        clear hK K
        refine lexX_end (fun v20 hv => ?_)
        have k5 := hv.low
        clear hv ht
        replace zR := keepB zR k5
        replace H5 := hideR ((unhideR H5).go k5)
        clear k5 HQ
        refine wpAny_step (i := 19) (by kernel_rfl) rfl (by kernel_rfl) (fun K hK => ?_)
        unfold Oper.wp
        go_simp
        refine hK _ _ ?_
        clear hK K
        refine wpAny_end (by kernel_rfl) ?_
        have o3 := (cells_at zR 3 (by simp)).1
        have f3 := (cells_at zR 3 (by simp)).2
        go_upto_region 22 with fail
        clear o3 f3
        replace zR := set_r3 (x := .int .i64 (-1)) zR
        have H6 := hideR ((unhideR H5).set G 3 (.int .i64 (-1)) (unhideR HG))
        clear H5
        generalize v20.setCell ⟨G, 3, none⟩ (.int .i64 (-1)) = u21 at *
        have r0 := (cells_at zR 0 (by simp)).1
        have r1 := (cells_at zR 1 (by simp)).1
        have r2 := (cells_at zR 2 (by simp)).1
        have r3 := (cells_at zR 3 (by simp)).1
        have r4 := (cells_at zR 4 (by simp)).1
        have r5 := (cells_at zR 5 (by simp)).1
        have r6 := (cells_at zR 6 (by simp)).1
        have o0 := (cells_at (unhideR H6).z 0 (by simp)).1
        have f0 := (cells_at (unhideR H6).z 0 (by simp)).2
        have o1 := (cells_at (unhideR H6).z 1 (by simp)).1
        have f1 := (cells_at (unhideR H6).z 1 (by simp)).2
        have o2 := (cells_at (unhideR H6).z 2 (by simp)).1
        have f2 := (cells_at (unhideR H6).z 2 (by simp)).2
        have o3 := (cells_at (unhideR H6).z 3 (by simp)).1
        have f3 := (cells_at (unhideR H6).z 3 (by simp)).2
        have o4 := (cells_at (unhideR H6).z 4 (by simp)).1
        have f4 := (cells_at (unhideR H6).z 4 (by simp)).2
        have o5 := (cells_at (unhideR H6).z 5 (by simp)).1
        have f5 := (cells_at (unhideR H6).z 5 (by simp)).2
        have o6 := (cells_at (unhideR H6).z 6 (by simp)).1
        have f6 := (cells_at (unhideR H6).z 6 (by simp)).2
        have HF := hideR (And.intro (unhideR HE) (set7_bl (unhideR H6).bl (unhideR H6).h.2.2.2.2.2.2.2 (.int .i64 x0.d) (.int .i64 x1.d) (.int .i64 x2.d) (.int .i64 (-1)) (.int .i64 (x0.k : Nat)) (.int .i64 (x1.k : Nat)) (.int .i64 (x2.k : Nat))))
        clear zR H6 HE HG
        go_wp2
        simp [bodyPost, results, Tryd.results13, go_sem, o0, o1, o2, o3, o4, o5, o6]
        exact unhideR HF
      · have t4 : decide (T2 < 0) = false := decide_eq_false q3
        rw [if_neg q3] at hH
        replace HE := hideR (unhideR HE 1 hH.symm)
        clear q3 hH
        refine wp_region_made 0 #[true, true, true, true, true, true, true, true, true, true, true, true, true, true, true, true, true, true, true, false] [.lets (· = .slice (some ⟨b, off, none⟩) n cap),
          .lets (· = .slice (some ⟨A, 0, none⟩) 3 3),
          .lets (· = .pointer (some ⟨A, 0, none⟩)),
          .lets (· = .int .i64 (x0.k : Nat)),
          .lets (· = .pointer (some ⟨b, off + x0.k * 3, none⟩)),
          .lets (· = .agg #[.int .i64 Q0.x, .int .i64 Q0.y, .int .i64 Q0.z]),
          .lets (· = .slice (some ⟨b, off, none⟩) n cap),
          .lets (· = .slice (some ⟨A, 0, none⟩) 3 3),
          .lets (· = .pointer (some ⟨A, 1, none⟩)),
          .lets (· = .int .i64 (x1.k : Nat)),
          .lets (· = .pointer (some ⟨b, off + x1.k * 3, none⟩)),
          .lets (· = .agg #[.int .i64 Q1.x, .int .i64 Q1.y, .int .i64 Q1.z]),
          .lets (· = .slice (some ⟨b, off, none⟩) n cap),
          .lets (· = .slice (some ⟨A, 0, none⟩) 3 3),
          .lets (· = .pointer (some ⟨A, 2, none⟩)),
          .lets (· = .int .i64 (x2.k : Nat)),
          .lets (· = .pointer (some ⟨b, off + x2.k * 3, none⟩)),
          .lets (· = .agg #[.int .i64 Q2.x, .int .i64 Q2.y, .int .i64 Q2.z]),
          .lets (· = .int .i64 T2)] [] [] (by kernel_rfl) (by kernel_rfl) rfl ?kinds (by kernel_rfl) (by kernel_rfl) (by kernel_rfl) ?_
        case kinds =>
          constructor
          · intro i h
            rcases i with _ | _ | _ | _ | _ | _ | _ | _ | _ | _ | _ | _ | _ | _ | _ | _ | _ | _ | _ | i <;> simp [Kx.isMade] at h
          · intro i h
            rcases i with _ | _ | _ | _ | _ | _ | _ | _ | _ | _ | _ | _ | _ | _ | _ | _ | _ | _ | _ | i <;> simp [Kx.isUse] at h
        refine lexX_step (fun K hK => ⟨by kernel_rfl, ⟨_, rfl⟩, fun v hv => ?_, fun v hv => ?_⟩)
        · go_simp
          exact mUpon_b
        subst hv
        go_simp
        refine hK _ ?_
        clear hK K
        refine lexX_step (fun K hK => ⟨by kernel_rfl, ⟨_, rfl⟩, fun v hv => ?_, fun v hv => ?_⟩)
        · go_simp
          exact mUpon_b
        subst hv
        go_simp
        refine hK _ ?_
        clear hK K
        refine lexX_step (fun K hK => ⟨by kernel_rfl, ⟨_, rfl⟩, fun v hv => ?_, fun v hv => ?_⟩)
        · go_simp
          exact mUpon_b
        subst hv
        go_simp
        refine hK _ ?_
        clear hK K
        refine lexX_step (fun K hK => ⟨by kernel_rfl, ⟨_, rfl⟩, fun v hv => ?_, fun v hv => ?_⟩)
        · have q9 := (cells_at (keepB (unhideR H5).a hv) 0 (by simp)).1
          go_simp
          exact mUpon_b
        subst hv
        go_simp
        refine hK _ ?_
        clear hK K
        refine lexX_step (fun K hK => ⟨by kernel_rfl, ⟨_, rfl⟩, fun v hv => ?_, fun v hv => ?_⟩)
        · go_simp
          exact mUpon_b
        subst hv
        go_simp
        refine hK _ ?_
        clear hK K
        refine lexX_step (fun K hK => ⟨by kernel_rfl, ⟨_, rfl⟩, fun v hv => ?_, fun v hv => ?_⟩)
        · have q9 := (unhideR HQ v ((unhideR H5).p.below hv)).1
          have q0 := q9.c0
          have q1 := q9.c1
          have q2 := q9.c2
          go_simp
          exact mUpon_b
        subst hv
        go_simp
        refine hK _ ?_
        clear hK K
        refine lexX_step (fun K hK => ⟨by kernel_rfl, ⟨_, rfl⟩, fun v hv => ?_, fun v hv => ?_⟩)
        · go_simp
          exact mUpon_b
        subst hv
        go_simp
        refine hK _ ?_
        clear hK K
        refine lexX_step (fun K hK => ⟨by kernel_rfl, ⟨_, rfl⟩, fun v hv => ?_, fun v hv => ?_⟩)
        · go_simp
          exact mUpon_b
        subst hv
        go_simp
        refine hK _ ?_
        clear hK K
        refine lexX_step (fun K hK => ⟨by kernel_rfl, ⟨_, rfl⟩, fun v hv => ?_, fun v hv => ?_⟩)
        · go_simp
          exact mUpon_b
        subst hv
        go_simp
        refine hK _ ?_
        clear hK K
        refine lexX_step (fun K hK => ⟨by kernel_rfl, ⟨_, rfl⟩, fun v hv => ?_, fun v hv => ?_⟩)
        · have q9 := (cells_at (keepB (unhideR H5).a hv) 1 (by simp)).1
          go_simp
          exact mUpon_b
        subst hv
        go_simp
        refine hK _ ?_
        clear hK K
        refine lexX_step (fun K hK => ⟨by kernel_rfl, ⟨_, rfl⟩, fun v hv => ?_, fun v hv => ?_⟩)
        · go_simp
          exact mUpon_b
        subst hv
        go_simp
        refine hK _ ?_
        clear hK K
        refine lexX_step (fun K hK => ⟨by kernel_rfl, ⟨_, rfl⟩, fun v hv => ?_, fun v hv => ?_⟩)
        · have q9 := (unhideR HQ v ((unhideR H5).p.below hv)).2.1
          have q0 := q9.c0
          have q1 := q9.c1
          have q2 := q9.c2
          go_simp
          exact mUpon_b
        subst hv
        go_simp
        refine hK _ ?_
        clear hK K
        refine lexX_step (fun K hK => ⟨by kernel_rfl, ⟨_, rfl⟩, fun v hv => ?_, fun v hv => ?_⟩)
        · go_simp
          exact mUpon_b
        subst hv
        go_simp
        refine hK _ ?_
        clear hK K
        refine lexX_step (fun K hK => ⟨by kernel_rfl, ⟨_, rfl⟩, fun v hv => ?_, fun v hv => ?_⟩)
        · go_simp
          exact mUpon_b
        subst hv
        go_simp
        refine hK _ ?_
        clear hK K
        refine lexX_step (fun K hK => ⟨by kernel_rfl, ⟨_, rfl⟩, fun v hv => ?_, fun v hv => ?_⟩)
        · go_simp
          exact mUpon_b
        subst hv
        go_simp
        refine hK _ ?_
        clear hK K
        refine lexX_step (fun K hK => ⟨by kernel_rfl, ⟨_, rfl⟩, fun v hv => ?_, fun v hv => ?_⟩)
        · have q9 := (cells_at (keepB (unhideR H5).a hv) 2 (by simp)).1
          go_simp
          exact mUpon_b
        subst hv
        go_simp
        refine hK _ ?_
        clear hK K
        refine lexX_step (fun K hK => ⟨by kernel_rfl, ⟨_, rfl⟩, fun v hv => ?_, fun v hv => ?_⟩)
        · go_simp
          exact mUpon_b
        subst hv
        go_simp
        refine hK _ ?_
        clear hK K
        refine lexX_step (fun K hK => ⟨by kernel_rfl, ⟨_, rfl⟩, fun v hv => ?_, fun v hv => ?_⟩)
        · have q9 := (unhideR HQ v ((unhideR H5).p.below hv)).2.2
          have q0 := q9.c0
          have q1 := q9.c1
          have q2 := q9.c2
          go_simp
          exact mUpon_b
        subst hv
        go_simp
        refine hK _ ?_
        clear hK K
        refine lexX_step (fun K hK => ⟨by kernel_rfl, ⟨_, rfl⟩, fun v hv => ?_, fun v hv => ?_⟩)
        · go_simp
          refine (ht _).mono ?_
          rintro e w9 ⟨rfl, k⟩
          exact ⟨_, rfl, rfl, k⟩
        subst hv
        go_simp
        refine hK _ ?_
        clear hK K
        refine lexX_end (fun v20 hv => ?_)
        have k5 := hv.low
        clear hv ht
        replace zR := keepB zR k5
        replace H5 := hideR ((unhideR H5).go k5)
        clear k5 HQ
        refine wpAny_step (i := 19) (by kernel_rfl) rfl (by kernel_rfl) (fun K hK => ?_)
        unfold Oper.wp
        go_simp
        refine hK _ _ ?_
        clear hK K
        refine wpAny_end (by kernel_rfl) ?_
        have r0 := (cells_at zR 0 (by simp)).1
        have r1 := (cells_at zR 1 (by simp)).1
        have r2 := (cells_at zR 2 (by simp)).1
        have r3 := (cells_at zR 3 (by simp)).1
        have r4 := (cells_at zR 4 (by simp)).1
        have r5 := (cells_at zR 5 (by simp)).1
        have r6 := (cells_at zR 6 (by simp)).1
        have o0 := (cells_at (unhideR H5).z 0 (by simp)).1
        have f0 := (cells_at (unhideR H5).z 0 (by simp)).2
        have o1 := (cells_at (unhideR H5).z 1 (by simp)).1
        have f1 := (cells_at (unhideR H5).z 1 (by simp)).2
        have o2 := (cells_at (unhideR H5).z 2 (by simp)).1
        have f2 := (cells_at (unhideR H5).z 2 (by simp)).2
        have o3 := (cells_at (unhideR H5).z 3 (by simp)).1
        have f3 := (cells_at (unhideR H5).z 3 (by simp)).2
        have o4 := (cells_at (unhideR H5).z 4 (by simp)).1
        have f4 := (cells_at (unhideR H5).z 4 (by simp)).2
        have o5 := (cells_at (unhideR H5).z 5 (by simp)).1
        have f5 := (cells_at (unhideR H5).z 5 (by simp)).2
        have o6 := (cells_at (unhideR H5).z 6 (by simp)).1
        have f6 := (cells_at (unhideR H5).z 6 (by simp)).2
        have HF := hideR (And.intro (unhideR HE) (set7_bl (unhideR H5).bl (unhideR H5).h.2.2.2.2.2.2.2 (.int .i64 x0.d) (.int .i64 x1.d) (.int .i64 x2.d) (.int .i64 (1)) (.int .i64 (x0.k : Nat)) (.int .i64 (x1.k : Nat)) (.int .i64 (x2.k : Nat))))
        clear zR H5 HE HG
        go_wp2
        simp [bodyPost, results, Tryd.results13, go_sem, o0, o1, o2, o3, o4, o5, o6]
        exact unhideR HF
end Go.Proofs.YtkdmeclbnnjdgalDoor
