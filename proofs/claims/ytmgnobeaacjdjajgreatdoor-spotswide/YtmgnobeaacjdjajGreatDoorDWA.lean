/-
  One pixel more of a part, as the program reckons it. A row of spots that is written. The program's gathering of parts' pixels. A spot's star is written in its row.
-/
import Derived.Test.YtmgnobeaacjdjajGreatDoorSpKA
import Derived.Test.YtmgnobeaacjdjajGreatDoorDQA
import Derived.Test.YtmgnobeaacjdjajGreatDoorFarC
import Derived.Deep.CutRange
import Derived.Test.YtmgnobeaacjdjajGreatDoorDRA
namespace Go.Proofs.YtmgnobeaacjdjajGreatDoor
open Go Go.RowKit

/-- with one pixel more. -/
def withX (s : Sta) (x y l : Int) : Sta := ⟨if s.px = 0 then x else min s.le x, if s.px = 0 then y else min s.tp y, if s.px = 0 then x else max s.ri x, if s.px = 0 then y else max s.lo y, s.px + 1, s.li + l, s.x + l * (1024 * x + 512), s.y + l * (1024 * y + 512), s.lt⟩
def WithPost (s : Sta) (x y l : Int) (w : World) (e : Ending) (w' : World) : Prop := e = .returned (sxV (withX s x y l)) ∧ Below w.heap.size w w'
/-- what a part's sums keep to. -/
structure WithOk (s : Sta) (x y l : Int) : Prop where
  x0 : 0 ≤ x
  x1 : x ≤ 100000
  y0 : 0 ≤ y
  y1 : y ≤ 100000
  px : -1000000 ≤ s.px ∧ s.px ≤ 1000000
  li : -1000000000000 ≤ s.li ∧ s.li ≤ 1000000000000
  l : -1000000 ≤ l ∧ l ≤ 1000000
  sx : -1000000000000000000 ≤ s.x ∧ s.x ≤ 1000000000000000000
  sy : -1000000000000000000 ≤ s.y ∧ s.y ≤ 1000000000000000000
set_option maxRecDepth 100000 in
set_option maxHeartbeats 3200000 in
theorem with_any {w : World} {s : Sta} {x y l : Int} (h : WithOk s x y l) : Calls Tryz.prog 77 #[sxV s, .int .i64 x, .int .i64 y, .int .i64 l] w (WithPost s x y l w) := by
  obtain ⟨hx0, hx1, hy0, hy1, hpx, hli, hl, hsx, hsy⟩ := h
  obtain ⟨le, tp, ri, lo, px, li, sx, sy, lt⟩ := s
  simp only at *
  have hm1 := fun u => pxMiddle_any x hx0 hx1 u
  have hm2 := fun u => pxMiddle_any y hy0 hy1 u
  unfold sxV
  obtain ⟨L0, hL0⟩ : ∃ L0, L0 = if px = 0 then x else le := ⟨_, rfl⟩
  obtain ⟨T0, hT0⟩ : ∃ T0, T0 = if px = 0 then y else tp := ⟨_, rfl⟩
  obtain ⟨R0, hR0⟩ : ∃ R0, R0 = if px = 0 then x else ri := ⟨_, rfl⟩
  obtain ⟨O0, hO0⟩ : ∃ O0, O0 = if px = 0 then y else lo := ⟨_, rfl⟩
  obtain ⟨L1, hL1⟩ : ∃ L1, L1 = if x < L0 then x else L0 := ⟨_, rfl⟩
  obtain ⟨R1, hR1⟩ : ∃ R1, R1 = if x > R0 then x else R0 := ⟨_, rfl⟩
  obtain ⟨T1, hT1⟩ : ∃ T1, T1 = if y < T0 then y else T0 := ⟨_, rfl⟩
  obtain ⟨O1, hO1⟩ : ∃ O1, O1 = if y > O0 then y else O0 := ⟨_, rfl⟩
  have i1 := min_is hL1
  have i2 := max_is hR1
  have i3 := min_is hT1
  have i4 := max_is hO1
  have HRes : HeldR (withX ⟨le, tp, ri, lo, px, li, sx, sy, lt⟩ x y l = ⟨L1, T1, R1, O1, px + 1, li + l, sx + l * (1024 * x + 512), sy + l * (1024 * y + 512), lt⟩) := hideR (by
    unfold withX
    simp only [Sta.mk.injEq, and_true]
    by_cases h0 : px = 0
    · rw [if_pos h0] at hL0 hT0 hR0 hO0 ⊢
      subst hL0 hT0 hR0 hO0
      rw [hL1, hT1, hR1, hO1]
      simp [h0]
    · rw [if_neg h0] at hL0 hT0 hR0 hO0 ⊢
      subst hL0 hT0 hR0 hO0
      rw [hL1, hT1, hR1, hO1]
      simp only [if_neg h0]
      refine ⟨?_, ?_, ?_, ?_⟩ <;> split <;> omega)
  have HL0 := hideR hL0
  have HT0 := hideR hT0
  have HR0 := hideR hR0
  have HO0 := hideR hO0
  have wp : IntKind.i64.wrap (px + 1) = px + 1 := iwrap (by omega) (by omega)
  have wl : IntKind.i64.wrap (li + l) = li + l := iwrap (by omega) (by omega)
  obtain ⟨mx, hmx⟩ : ∃ mx, 1024 * x + 512 = mx := ⟨_, rfl⟩
  obtain ⟨my, hmy⟩ : ∃ my, 1024 * y + 512 = my := ⟨_, rfl⟩
  rw [hmx] at hm1 HRes
  rw [hmy] at hm2 HRes
  have bx : -2000000000000000 ≤ l * mx ∧ l * mx ≤ 2000000000000000 := by
    have a1 := Int.mul_le_mul_of_nonneg_right hl.2 (show 0 ≤ mx by omega)
    have a2 := Int.mul_le_mul_of_nonneg_right hl.1 (show 0 ≤ mx by omega)
    omega
  have byy : -2000000000000000 ≤ l * my ∧ l * my ≤ 2000000000000000 := by
    have a1 := Int.mul_le_mul_of_nonneg_right hl.2 (show 0 ≤ my by omega)
    have a2 := Int.mul_le_mul_of_nonneg_right hl.1 (show 0 ≤ my by omega)
    omega
  obtain ⟨px1, hpx1⟩ : ∃ px1, l * mx = px1 := ⟨_, rfl⟩
  obtain ⟨py1, hpy1⟩ : ∃ py1, l * my = py1 := ⟨_, rfl⟩
  rw [hpx1] at bx HRes
  rw [hpy1] at byy HRes
  have wx1 : IntKind.i64.wrap (l * mx) = px1 := by rw [hpx1]; exact iwrap (by omega) (by omega)
  have wy1 : IntKind.i64.wrap (l * my) = py1 := by rw [hpy1]; exact iwrap (by omega) (by omega)
  have wx2 : IntKind.i64.wrap (sx + px1) = sx + px1 := iwrap (by omega) (by omega)
  have wy2 : IntKind.i64.wrap (sy + py1) = sy + py1 := iwrap (by omega) (by omega)
  clear hL0 hT0 hR0 hO0 hL1 hR1 hT1 hO1 hmx hmy hpx1 hpy1
  go_enter Tryz.func77, Tryz.ntmps77
  go_upto_if 11 with fail
  go_cut [9] from 12 to 19 (fun s9 wx => s9 = .pointer (some ⟨w.heap.size, 4, none⟩) ∧ wx = (w.alloc (.cells #[.int .i64 L0, .int .i64 T0, .int .i64 R0, .int .i64 O0, .int .i64 px, .int .i64 li, .int .i64 sx, .int .i64 sy, .int .i64 lt] 36)).alloc (.cells #[.int .i64 0, .int .i64 0, .int .i64 0, .int .i64 0, .int .i64 0, .int .i64 0, .int .i64 0, .int .i64 0, .int .i64 0] 36))
  case' first =>
    by_cases h0 : px = 0
    case' pos =>
      have e1 := unhideR HL0
      have e2 := unhideR HT0
      have e3 := unhideR HR0
      have e4 := unhideR HO0
      rw [if_pos h0] at e1 e2 e3 e4
      have tb : (px == 0) = true := beq_iff_eq.2 h0
      subst e1 e2 e3 e4 h0
      go_wp2_with fail
      go_meet
      exact ⟨rfl, rfl⟩
    case' neg =>
      have e1 := unhideR HL0
      have e2 := unhideR HT0
      have e3 := unhideR HR0
      have e4 := unhideR HO0
      rw [if_neg h0] at e1 e2 e3 e4
      have tb : (px == 0) = false := beq_eq_false_iff_ne.2 h0
      subst e1 e2 e3 e4
      go_wp2_with fail
      go_meet
      exact ⟨rfl, rfl⟩
  obtain ⟨rfl, rfl⟩ := hcut
  go_upto_region 7 with fail
  have HGb := hideR (keepA (o' := .cells #[.int .i64 0, .int .i64 0, .int .i64 0, .int .i64 0, .int .i64 0, .int .i64 0, .int .i64 0, .int .i64 0, .int .i64 0] 36) (alloc_last w (.cells #[.int .i64 L1, .int .i64 T1, .int .i64 R1, .int .i64 O1, .int .i64 (px + 1), .int .i64 (li + l), .int .i64 sx, .int .i64 sy, .int .i64 lt] 36)))
  have HGc : HeldR (((w.alloc (.cells #[.int .i64 L1, .int .i64 T1, .int .i64 R1, .int .i64 O1, .int .i64 (px + 1), .int .i64 (li + l), .int .i64 sx, .int .i64 sy, .int .i64 lt] 36)).alloc (.cells #[.int .i64 0, .int .i64 0, .int .i64 0, .int .i64 0, .int .i64 0, .int .i64 0, .int .i64 0, .int .i64 0, .int .i64 0] 36)).heap[w.heap.size + 1]? = some (.cells #[.int .i64 0, .int .i64 0, .int .i64 0, .int .i64 0, .int .i64 0, .int .i64 0, .int .i64 0, .int .i64 0, .int .i64 0] 36)) := hideR (by
    have := alloc_last (w.alloc (.cells #[.int .i64 L1, .int .i64 T1, .int .i64 R1, .int .i64 O1, .int .i64 (px + 1), .int .i64 (li + l), .int .i64 sx, .int .i64 sy, .int .i64 lt] 36)) (.cells #[.int .i64 0, .int .i64 0, .int .i64 0, .int .i64 0, .int .i64 0, .int .i64 0, .int .i64 0, .int .i64 0, .int .i64 0] 36)
    simpa using this)
  have HB := hideR (below_al2 w (.cells #[.int .i64 L1, .int .i64 T1, .int .i64 R1, .int .i64 O1, .int .i64 (px + 1), .int .i64 (li + l), .int .i64 sx, .int .i64 sy, .int .i64 lt] 36) (.cells #[.int .i64 0, .int .i64 0, .int .i64 0, .int .i64 0, .int .i64 0, .int .i64 0, .int .i64 0, .int .i64 0, .int .i64 0] 36))
  generalize (w.alloc (.cells #[.int .i64 L1, .int .i64 T1, .int .i64 R1, .int .i64 O1, .int .i64 (px + 1), .int .i64 (li + l), .int .i64 sx, .int .i64 sy, .int .i64 lt] 36)).alloc (.cells #[.int .i64 0, .int .i64 0, .int .i64 0, .int .i64 0, .int .i64 0, .int .i64 0, .int .i64 0, .int .i64 0, .int .i64 0] 36) = W1 at *
  refine wp_region_made 0 #[true, true, true, true, true, true, true, true, true, true, false] [.lets (· = .pointer (some ⟨w.heap.size, 6, none⟩)),
    .lets (· = .pointer (some ⟨w.heap.size, 6, none⟩)),
    .lets (· = .int .i64 sx),
    .lets (· = .int .i64 l),
    .lets (· = .int .i64 x),
    .lets (· = .int .i64 mx),
    .lets (· = .int .i64 px1),
    .lets (· = .int .i64 (sx + px1)),
    .lets (· = .pointer (some ⟨w.heap.size, 6, none⟩)),
    .lets (· = .pointer (some ⟨w.heap.size, 6, none⟩))] [] [] (by kernel_rfl) (by kernel_rfl) rfl ?kinds (by kernel_rfl) (by kernel_rfl) (by kernel_rfl) ?_
  case kinds =>
    constructor
    · intro i h
      rcases i with _ | _ | _ | _ | _ | _ | _ | _ | _ | _ | i <;> simp [Kx.isMade] at h
    · intro i h
      rcases i with _ | _ | _ | _ | _ | _ | _ | _ | _ | _ | i <;> simp [Kx.isUse] at h
  refine lexX_step (fun K hK => ⟨by kernel_rfl, ⟨_, rfl⟩, fun v hv => ?_, fun v hv => ?_⟩)
  · go_simp
    exact mUpon_b
  subst hv
  go_simp
  refine hK _ ?_
  clear hK K
  refine lexX_step (fun K hK => ⟨by kernel_rfl, ⟨_, rfl⟩, fun v hv => ?_, fun v hv => ?_⟩)
  · go_simp
    exact mUpon_b
  subst hv
  go_simp
  refine hK _ ?_
  clear hK K
  refine lexX_step (fun K hK => ⟨by kernel_rfl, ⟨_, rfl⟩, fun v hv => ?_, fun v hv => ?_⟩)
  · have cc := (cells_at (keepB (unhideR HGb) hv) 6 (by simp)).1
    simp at cc
    go_simp
    exact mUpon_b
  subst hv
  go_simp
  refine hK _ ?_
  clear hK K
  refine lexX_step (fun K hK => ⟨by kernel_rfl, ⟨_, rfl⟩, fun v hv => ?_, fun v hv => ?_⟩)
  · go_simp
    exact mUpon_b
  subst hv
  go_simp
  refine hK _ ?_
  clear hK K
  refine lexX_step (fun K hK => ⟨by kernel_rfl, ⟨_, rfl⟩, fun v hv => ?_, fun v hv => ?_⟩)
  · go_simp
    exact mUpon_b
  subst hv
  go_simp
  refine hK _ ?_
  clear hK K
  refine lexX_step (fun K hK => ⟨by kernel_rfl, ⟨_, rfl⟩, fun v hv => ?_, fun v hv => ?_⟩)
  · go_simp
    refine (hm1 _).mono ?_
    rintro e w9 ⟨rfl, rfl⟩
    exact ⟨_, rfl, rfl, Below.refl _ _⟩
  subst hv
  go_simp
  refine hK _ ?_
  clear hK K
  refine lexX_step (fun K hK => ⟨by kernel_rfl, ⟨_, rfl⟩, fun v hv => ?_, fun v hv => ?_⟩)
  · go_simp
    exact mUpon_b
  subst hv
  go_simp
  refine hK _ ?_
  clear hK K
  refine lexX_step (fun K hK => ⟨by kernel_rfl, ⟨_, rfl⟩, fun v hv => ?_, fun v hv => ?_⟩)
  · go_simp
    exact mUpon_b
  subst hv
  go_simp
  refine hK _ ?_
  clear hK K
  refine lexX_step (fun K hK => ⟨by kernel_rfl, ⟨_, rfl⟩, fun v hv => ?_, fun v hv => ?_⟩)
  · go_simp
    exact mUpon_b
  subst hv
  go_simp
  refine hK _ ?_
  clear hK K
  refine lexX_step (fun K hK => ⟨by kernel_rfl, ⟨_, rfl⟩, fun v hv => ?_, fun v hv => ?_⟩)
  · go_simp
    exact mUpon_b
  subst hv
  go_simp
  refine hK _ ?_
  clear hK K
  refine lexX_end (fun v5 hv => ?_)
  have K5 := hv.low
  clear hv
  have xo := cells_at (keepB (unhideR HGb) K5) 6 (by simp)
  obtain ⟨xo1, fo1⟩ := xo
  simp at xo1
  refine wpAny_step (i := 10) (by kernel_rfl) rfl (by kernel_rfl) (fun K hK => ?_)
  unfold Oper.wp
  go_simp
  refine hK _ _ ?_
  clear hK K
  refine wpAny_end (by kernel_rfl) ?_
  have HGb2 : HeldR ((v5.setCell ⟨w.heap.size, 6, none⟩ (.int .i64 (sx + px1))).heap[w.heap.size]? = some (.cells #[.int .i64 L1, .int .i64 T1, .int .i64 R1, .int .i64 O1, .int .i64 (px + 1), .int .i64 (li + l), .int .i64 (sx + px1), .int .i64 sy, .int .i64 lt] 36)) := hideR (by
    rw [heap_setCell_same _ _ _ _ _ _ (keepB (unhideR HGb) K5)]
    simp)
  have HGc2 : HeldR ((v5.setCell ⟨w.heap.size, 6, none⟩ (.int .i64 (sx + px1))).heap[w.heap.size + 1]? = some (.cells #[.int .i64 0, .int .i64 0, .int .i64 0, .int .i64 0, .int .i64 0, .int .i64 0, .int .i64 0, .int .i64 0, .int .i64 0] 36)) := hideR (by
    rw [heap_setCell_other _ _ _ _ (by simp)]
    exact keepB (unhideR HGc) K5)
  have HB2 := hideR ((below_go (unhideR HB) K5).setCell (p := ⟨w.heap.size, 6, none⟩) (Nat.le_refl _) (.int .i64 (sx + px1)))
  clear HGb HGc HB xo1 fo1 K5
  generalize v5.setCell ⟨w.heap.size, 6, none⟩ (.int .i64 (sx + px1)) = W2 at *
  go_wp2_with fail
  refine wp_region_made 0 #[true, true, true, true, true, true, true, true, true, true, false] [.lets (· = .pointer (some ⟨w.heap.size, 6, none⟩)),
    .lets (· = .pointer (some ⟨w.heap.size, 7, none⟩)),
    .lets (· = .int .i64 sy),
    .lets (· = .int .i64 l),
    .lets (· = .int .i64 y),
    .lets (· = .int .i64 my),
    .lets (· = .int .i64 py1),
    .lets (· = .int .i64 (sy + py1)),
    .lets (· = .pointer (some ⟨w.heap.size, 6, none⟩)),
    .lets (· = .pointer (some ⟨w.heap.size, 7, none⟩))] [] [] (by kernel_rfl) (by kernel_rfl) rfl ?kinds (by kernel_rfl) (by kernel_rfl) (by kernel_rfl) ?_
  case kinds =>
    constructor
    · intro i h
      rcases i with _ | _ | _ | _ | _ | _ | _ | _ | _ | _ | i <;> simp [Kx.isMade] at h
    · intro i h
      rcases i with _ | _ | _ | _ | _ | _ | _ | _ | _ | _ | i <;> simp [Kx.isUse] at h
  refine lexX_step (fun K hK => ⟨by kernel_rfl, ⟨_, rfl⟩, fun v hv => ?_, fun v hv => ?_⟩)
  · go_simp
    exact mUpon_b
  subst hv
  go_simp
  refine hK _ ?_
  clear hK K
  refine lexX_step (fun K hK => ⟨by kernel_rfl, ⟨_, rfl⟩, fun v hv => ?_, fun v hv => ?_⟩)
  · go_simp
    exact mUpon_b
  subst hv
  go_simp
  refine hK _ ?_
  clear hK K
  refine lexX_step (fun K hK => ⟨by kernel_rfl, ⟨_, rfl⟩, fun v hv => ?_, fun v hv => ?_⟩)
  · have cc := (cells_at (keepB (unhideR HGb2) hv) 7 (by simp)).1
    simp at cc
    go_simp
    exact mUpon_b
  subst hv
  go_simp
  refine hK _ ?_
  clear hK K
  refine lexX_step (fun K hK => ⟨by kernel_rfl, ⟨_, rfl⟩, fun v hv => ?_, fun v hv => ?_⟩)
  · go_simp
    exact mUpon_b
  subst hv
  go_simp
  refine hK _ ?_
  clear hK K
  refine lexX_step (fun K hK => ⟨by kernel_rfl, ⟨_, rfl⟩, fun v hv => ?_, fun v hv => ?_⟩)
  · go_simp
    exact mUpon_b
  subst hv
  go_simp
  refine hK _ ?_
  clear hK K
  refine lexX_step (fun K hK => ⟨by kernel_rfl, ⟨_, rfl⟩, fun v hv => ?_, fun v hv => ?_⟩)
  · go_simp
    refine (hm2 _).mono ?_
    rintro e w9 ⟨rfl, rfl⟩
    exact ⟨_, rfl, rfl, Below.refl _ _⟩
  subst hv
  go_simp
  refine hK _ ?_
  clear hK K
  refine lexX_step (fun K hK => ⟨by kernel_rfl, ⟨_, rfl⟩, fun v hv => ?_, fun v hv => ?_⟩)
  · go_simp
    exact mUpon_b
  subst hv
  go_simp
  refine hK _ ?_
  clear hK K
  refine lexX_step (fun K hK => ⟨by kernel_rfl, ⟨_, rfl⟩, fun v hv => ?_, fun v hv => ?_⟩)
  · go_simp
    exact mUpon_b
  subst hv
  go_simp
  refine hK _ ?_
  clear hK K
  refine lexX_step (fun K hK => ⟨by kernel_rfl, ⟨_, rfl⟩, fun v hv => ?_, fun v hv => ?_⟩)
  · go_simp
    exact mUpon_b
  subst hv
  go_simp
  refine hK _ ?_
  clear hK K
  refine lexX_step (fun K hK => ⟨by kernel_rfl, ⟨_, rfl⟩, fun v hv => ?_, fun v hv => ?_⟩)
  · go_simp
    exact mUpon_b
  subst hv
  go_simp
  refine hK _ ?_
  clear hK K
  refine lexX_end (fun v6 hv => ?_)
  have K6 := hv.low
  clear hv
  have xo := cells_at (keepB (unhideR HGb2) K6) 7 (by simp)
  obtain ⟨xo1, fo1⟩ := xo
  simp at xo1
  refine wpAny_step (i := 10) (by kernel_rfl) rfl (by kernel_rfl) (fun K hK => ?_)
  unfold Oper.wp
  go_simp
  refine hK _ _ ?_
  clear hK K
  refine wpAny_end (by kernel_rfl) ?_
  have HGb3 : HeldR ((v6.setCell ⟨w.heap.size, 7, none⟩ (.int .i64 (sy + py1))).heap[w.heap.size]? = some (.cells #[.int .i64 L1, .int .i64 T1, .int .i64 R1, .int .i64 O1, .int .i64 (px + 1), .int .i64 (li + l), .int .i64 (sx + px1), .int .i64 (sy + py1), .int .i64 lt] 36)) := hideR (by
    rw [heap_setCell_same _ _ _ _ _ _ (keepB (unhideR HGb2) K6)]
    simp)
  have HGc3 : HeldR ((v6.setCell ⟨w.heap.size, 7, none⟩ (.int .i64 (sy + py1))).heap[w.heap.size + 1]? = some (.cells #[.int .i64 0, .int .i64 0, .int .i64 0, .int .i64 0, .int .i64 0, .int .i64 0, .int .i64 0, .int .i64 0, .int .i64 0] 36)) := hideR (by
    rw [heap_setCell_other _ _ _ _ (by simp)]
    exact keepB (unhideR HGc2) K6)
  have HB3 := hideR ((below_go (unhideR HB2) K6).setCell (p := ⟨w.heap.size, 7, none⟩) (Nat.le_refl _) (.int .i64 (sy + py1)))
  clear HGb2 HGc2 HB2 xo1 fo1 K6
  generalize v6.setCell ⟨w.heap.size, 7, none⟩ (.int .i64 (sy + py1)) = W3 at *
  have b0 : W3.cell? ⟨w.heap.size, 0, none⟩ = some (.int .i64 L1) := (cells_at (unhideR HGb3) 0 (by simp)).1
  have b1 : W3.cell? ⟨w.heap.size, 1, none⟩ = some (.int .i64 T1) := (cells_at (unhideR HGb3) 1 (by simp)).1
  have b2 : W3.cell? ⟨w.heap.size, 2, none⟩ = some (.int .i64 R1) := (cells_at (unhideR HGb3) 2 (by simp)).1
  have b3 : W3.cell? ⟨w.heap.size, 3, none⟩ = some (.int .i64 O1) := (cells_at (unhideR HGb3) 3 (by simp)).1
  have b4 : W3.cell? ⟨w.heap.size, 4, none⟩ = some (.int .i64 (px + 1)) := (cells_at (unhideR HGb3) 4 (by simp)).1
  have b5 : W3.cell? ⟨w.heap.size, 5, none⟩ = some (.int .i64 (li + l)) := (cells_at (unhideR HGb3) 5 (by simp)).1
  have b6 : W3.cell? ⟨w.heap.size, 6, none⟩ = some (.int .i64 (sx + px1)) := (cells_at (unhideR HGb3) 6 (by simp)).1
  have b7 : W3.cell? ⟨w.heap.size, 7, none⟩ = some (.int .i64 (sy + py1)) := (cells_at (unhideR HGb3) 7 (by simp)).1
  have b8 : W3.cell? ⟨w.heap.size, 8, none⟩ = some (.int .i64 lt) := (cells_at (unhideR HGb3) 8 (by simp)).1
  have c0 : W3.cell? ⟨w.heap.size + 1, 0, none⟩ = some (.int .i64 0) := (cells_at (unhideR HGc3) 0 (by simp)).1
  have f0 : W3.frozen? ⟨w.heap.size + 1, 0, none⟩ = false := (cells_at (unhideR HGc3) 0 (by simp)).2
  have c1 : W3.cell? ⟨w.heap.size + 1, 1, none⟩ = some (.int .i64 0) := (cells_at (unhideR HGc3) 1 (by simp)).1
  have f1 : W3.frozen? ⟨w.heap.size + 1, 1, none⟩ = false := (cells_at (unhideR HGc3) 1 (by simp)).2
  have c2 : W3.cell? ⟨w.heap.size + 1, 2, none⟩ = some (.int .i64 0) := (cells_at (unhideR HGc3) 2 (by simp)).1
  have f2 : W3.frozen? ⟨w.heap.size + 1, 2, none⟩ = false := (cells_at (unhideR HGc3) 2 (by simp)).2
  have c3 : W3.cell? ⟨w.heap.size + 1, 3, none⟩ = some (.int .i64 0) := (cells_at (unhideR HGc3) 3 (by simp)).1
  have f3 : W3.frozen? ⟨w.heap.size + 1, 3, none⟩ = false := (cells_at (unhideR HGc3) 3 (by simp)).2
  have c4 : W3.cell? ⟨w.heap.size + 1, 4, none⟩ = some (.int .i64 0) := (cells_at (unhideR HGc3) 4 (by simp)).1
  have f4 : W3.frozen? ⟨w.heap.size + 1, 4, none⟩ = false := (cells_at (unhideR HGc3) 4 (by simp)).2
  have c5 : W3.cell? ⟨w.heap.size + 1, 5, none⟩ = some (.int .i64 0) := (cells_at (unhideR HGc3) 5 (by simp)).1
  have f5 : W3.frozen? ⟨w.heap.size + 1, 5, none⟩ = false := (cells_at (unhideR HGc3) 5 (by simp)).2
  have c6 : W3.cell? ⟨w.heap.size + 1, 6, none⟩ = some (.int .i64 0) := (cells_at (unhideR HGc3) 6 (by simp)).1
  have f6 : W3.frozen? ⟨w.heap.size + 1, 6, none⟩ = false := (cells_at (unhideR HGc3) 6 (by simp)).2
  have c7 : W3.cell? ⟨w.heap.size + 1, 7, none⟩ = some (.int .i64 0) := (cells_at (unhideR HGc3) 7 (by simp)).1
  have f7 : W3.frozen? ⟨w.heap.size + 1, 7, none⟩ = false := (cells_at (unhideR HGc3) 7 (by simp)).2
  have c8 : W3.cell? ⟨w.heap.size + 1, 8, none⟩ = some (.int .i64 0) := (cells_at (unhideR HGc3) 8 (by simp)).1
  have f8 : W3.frozen? ⟨w.heap.size + 1, 8, none⟩ = false := (cells_at (unhideR HGc3) 8 (by simp)).2
  go_wp2
  simp [bodyPost, results, Tryz.results77, go_sem, c0, c1, c2, c3, c4, c5, c6, c7, c8]
  exact ⟨by rw [unhideR HRes]; rfl, (((((((((unhideR HB3).setCell (Nat.le_succ _) _).setCell (Nat.le_succ _) _).setCell (Nat.le_succ _) _).setCell (Nat.le_succ _) _).setCell (Nat.le_succ _) _).setCell (Nat.le_succ _) _).setCell (Nat.le_succ _) _).setCell (Nat.le_succ _) _).setCell (Nat.le_succ _) _⟩
end Go.Proofs.YtmgnobeaacjdjajGreatDoor
namespace Go.Proofs.YtmgnobeaacjdjajGreatDoor
open Go Go.RowKit Go.Shelf Go.Lib Go.Sort

theorem valSx_one (x : Sta) : ∀ v ∈ valSx x, v.oneCell' = true := fun v hv => flatSx_one [x] v (List.mem_append_left _ hv)
/-- one thing of a row is written. -/
theorem setMany_one (k : Nat) (hk : ∀ x : Sta, (valSx x).length = k) (d : Array Sta) (i : Nat) (y : Sta) (hi : i < d.size) : setMany (flatK valSx k d) (i * k) (valSx y) = flatK valSx k (d.setIfInBounds i y) := by
  refine ext_get! (by simp) fun t ht => ?_
  have ht' : t < d.size * k := by simpa using ht
  have k0 : 0 < k := by
    rcases Nat.eq_zero_or_pos k with h | h
    · subst h; simp at ht'
    · exact h
  rw [get_setMany _ _ _ t (by simpa using ht'), get_flatK _ _ _ t ht', get_flatK _ _ _ t (by simpa using ht'), hk]
  have m : ∀ q, t / k = q → t - q * k = t % k := fun q h => by subst h; rw [Nat.mod_eq_sub_div_mul]
  by_cases b : t / k = i
  · rw [if_pos ((blk_iff k i t k0).2 b), m i b, b]
    simp [hi]
  · rw [if_neg (fun h => b ((blk_iff k i t k0).1 h))]
    have : (d.setIfInBounds i y)[t / k]! = d[t / k]! := by
      simp only [getElem!_def, Array.getElem?_setIfInBounds, if_neg (Ne.symm b)]
    rw [this]
theorem below_setCells {g : Nat} {w : World} : ∀ (vs : List Value) (o : Nat) (u : World), Below g w u → Below g w (u.setCells g o vs)
  | [], _, _, h => h
  | v :: r, o, u, h => by
    rw [World.setCells]
    exact below_setCells r (o + 1) _ (h.setCell (Nat.le_refl g) v)
def updS (f : Nat → Sta) (i : Nat) (s : Sta) : Nat → Sta := fun j => if j = i then s else f j
/-- a row of N spots in block g. -/
structure GRow (k : Nat) (w : World) (g N : Nat) (f : Nat → Sta) (u : World) : Prop where
  has : ∃ d : Array Sta, d.size = N ∧ (∀ i, i < N → d[i]! = f i) ∧ HoldsK valSx k u g 0 d
  lt : g < u.heap.size
  bel : Below g w u
  k9 : 9 = k
theorem GRow.below {k : Nat} {w : World} {g N : Nat} {f : Nat → Sta} {u v : World} (h : GRow k w g N f u) (b : Below u.heap.size u v) : GRow k w g N f v := by
  obtain ⟨d, h1, h2, h3⟩ := h.has
  refine ⟨⟨d, h1, h2, fun j hj => ?_⟩, Nat.lt_of_lt_of_le h.lt b.size, h.bel.trans (b.mono (Nat.le_of_lt h.lt)), h.k9⟩
  obtain ⟨q1, q2⟩ := h3 j hj
  exact ⟨(b.cell (p := ⟨g, 0 + j, none⟩) h.lt).trans q1, (b.frozen (p := ⟨g, 0 + j, none⟩) h.lt).trans q2⟩
theorem GRow.load {k : Nat} {w : World} {g N : Nat} {f : Nat → Sta} {u : World} (h : GRow k w g N f u) {i : Nat} (hi : i < N) {v : World} (b : Below u.heap.size u v) : Sem.run Tryz.prog (loadCellsFrom ⟨g, i * k, none⟩ 0 k #[]) v = .ok (valSx (f i)).toArray v := by
  obtain ⟨d, h1, h2, h3⟩ := (h.below b).has
  have hk : ∀ x : Sta, (valSx x).length = k := fun x => h.k9
  have := run_loadCellsFrom_list Tryz.prog v ⟨g, 0 + i * k, none⟩ (valSx d[i]!) k (hk _) (HoldsK.cells h3 hk (by omega))
  rw [Nat.zero_add, h2 i hi] at this
  exact this
theorem GRow.store {k : Nat} {w : World} {g N : Nat} {f : Nat → Sta} {u : World} (h : GRow k w g N f u) {i : Nat} (hi : i < N) (s : Sta) : Sem.run Tryz.prog (storeCells ⟨g, i * k, none⟩ (valSx s) 0) u = .ok () (u.setCells g (i * k) (valSx s)) ∧ GRow k w g N (updS f i s) (u.setCells g (i * k) (valSx s)) := by
  obtain ⟨d, h1, h2, h3⟩ := h.has
  have hk : ∀ x : Sta, (valSx x).length = k := fun x => h.k9
  have hb : i * k + (valSx s).length ≤ (flatK valSx k d).size := by
    rw [hk, size_flatK, h1]
    have := Nat.mul_le_mul_right k (show i + 1 ≤ N from hi)
    rwa [Nat.succ_mul] at this
  have a1 := stores_of_holds Tryz.prog h3 (i * k) (valSx s) hb (valSx_one s)
  have a2 := holds_setCells_c h3 (i * k) (valSx s) hb
  rw [Nat.zero_add] at a1 a2
  rw [setMany_one k hk d i s (by omega)] at a2
  refine ⟨a1, ⟨d.setIfInBounds i s, by simpa using h1, fun j hj => ?_, a2⟩, ?_, ?_, h.k9⟩
  · unfold updS
    simp only [getElem!_def, Array.getElem?_setIfInBounds]
    by_cases e : j = i
    · subst e
      simp [show j < d.size by omega]
    · rw [if_neg (fun q => e q.symm), if_neg e, ← h2 j hj, getElem!_def]
  · rw [size_setCells]; exact h.lt
  · exact below_setCells _ _ _ h.bel
end Go.Proofs.YtmgnobeaacjdjajGreatDoor
namespace Go.Proofs.YtmgnobeaacjdjajGreatDoor
open Go Go.RowKit Go.Shelf Go.Lib Go.Sort

/-- a part while it is gathered: its sums lie where its star will be. -/
def rawS (s : Sp) : Sta := if s.px = 0 then sx0 else ⟨s.le, s.tp, s.ri, s.lo, s.px, s.li, s.sx, s.sy, 0⟩
theorem fold_px (W : Nat) (ov : List Int) (l : List Nat) (s : Sp) : (l.foldl (spStep W ov) s).px = s.px + l.length := by
  induction l generalizing s with
  | nil => simp
  | cons a l ih =>
    rw [List.foldl_cons, ih]
    show s.px + 1 + _ = _
    rw [List.length_cons]
    omega
theorem spN_none {lab ov : List Int} {W H k n : Nat} (h : (spN lab ov W H k n).px = 0) : spN lab ov W H k n = sp0 W H k := by
  unfold spN at h ⊢
  rw [fold_px] at h
  have : (inPart lab k n).length = 0 := by
    have e : (sp0 W H k).px = 0 := rfl
    omega
  rw [List.length_eq_zero_iff.1 this]
  rfl
theorem raw_step {lab ov : List Int} {W H k n : Nat} (hW : n % W < W) (hH : n / W < H) (h0 : 0 ≤ (spN lab ov W H k n).px) : rawS (spStep W ov (spN lab ov W H k n) n) = withX (rawS (spN lab ov W H k n)) ((n % W : Nat) : Int) ((n / W : Nat) : Int) (ov.getD n 0) := by
  have hp : (spStep W ov (spN lab ov W H k n) n).px = (spN lab ov W H k n).px + 1 := rfl
  unfold rawS
  rw [hp, if_neg (by omega)]
  by_cases e : (spN lab ov W H k n).px = 0
  · rw [if_pos e, spN_none e]
    unfold spStep withX sp0 sx0
    simp only [if_true, Sta.mk.injEq]
    generalize n % W = a at *
    generalize n / W = b at *
    refine ⟨?_, ?_, ?_, ?_, ?_, ?_, ?_, ?_, ?_⟩
    · omega
    · omega
    · omega
    · omega
    all_goals first | trivial | rfl | rw [Int.mul_comm]
  · rw [if_neg e]
    unfold spStep withX
    simp only [if_neg e, Sta.mk.injEq]
    refine ⟨trivial, trivial, trivial, trivial, trivial, trivial, ?_, ?_, trivial⟩
    · rw [Int.mul_comm]
    · rw [Int.mul_comm]
theorem raw_ok {s : Sp} {i : Nat} {x y : Nat} {l : Int} (h : SpB s i) (hi : i ≤ 65536) (hx : x ≤ 255) (hy : y ≤ 255) (l0 : 1 ≤ l) (l1 : l ≤ 65535) : WithOk (rawS s) (x : Nat) (y : Nat) l := by
  obtain ⟨h1, h2, h3, h4, h5, h6, h7, h8⟩ := h
  unfold rawS
  split
  · exact ⟨by omega, by omega, by omega, by omega, by show (-1000000 : Int) ≤ 0 ∧ (0 : Int) ≤ 1000000; omega, by show (-1000000000000 : Int) ≤ 0 ∧ (0 : Int) ≤ 1000000000000; omega, by omega, by show (-1000000000000000000 : Int) ≤ 0 ∧ (0 : Int) ≤ 1000000000000000000; omega, by show (-1000000000000000000 : Int) ≤ 0 ∧ (0 : Int) ≤ 1000000000000000000; omega⟩
  · exact ⟨by omega, by omega, by omega, by omega, by show -1000000 ≤ s.px ∧ s.px ≤ 1000000; omega, by show -1000000000000 ≤ s.li ∧ s.li ≤ 1000000000000; omega, by omega, by show -1000000000000000000 ≤ s.sx ∧ s.sx ≤ 1000000000000000000; omega, by show -1000000000000000000 ≤ s.sy ∧ s.sy ≤ 1000000000000000000; omega⟩
end Go.Proofs.YtmgnobeaacjdjajGreatDoor
namespace Go.Proofs.YtmgnobeaacjdjajGreatDoor
open Go Go.RowKit Go.Shelf Go.Lib Go.Sort

def set3w (u : World) (g o : Nat) (a b c : Value) : World := ((u.setCell ⟨g, o, none⟩ a).setCell ⟨g, o + 1, none⟩ b).setCell ⟨g, o + 2, none⟩ c
theorem set3w_other {u : World} {g o i : Nat} {a b c : Value} (h : i < o ∨ o + 3 ≤ i) : (set3w u g o a b c).cell? ⟨g, i, none⟩ = u.cell? ⟨g, i, none⟩ := by
  unfold set3w
  rw [World.cell?_setCell_other, World.cell?_setCell_other, World.cell?_setCell_other]
  all_goals
    intro e
    injection e with _ e2
    omega
theorem set3w_a {u : World} {g o : Nat} {a b c x : Value} (h : u.cell? ⟨g, o, none⟩ = some x) : (set3w u g o a b c).cell? ⟨g, o, none⟩ = some a := by
  unfold set3w
  rw [World.cell?_setCell_other, World.cell?_setCell_other]
  · exact World.cell?_setCell_same u _ _ h
  all_goals
    intro e
    injection e with _ e2
    omega
theorem set3w_b {u : World} {g o : Nat} {a b c x : Value} (h : u.cell? ⟨g, o + 1, none⟩ = some x) : (set3w u g o a b c).cell? ⟨g, o + 1, none⟩ = some b := by
  unfold set3w
  rw [World.cell?_setCell_other]
  · refine World.cell?_setCell_same _ _ _ (u := x) ?_
    rw [World.cell?_setCell_other]
    · exact h
    · intro e
      injection e with _ e2
      omega
  · intro e
    injection e with _ e2
    omega
theorem set3w_c {u : World} {g o : Nat} {a b c x : Value} (h : u.cell? ⟨g, o + 2, none⟩ = some x) : (set3w u g o a b c).cell? ⟨g, o + 2, none⟩ = some c := by
  unfold set3w
  refine World.cell?_setCell_same _ _ _ (u := x) ?_
  rw [World.cell?_setCell_other, World.cell?_setCell_other]
  · exact h
  all_goals
    intro e
    injection e with _ e2
    omega
theorem set3w_free {u : World} {g o i : Nat} {a b c : Value} : (set3w u g o a b c).frozen? ⟨g, i, none⟩ = u.frozen? ⟨g, i, none⟩ := by
  unfold set3w
  simp [go_sem]
theorem GRow.cell {w : World} {g N : Nat} {f : Nat → Sta} {u : World} (h : GRow 9 w g N f u) {i : Nat} (hi : i < N) : SxAt u g (i * 9) (f i) ∧ ∀ j, j < 9 → u.frozen? ⟨g, i * 9 + j, none⟩ = false := by
  obtain ⟨d, h1, h2, h3⟩ := h.has
  constructor
  · refine Sxat_of (fun j hj => ?_)
    have := HoldsK.cells h3 (fun _ => rfl) (i := i) (by omega) j ((valSx d[i]!)[j]'(by simpa [valSx] using hj)) (List.getElem?_eq_getElem _)
    rw [add_pl2, Nat.zero_add] at this
    rw [this, ← h2 i hi]
    exact (List.getElem?_eq_getElem _).symm
  · intro j hj
    have := (h3 (i * 9 + j) (by rw [size_flatK]; omega)).2
    rw [Nat.zero_add] at this
    exact this
theorem GRow.star {w : World} {g N : Nat} {f : Nat → Sta} {u : World} (h : GRow 9 w g N f u) {i : Nat} (hi : i < N) (x y l : Int) : GRow 9 w g N (updS f i ⟨(f i).le, (f i).tp, (f i).ri, (f i).lo, (f i).px, (f i).li, x, y, l⟩) (set3w u g (i * 9 + 6) (.int .i64 x) (.int .i64 y) (.int .i64 l)) := by
  obtain ⟨hc, hf⟩ := h.cell hi
  obtain ⟨d, h1, h2, h3⟩ := h.has
  refine ⟨⟨d.setIfInBounds i ⟨(f i).le, (f i).tp, (f i).ri, (f i).lo, (f i).px, (f i).li, x, y, l⟩, by simpa using h1, fun j hj => ?_, fun j hj => ?_⟩, ?_, ?_, rfl⟩
  · unfold updS
    simp only [getElem!_def, Array.getElem?_setIfInBounds]
    by_cases e : j = i
    · subst e
      simp [show j < d.size by omega]
    · rw [if_neg (fun q => e q.symm), if_neg e, ← h2 j hj, getElem!_def]
  · have hj' : j < d.size * 9 := by simpa using hj
    obtain ⟨q1, q2⟩ := h3 j (by rw [size_flatK]; exact hj')
    refine ⟨?_, set3w_free.trans q2⟩
    rw [Nat.zero_add] at q1 ⊢
    rw [get_flatK _ _ _ _ hj'] at q1
    rw [get_flatK _ _ _ _ (by simpa using hj')]
    by_cases e : j / 9 = i
    · have e1 : (d.setIfInBounds i ⟨(f i).le, (f i).tp, (f i).ri, (f i).lo, (f i).px, (f i).li, x, y, l⟩)[j / 9]! = ⟨(f i).le, (f i).tp, (f i).ri, (f i).lo, (f i).px, (f i).li, x, y, l⟩ := by
        rw [e]
        simp [show i < d.size by omega]
      rw [e1]
      rcases (show j = i * 9 ∨ j = i * 9 + 1 ∨ j = i * 9 + 2 ∨ j = i * 9 + 3 ∨ j = i * 9 + 4 ∨ j = i * 9 + 5 ∨ j = i * 9 + 6 ∨ j = i * 9 + 7 ∨ j = i * 9 + 8 by omega) with q | q | q | q | q | q | q | q | q
      · rw [show j % 9 = 0 by omega, q, set3w_other (by omega)]; exact hc.c0
      · rw [show j % 9 = 1 by omega, q, set3w_other (by omega)]; exact hc.c1
      · rw [show j % 9 = 2 by omega, q, set3w_other (by omega)]; exact hc.c2
      · rw [show j % 9 = 3 by omega, q, set3w_other (by omega)]; exact hc.c3
      · rw [show j % 9 = 4 by omega, q, set3w_other (by omega)]; exact hc.c4
      · rw [show j % 9 = 5 by omega, q, set3w_other (by omega)]; exact hc.c5
      · rw [show j % 9 = 6 by omega, q]; exact set3w_a hc.c6
      · rw [show j % 9 = 7 by omega, q]; exact set3w_b hc.c7
      · rw [show j % 9 = 8 by omega, q]; exact set3w_c hc.c8
    · have e1 : (d.setIfInBounds i ⟨(f i).le, (f i).tp, (f i).ri, (f i).lo, (f i).px, (f i).li, x, y, l⟩)[j / 9]! = d[j / 9]! := by
        simp only [getElem!_def, Array.getElem?_setIfInBounds, if_neg (Ne.symm e)]
      rw [e1, set3w_other (by omega)]
      exact q1
  · unfold set3w; simpa using h.lt
  · unfold set3w
    exact ((h.bel.setCell (Nat.le_refl g) _).setCell (Nat.le_refl g) _).setCell (Nat.le_refl g) _
end Go.Proofs.YtmgnobeaacjdjajGreatDoor
