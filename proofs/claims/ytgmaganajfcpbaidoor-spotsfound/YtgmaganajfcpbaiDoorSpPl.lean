/-
  A spot is put behind all that are as bright: the document's, by contract.
-/
import Derived.Test.YtgmaganajfcpbaiDoorSpKA
namespace Go.Proofs.YtgmaganajfcpbaiDoor
open Go Go.RowKit

theorem infoRSx : (Tryd.prog.info? 63).map (fun i => (i.zero, i.size, i.bytes)) = some (some Sxzv, 9, 72) := by kernel_rfl
set_option maxRecDepth 100000 in
set_option maxHeartbeats 6400000 in
theorem placed_row (bL oL : Nat) (cap : Nat) (L : List Sta) (e : Sta) (w : World) (hr : SxCame w (some ⟨bL, oL, none⟩) L) (hl : L.length ≤ 100000) (hcp : L.length ≤ cap) :
    Calls Tryd.prog 42 #[.slice (some ⟨bL, oL, none⟩) L.length cap, sxV e] w fun x w' => ∃ ad' cap', x = .returned (.slice ad' (L.length + 1) cap') ∧ SxCame w' ad' (putX L e) ∧ L.length + 1 ≤ cap' ∧ Below w.heap.size w w' := by
  obtain ⟨i0, hi, hz0, hz1, hz2⟩ := info_parts infoRSx
  have HR0 := hideR hr
  clear hr
  unfold sxV
  obtain ⟨N, hN⟩ : ∃ N, L.length = N := ⟨_, rfl⟩
  rw [hN] at hl hcp ⊢
  have HN := hideR hN
  clear hN
  go_enter Tryd.func42, Tryd.ntmps42
  go_wp2
  have HE := hideR (nine_at9 (alloc_last w (.cells #[.int .i64 e.le, .int .i64 e.tp, .int .i64 e.ri, .int .i64 e.lo, .int .i64 e.px, .int .i64 e.li, .int .i64 e.x, .int .i64 e.y, .int .i64 e.lt] 63)))
  have HR := hideR ((unhideR HR0).below (below_a w (.cells #[.int .i64 e.le, .int .i64 e.tp, .int .i64 e.ri, .int .i64 e.lo, .int .i64 e.px, .int .i64 e.li, .int .i64 e.x, .int .i64 e.y, .int .i64 e.lt] 63)))
  have HW0 := hideR (below_a w (.cells #[.int .i64 e.le, .int .i64 e.tp, .int .i64 e.ri, .int .i64 e.lo, .int .i64 e.px, .int .i64 e.li, .int .i64 e.x, .int .i64 e.y, .int .i64 e.lt] 63))
  have hs0 : w.heap.size < (w.alloc (.cells #[.int .i64 e.le, .int .i64 e.tp, .int .i64 e.ri, .int .i64 e.lo, .int .i64 e.px, .int .i64 e.li, .int .i64 e.x, .int .i64 e.y, .int .i64 e.lt] 63)).heap.size := by simp
  generalize w.alloc (.cells #[.int .i64 e.le, .int .i64 e.tp, .int .i64 e.ri, .int .i64 e.lo, .int .i64 e.px, .int .i64 e.li, .int .i64 e.x, .int .i64 e.y, .int .i64 e.lt] 63) = W0 at *
  clear HR0
  generalize hgs : w.heap.size = gs at *
  have HGs := hideR hgs
  clear hgs
  go_loopw [5, 6] (fun ov iv wl => ∃ i : Nat, i ≤ N ∧ iv = .int .i64 (i : Nat) ∧ HeldR (∀ j, j < i → e.li ≤ (L.getD j sx0).li) ∧ HeldR (wl.ownsRow W0.heap.size 63 9 ov i (flatSx (L.take i))) ∧ HeldR (Below W0.heap.size W0 wl)) (fun _ iv _ => 1000000 - (intOf iv).toNat)
  case atStart => exact ⟨0, by omega, rfl, hideR (fun j hj => absurd hj (Nat.not_lt_zero j)), World.ownsRow_nil _ _ _ _, hideR (Below.refl _ _)⟩
  case round =>
    obtain ⟨i, hi', rfl, HA, HO, HW⟩ := hrel
    have hE := (unhideR HE).below (unhideR HW) hs0
    have e5 : wr.cell? ⟨gs, 5, none⟩ = some (.int .i64 e.li) := hE.c5
    clear hE
    by_cases hlt : i < N
    · have hiL : i < L.length := by rw [unhideR HN]; exact hlt
      obtain ⟨b, off, eb, hb, hat⟩ := ((unhideR HR).below (unhideR HW)).at_ i hiL
      cases eb
      have c5 := hat.c5
      have HT := hideR (Sxtake hiL)
      have HX : HeldR (∀ x, x = L.getD i sx0 → (e.li ≤ x.li → ∀ j, j < i + 1 → e.li ≤ (L.getD j sx0).li) ∧ (¬ e.li ≤ x.li → putX L e = L.take i ++ e :: L.drop i)) := hideR fun x hx => by
        subst hx
        refine ⟨fun h j hj => ?_, fun h => putX_split L e i (by omega) (unhideR HA) (fun _ => h)⟩
        by_cases q : j = i
        · rw [q]; exact h
        · exact unhideR HA j (by omega)
      have HXa : HeldR (∀ u, Below W0.heap.size W0 u → SxAt u bL (oL + i * 9) (L.getD i sx0)) := hideR fun u ku => by
        obtain ⟨b', off', eb', _, hat'⟩ := ((unhideR HR).below ku).at_ i hiL
        cases eb'
        exact hat'
      replace HX := hideR (unhideR HX _ rfl)
      clear hat hb hiL
      generalize L.getD i sx0 = x at *
      have tin : decide (i < N) = true := decide_eq_true hlt
      by_cases hc : e.li ≤ x.li
      · have HA2 := hideR ((unhideR HX).1 hc)
        have tc : decide (e.li ≤ x.li) = true := decide_eq_true hc
        clear HX HA
        go_wp2_with fail
        refine wp_region_lets [(· = .int .i64 (i : Nat)),
          (· = .slice (some ⟨bL, oL, none⟩) N cap),
          (· = .int .i64 (N : Nat)),
          (· = .bool true),
          (· = .bool true),
          (· = .slice (some ⟨bL, oL, none⟩) N cap),
          (· = .int .i64 (i : Nat)),
          (· = .pointer (some ⟨bL, oL + i * 9, none⟩)),
          (· = .pointer (some ⟨bL, oL + i * 9 + 5, none⟩)),
          (· = .int .i64 x.li),
          (· = .pointer (some ⟨gs, 5, none⟩)),
          (· = .int .i64 e.li),
          (· = .bool true),
          (· = .bool true)] (by kernel_rfl) (by kernel_rfl) ?_
        refine lexL_step (fun K hK => ⟨by kernel_rfl, ⟨_, rfl⟩, fun n => ?_, fun v hv => ?_⟩)
        · go_simp
          exact lUpon_one
        subst hv
        go_simp
        refine hK _ ?_
        clear hK K
        refine lexL_step (fun K hK => ⟨by kernel_rfl, ⟨_, rfl⟩, fun n => ?_, fun v hv => ?_⟩)
        · go_simp
          exact lUpon_one
        subst hv
        go_simp
        refine hK _ ?_
        clear hK K
        refine lexL_step (fun K hK => ⟨by kernel_rfl, ⟨_, rfl⟩, fun n => ?_, fun v hv => ?_⟩)
        · go_simp
          exact lUpon_one
        subst hv
        go_simp
        refine hK _ ?_
        clear hK K
        refine lexL_step (fun K hK => ⟨by kernel_rfl, ⟨_, rfl⟩, fun n => ?_, fun v hv => ?_⟩)
        · go_simp
          exact lUpon_one
        subst hv
        go_simp
        refine hK _ ?_
        clear hK K
        refine lexL_step (fun K hK => ⟨by kernel_rfl, ⟨_, rfl⟩, fun n => ?_, fun v hv => ?_⟩)
        · go_simp
          exact lUpon_one
        subst hv
        go_simp
        refine hK _ ?_
        clear hK K
        refine lexL_step (fun K hK => ⟨by kernel_rfl, ⟨_, rfl⟩, fun n => ?_, fun v hv => ?_⟩)
        · go_simp
          exact lUpon_one
        subst hv
        go_simp
        refine hK _ ?_
        clear hK K
        refine lexL_step (fun K hK => ⟨by kernel_rfl, ⟨_, rfl⟩, fun n => ?_, fun v hv => ?_⟩)
        · go_simp
          exact lUpon_one
        subst hv
        go_simp
        refine hK _ ?_
        clear hK K
        refine lexL_step (fun K hK => ⟨by kernel_rfl, ⟨_, rfl⟩, fun n => ?_, fun v hv => ?_⟩)
        · go_simp
          exact lUpon_one
        subst hv
        go_simp
        refine hK _ ?_
        clear hK K
        refine lexL_step (fun K hK => ⟨by kernel_rfl, ⟨_, rfl⟩, fun n => ?_, fun v hv => ?_⟩)
        · go_simp
          exact lUpon_one
        subst hv
        go_simp
        refine hK _ ?_
        clear hK K
        refine lexL_step (fun K hK => ⟨by kernel_rfl, ⟨_, rfl⟩, fun n => ?_, fun v hv => ?_⟩)
        · go_simp
          exact lUpon_one
        subst hv
        go_simp
        refine hK _ ?_
        clear hK K
        refine lexL_step (fun K hK => ⟨by kernel_rfl, ⟨_, rfl⟩, fun n => ?_, fun v hv => ?_⟩)
        · go_simp
          exact lUpon_one
        subst hv
        go_simp
        refine hK _ ?_
        clear hK K
        refine lexL_step (fun K hK => ⟨by kernel_rfl, ⟨_, rfl⟩, fun n => ?_, fun v hv => ?_⟩)
        · go_simp
          exact lUpon_one
        subst hv
        go_simp
        refine hK _ ?_
        clear hK K
        refine lexL_step (fun K hK => ⟨by kernel_rfl, ⟨_, rfl⟩, fun n => ?_, fun v hv => ?_⟩)
        · go_simp
          exact lUpon_one
        subst hv
        go_simp
        refine hK _ ?_
        clear hK K
        refine lexL_step (fun K hK => ⟨by kernel_rfl, ⟨_, rfl⟩, fun n => ?_, fun v hv => ?_⟩)
        · go_simp
          exact lUpon_one
        subst hv
        go_simp
        refine hK _ ?_
        clear hK K
        refine lexL_end ?_
        intro n9
        clear c5
        replace HO := hideR (own_below2 (unhideR HO) (drawn_below wr n9))
        replace HW := hideR (below_go (unhideR HW) (drawn_below wr n9))
        clear e5
        generalize wr.drewN n9 = W5 at *
        have l1 := (unhideR HW).size
        obtain ⟨d0, d1, d2, d3, d4, d5, d6, d7, d8⟩ := unhideR HXa W5 (unhideR HW)
        clear HXa
        go_wp2_with (first
          | (at_builtin; refine wpList_append_own _ rfl _ _ 55 rfl W0.heap.size 63 i0 Sxzv 9 72 Tryd.underlying55 hi hz0 hz1 hz2 rfl (by decide) _ i (flatSx (L.take i)) rfl (own_below2 (unhideR HO) (below_a _ _)) ⟨W5.heap.size, 0, none⟩ 1 1 (valSx x) rfl rfl ?c1 ?c2 ?c3 ?c4 ?c5 ?_))
        case c1 => exact nine_new (alloc_last W5 _)
        case c2 =>
          intro u hu
          exact flatSx_one [x] u (by simpa [flatSx] using hu)
        case c3 => unfold maxLen; omega
        case c4 => omega
        case c5 => simp; omega
        intro v3 w3 hown2 hgrow2 _
        have B3 := hideR ((below_go (unhideR HW) (below_a W5 _)).grown hgrow2 (by simp; omega) (fun g h => by have := own_at2 (unhideR HO) g h; omega))
        have O3 : HeldR (w3.ownsRow W0.heap.size 63 9 v3 (i + 1) (flatSx (L.take (i + 1)))) := by
          unfold HeldR
          rw [unhideR HT, flatSx_append]
          simpa [flatSx] using hown2
        clear hown2 hgrow2 HO HW HT d0 d1 d2 d3 d4 d5 d6 d7 d8
        go_wp2
        exact ⟨⟨i + 1, by omega, by go_num, HA2, O3, B3⟩, by simp [intOf]; omega⟩
      · have HP := hideR ((unhideR HX).2 hc)
        have tc : decide (e.li ≤ x.li) = false := decide_eq_false hc
        clear HX HA HT HXa
        go_wp2_with fail
        refine wp_region_lets [(· = .int .i64 (i : Nat)),
          (· = .slice (some ⟨bL, oL, none⟩) N cap),
          (· = .int .i64 (N : Nat)),
          (· = .bool true),
          (· = .bool true),
          (· = .slice (some ⟨bL, oL, none⟩) N cap),
          (· = .int .i64 (i : Nat)),
          (· = .pointer (some ⟨bL, oL + i * 9, none⟩)),
          (· = .pointer (some ⟨bL, oL + i * 9 + 5, none⟩)),
          (· = .int .i64 x.li),
          (· = .pointer (some ⟨gs, 5, none⟩)),
          (· = .int .i64 e.li),
          (· = .bool false),
          (· = .bool false)] (by kernel_rfl) (by kernel_rfl) ?_
        refine lexL_step (fun K hK => ⟨by kernel_rfl, ⟨_, rfl⟩, fun n => ?_, fun v hv => ?_⟩)
        · go_simp
          exact lUpon_one
        subst hv
        go_simp
        refine hK _ ?_
        clear hK K
        refine lexL_step (fun K hK => ⟨by kernel_rfl, ⟨_, rfl⟩, fun n => ?_, fun v hv => ?_⟩)
        · go_simp
          exact lUpon_one
        subst hv
        go_simp
        refine hK _ ?_
        clear hK K
        refine lexL_step (fun K hK => ⟨by kernel_rfl, ⟨_, rfl⟩, fun n => ?_, fun v hv => ?_⟩)
        · go_simp
          exact lUpon_one
        subst hv
        go_simp
        refine hK _ ?_
        clear hK K
        refine lexL_step (fun K hK => ⟨by kernel_rfl, ⟨_, rfl⟩, fun n => ?_, fun v hv => ?_⟩)
        · go_simp
          exact lUpon_one
        subst hv
        go_simp
        refine hK _ ?_
        clear hK K
        refine lexL_step (fun K hK => ⟨by kernel_rfl, ⟨_, rfl⟩, fun n => ?_, fun v hv => ?_⟩)
        · go_simp
          exact lUpon_one
        subst hv
        go_simp
        refine hK _ ?_
        clear hK K
        refine lexL_step (fun K hK => ⟨by kernel_rfl, ⟨_, rfl⟩, fun n => ?_, fun v hv => ?_⟩)
        · go_simp
          exact lUpon_one
        subst hv
        go_simp
        refine hK _ ?_
        clear hK K
        refine lexL_step (fun K hK => ⟨by kernel_rfl, ⟨_, rfl⟩, fun n => ?_, fun v hv => ?_⟩)
        · go_simp
          exact lUpon_one
        subst hv
        go_simp
        refine hK _ ?_
        clear hK K
        refine lexL_step (fun K hK => ⟨by kernel_rfl, ⟨_, rfl⟩, fun n => ?_, fun v hv => ?_⟩)
        · go_simp
          exact lUpon_one
        subst hv
        go_simp
        refine hK _ ?_
        clear hK K
        refine lexL_step (fun K hK => ⟨by kernel_rfl, ⟨_, rfl⟩, fun n => ?_, fun v hv => ?_⟩)
        · go_simp
          exact lUpon_one
        subst hv
        go_simp
        refine hK _ ?_
        clear hK K
        refine lexL_step (fun K hK => ⟨by kernel_rfl, ⟨_, rfl⟩, fun n => ?_, fun v hv => ?_⟩)
        · go_simp
          exact lUpon_one
        subst hv
        go_simp
        refine hK _ ?_
        clear hK K
        refine lexL_step (fun K hK => ⟨by kernel_rfl, ⟨_, rfl⟩, fun n => ?_, fun v hv => ?_⟩)
        · go_simp
          exact lUpon_one
        subst hv
        go_simp
        refine hK _ ?_
        clear hK K
        refine lexL_step (fun K hK => ⟨by kernel_rfl, ⟨_, rfl⟩, fun n => ?_, fun v hv => ?_⟩)
        · go_simp
          exact lUpon_one
        subst hv
        go_simp
        refine hK _ ?_
        clear hK K
        refine lexL_step (fun K hK => ⟨by kernel_rfl, ⟨_, rfl⟩, fun n => ?_, fun v hv => ?_⟩)
        · go_simp
          exact lUpon_one
        subst hv
        go_simp
        refine hK _ ?_
        clear hK K
        refine lexL_step (fun K hK => ⟨by kernel_rfl, ⟨_, rfl⟩, fun n => ?_, fun v hv => ?_⟩)
        · go_simp
          exact lUpon_one
        subst hv
        go_simp
        refine hK _ ?_
        clear hK K
        refine lexL_end ?_
        intro n9
        clear c5
        replace HO := hideR (own_below2 (unhideR HO) (drawn_below wr n9))
        replace HW := hideR (below_go (unhideR HW) (drawn_below wr n9))
        clear e5
        generalize wr.drewN n9 = W5 at *
        have l1 := (unhideR HW).size
        obtain ⟨d0, d1, d2, d3, d4, d5, d6, d7, d8⟩ := (unhideR HE).below (unhideR HW) hs0
        go_wp2_with (first
          | (at_builtin; refine wpList_append_own _ rfl _ _ 55 rfl W0.heap.size 63 i0 Sxzv 9 72 Tryd.underlying55 hi hz0 hz1 hz2 rfl (by decide) _ i (flatSx (L.take i)) rfl (own_below2 (unhideR HO) (below_a _ _)) ⟨W5.heap.size, 0, none⟩ 1 1 (valSx e) rfl rfl ?c1 ?c2 ?c3 ?c4 ?c5 ?_))
        case c1 => exact nine_new (alloc_last W5 _)
        case c2 =>
          intro u hu
          exact flatSx_one [e] u (by simpa [flatSx] using hu)
        case c3 => unfold maxLen; omega
        case c4 => omega
        case c5 => simp; omega
        intro v3 w3 hown2 hgrow2 _
        have B3 := hideR ((below_go (unhideR HW) (below_a W5 _)).grown hgrow2 (by simp; omega) (fun g h => by have := own_at2 (unhideR HO) g h; omega))
        have O3 : HeldR (w3.ownsRow W0.heap.size 63 9 v3 (i + 1) (flatSx (L.take i ++ [e]))) := by
          unfold HeldR
          rw [flatSx_append]
          simpa [flatSx] using hown2
        clear hown2 hgrow2 HO HW
        clear d0 d1 d2 d3 d4 d5 d6 d7 d8
        go_wp2_with (first
          | (at_builtin; refine wpList_append_own _ rfl _ _ 55 rfl W0.heap.size 63 i0 Sxzv 9 72 Tryd.underlying55 hi hz0 hz1 hz2 rfl (by decide) _ (i + 1) (flatSx (L.take i ++ [e])) rfl (unhideR O3) ⟨bL, oL + i * 9, none⟩ (N - i) _ (flatSx (L.drop i)) rfl (by rw [flatSx_length, List.length_drop, unhideR HN]) ?d1 ?d2 ?d3 ?d4 ?d5 ?_))
        case d1 => exact drop_cellsX ((unhideR HR).below (unhideR B3)) i (by rw [unhideR HN]; omega)
        case d2 => exact flatSx_one (L.drop i)
        case d3 => unfold maxLen; omega
        case d4 => omega
        case d5 => exact (unhideR B3).size
        intro v4 w4 hown4 hgrow4 _
        have B4 : HeldR (Below w.heap.size w w4) := hideR (by
          have := unhideR HW0
          rw [← unhideR HGs] at this
          exact below_go this ((unhideR B3).grown hgrow4 (unhideR B3).size (fun g h => own_at2 (unhideR O3) g h)))
        have O4 : HeldR (w4.ownsRow W0.heap.size 63 9 v4 (putX L e).length (flatSx (putX L e))) := by
          unfold HeldR
          rw [putX_length, unhideR HP, flatSx_append, unhideR HN]
          have e1 : i + 1 + (N - i) = N + 1 := by omega
          rw [e1, flatSx_append, List.append_assoc] at hown4
          exact hown4
        clear hown4 hgrow4 O3 B3
        obtain ⟨ad', cap', rfl, hcm, hcp2⟩ := Sxown2 (unhideR O4)
        have HM := hideR hcm
        have HL : HeldR ((putX L e).length = N + 1) := hideR (by rw [putX_length, unhideR HN])
        clear hcm O4
        go_wp2
        go_ret
        exact ⟨ad', cap', by rw [← unhideR HL]; rfl, unhideR HM, by rw [← unhideR HL]; exact hcp2, unhideR B4⟩
    · obtain rfl : i = N := by omega
      have HP := hideR (putX_split L e i (by rw [unhideR HN]; exact Nat.le_refl _) (unhideR HA) (fun h => absurd h (by rw [unhideR HN]; omega)))
      have tin : decide (i < i) = false := decide_eq_false hlt
      clear HA
      rcases (show i = cap ∨ i < cap by omega) with hcc | hcc
      · subst hcc
        go_wp2_with fail
        refine wp_region_lets [(· = .int .i64 (i : Nat)),
          (· = .slice (some ⟨bL, oL, none⟩) i i),
          (· = .int .i64 (i : Nat)),
          (· = .bool false),
          (· = .bool false),
          (· = undef),
          (· = undef),
          (· = undef),
          (· = undef),
          (· = undef),
          (· = undef),
          (· = undef),
          (· = undef),
          (· = .bool false)] (by kernel_rfl) (by kernel_rfl) ?_
        refine lexL_step (fun K hK => ⟨by kernel_rfl, ⟨_, rfl⟩, fun n => ?_, fun v hv => ?_⟩)
        · go_simp
          exact lUpon_one
        subst hv
        go_simp
        refine hK _ ?_
        clear hK K
        refine lexL_step (fun K hK => ⟨by kernel_rfl, ⟨_, rfl⟩, fun n => ?_, fun v hv => ?_⟩)
        · go_simp
          exact lUpon_one
        subst hv
        go_simp
        refine hK _ ?_
        clear hK K
        refine lexL_step (fun K hK => ⟨by kernel_rfl, ⟨_, rfl⟩, fun n => ?_, fun v hv => ?_⟩)
        · go_simp
          exact lUpon_one
        subst hv
        go_simp
        refine hK _ ?_
        clear hK K
        refine lexL_step (fun K hK => ⟨by kernel_rfl, ⟨_, rfl⟩, fun n => ?_, fun v hv => ?_⟩)
        · go_simp
          exact lUpon_one
        subst hv
        go_simp
        refine hK _ ?_
        clear hK K
        refine lexL_step (fun K hK => ⟨by kernel_rfl, ⟨_, rfl⟩, fun n => ?_, fun v hv => ?_⟩)
        · go_simp
          exact lUpon_one
        subst hv
        go_simp
        refine hK _ ?_
        clear hK K
        refine lexL_skip (fun K hK => ⟨by kernel_rfl, ?_⟩)
        go_simp
        refine hK _ ?_
        clear hK K
        refine lexL_skip (fun K hK => ⟨by kernel_rfl, ?_⟩)
        go_simp
        refine hK _ ?_
        clear hK K
        refine lexL_skip (fun K hK => ⟨by kernel_rfl, ?_⟩)
        go_simp
        refine hK _ ?_
        clear hK K
        refine lexL_skip (fun K hK => ⟨by kernel_rfl, ?_⟩)
        go_simp
        refine hK _ ?_
        clear hK K
        refine lexL_skip (fun K hK => ⟨by kernel_rfl, ?_⟩)
        go_simp
        refine hK _ ?_
        clear hK K
        refine lexL_skip (fun K hK => ⟨by kernel_rfl, ?_⟩)
        go_simp
        refine hK _ ?_
        clear hK K
        refine lexL_skip (fun K hK => ⟨by kernel_rfl, ?_⟩)
        go_simp
        refine hK _ ?_
        clear hK K
        refine lexL_skip (fun K hK => ⟨by kernel_rfl, ?_⟩)
        go_simp
        refine hK _ ?_
        clear hK K
        refine lexL_step (fun K hK => ⟨by kernel_rfl, ⟨_, rfl⟩, fun n => ?_, fun v hv => ?_⟩)
        · go_simp
          exact lUpon_one
        subst hv
        go_simp
        refine hK _ ?_
        clear hK K
        refine lexL_end ?_
        intro n9
        replace HO := hideR (own_below2 (unhideR HO) (drawn_below wr n9))
        replace HW := hideR (below_go (unhideR HW) (drawn_below wr n9))
        clear e5
        generalize wr.drewN n9 = W5 at *
        have l1 := (unhideR HW).size
        obtain ⟨d0, d1, d2, d3, d4, d5, d6, d7, d8⟩ := (unhideR HE).below (unhideR HW) hs0
        go_wp2_with (first
          | (at_builtin; refine wpList_append_own _ rfl _ _ 55 rfl W0.heap.size 63 i0 Sxzv 9 72 Tryd.underlying55 hi hz0 hz1 hz2 rfl (by decide) _ i (flatSx (L.take i)) rfl (own_below2 (unhideR HO) (below_a _ _)) ⟨W5.heap.size, 0, none⟩ 1 1 (valSx e) rfl rfl ?c1 ?c2 ?c3 ?c4 ?c5 ?_))
        case c1 => exact nine_new (alloc_last W5 _)
        case c2 =>
          intro u hu
          exact flatSx_one [e] u (by simpa [flatSx] using hu)
        case c3 => unfold maxLen; omega
        case c4 => omega
        case c5 => simp; omega
        intro v3 w3 hown2 hgrow2 _
        have B3 := hideR ((below_go (unhideR HW) (below_a W5 _)).grown hgrow2 (by simp; omega) (fun g h => by have := own_at2 (unhideR HO) g h; omega))
        have O3 : HeldR (w3.ownsRow W0.heap.size 63 9 v3 (i + 1) (flatSx (L.take i ++ [e]))) := by
          unfold HeldR
          rw [flatSx_append]
          simpa [flatSx] using hown2
        clear hown2 hgrow2 HO HW
        clear d0 d1 d2 d3 d4 d5 d6 d7 d8
        go_wp2_with (first
          | (at_builtin; refine wpList_append_own _ rfl _ _ 55 rfl W0.heap.size 63 i0 Sxzv 9 72 Tryd.underlying55 hi hz0 hz1 hz2 rfl (by decide) _ (i + 1) (flatSx (L.take i ++ [e])) rfl (unhideR O3) _ 0 _ [] rfl rfl ?d1 ?d2 ?d3 ?d4 ?d5 ?_))
        case d1 => intro j u hu; cases hu
        case d2 => intro u hu; cases hu
        case d3 => unfold maxLen; omega
        case d4 => omega
        case d5 => exact (unhideR B3).size
        intro v4 w4 hown4 hgrow4 _
        have B4 : HeldR (Below w.heap.size w w4) := hideR (by
          have := unhideR HW0
          rw [← unhideR HGs] at this
          exact below_go this ((unhideR B3).grown hgrow4 (unhideR B3).size (fun g h => own_at2 (unhideR O3) g h)))
        have O4 : HeldR (w4.ownsRow W0.heap.size 63 9 v4 (putX L e).length (flatSx (putX L e))) := by
          unfold HeldR
          rw [putX_length, unhideR HP, ← unhideR HN, List.drop_length, List.take_length]
          rw [← unhideR HN, List.take_length] at hown4
          exact hown4
        clear hown4 hgrow4 O3 B3
        obtain ⟨ad', cap', rfl, hcm, hcp2⟩ := Sxown2 (unhideR O4)
        have HM := hideR hcm
        have HL : HeldR ((putX L e).length = i + 1) := hideR (by rw [putX_length, unhideR HN])
        clear hcm O4
        go_wp2
        go_ret
        exact ⟨ad', cap', by rw [← unhideR HL]; rfl, unhideR HM, by rw [← unhideR HL]; exact hcp2, unhideR B4⟩
      · go_wp2_with fail
        refine wp_region_lets [(· = .int .i64 (i : Nat)),
          (· = .slice (some ⟨bL, oL, none⟩) i cap),
          (· = .int .i64 (i : Nat)),
          (· = .bool false),
          (· = .bool false),
          (· = undef),
          (· = undef),
          (· = undef),
          (· = undef),
          (· = undef),
          (· = undef),
          (· = undef),
          (· = undef),
          (· = .bool false)] (by kernel_rfl) (by kernel_rfl) ?_
        refine lexL_step (fun K hK => ⟨by kernel_rfl, ⟨_, rfl⟩, fun n => ?_, fun v hv => ?_⟩)
        · go_simp
          exact lUpon_one
        subst hv
        go_simp
        refine hK _ ?_
        clear hK K
        refine lexL_step (fun K hK => ⟨by kernel_rfl, ⟨_, rfl⟩, fun n => ?_, fun v hv => ?_⟩)
        · go_simp
          exact lUpon_one
        subst hv
        go_simp
        refine hK _ ?_
        clear hK K
        refine lexL_step (fun K hK => ⟨by kernel_rfl, ⟨_, rfl⟩, fun n => ?_, fun v hv => ?_⟩)
        · go_simp
          exact lUpon_one
        subst hv
        go_simp
        refine hK _ ?_
        clear hK K
        refine lexL_step (fun K hK => ⟨by kernel_rfl, ⟨_, rfl⟩, fun n => ?_, fun v hv => ?_⟩)
        · go_simp
          exact lUpon_one
        subst hv
        go_simp
        refine hK _ ?_
        clear hK K
        refine lexL_step (fun K hK => ⟨by kernel_rfl, ⟨_, rfl⟩, fun n => ?_, fun v hv => ?_⟩)
        · go_simp
          exact lUpon_one
        subst hv
        go_simp
        refine hK _ ?_
        clear hK K
        refine lexL_skip (fun K hK => ⟨by kernel_rfl, ?_⟩)
        go_simp
        refine hK _ ?_
        clear hK K
        refine lexL_skip (fun K hK => ⟨by kernel_rfl, ?_⟩)
        go_simp
        refine hK _ ?_
        clear hK K
        refine lexL_skip (fun K hK => ⟨by kernel_rfl, ?_⟩)
        go_simp
        refine hK _ ?_
        clear hK K
        refine lexL_skip (fun K hK => ⟨by kernel_rfl, ?_⟩)
        go_simp
        refine hK _ ?_
        clear hK K
        refine lexL_skip (fun K hK => ⟨by kernel_rfl, ?_⟩)
        go_simp
        refine hK _ ?_
        clear hK K
        refine lexL_skip (fun K hK => ⟨by kernel_rfl, ?_⟩)
        go_simp
        refine hK _ ?_
        clear hK K
        refine lexL_skip (fun K hK => ⟨by kernel_rfl, ?_⟩)
        go_simp
        refine hK _ ?_
        clear hK K
        refine lexL_skip (fun K hK => ⟨by kernel_rfl, ?_⟩)
        go_simp
        refine hK _ ?_
        clear hK K
        refine lexL_step (fun K hK => ⟨by kernel_rfl, ⟨_, rfl⟩, fun n => ?_, fun v hv => ?_⟩)
        · go_simp
          exact lUpon_one
        subst hv
        go_simp
        refine hK _ ?_
        clear hK K
        refine lexL_end ?_
        intro n9
        replace HO := hideR (own_below2 (unhideR HO) (drawn_below wr n9))
        replace HW := hideR (below_go (unhideR HW) (drawn_below wr n9))
        clear e5
        generalize wr.drewN n9 = W5 at *
        have l1 := (unhideR HW).size
        obtain ⟨d0, d1, d2, d3, d4, d5, d6, d7, d8⟩ := (unhideR HE).below (unhideR HW) hs0
        go_wp2_with (first
          | (at_builtin; refine wpList_append_own _ rfl _ _ 55 rfl W0.heap.size 63 i0 Sxzv 9 72 Tryd.underlying55 hi hz0 hz1 hz2 rfl (by decide) _ i (flatSx (L.take i)) rfl (own_below2 (unhideR HO) (below_a _ _)) ⟨W5.heap.size, 0, none⟩ 1 1 (valSx e) rfl rfl ?c1 ?c2 ?c3 ?c4 ?c5 ?_))
        case c1 => exact nine_new (alloc_last W5 _)
        case c2 =>
          intro u hu
          exact flatSx_one [e] u (by simpa [flatSx] using hu)
        case c3 => unfold maxLen; omega
        case c4 => omega
        case c5 => simp; omega
        intro v3 w3 hown2 hgrow2 _
        have B3 := hideR ((below_go (unhideR HW) (below_a W5 _)).grown hgrow2 (by simp; omega) (fun g h => by have := own_at2 (unhideR HO) g h; omega))
        have O3 : HeldR (w3.ownsRow W0.heap.size 63 9 v3 (i + 1) (flatSx (L.take i ++ [e]))) := by
          unfold HeldR
          rw [flatSx_append]
          simpa [flatSx] using hown2
        clear hown2 hgrow2 HO HW
        clear d0 d1 d2 d3 d4 d5 d6 d7 d8
        go_wp2_with (first
          | (at_builtin; refine wpList_append_own _ rfl _ _ 55 rfl W0.heap.size 63 i0 Sxzv 9 72 Tryd.underlying55 hi hz0 hz1 hz2 rfl (by decide) _ (i + 1) (flatSx (L.take i ++ [e])) rfl (unhideR O3) _ 0 _ [] rfl rfl ?d1 ?d2 ?d3 ?d4 ?d5 ?_))
        case d1 => intro j u hu; cases hu
        case d2 => intro u hu; cases hu
        case d3 => unfold maxLen; omega
        case d4 => omega
        case d5 => exact (unhideR B3).size
        intro v4 w4 hown4 hgrow4 _
        have B4 : HeldR (Below w.heap.size w w4) := hideR (by
          have := unhideR HW0
          rw [← unhideR HGs] at this
          exact below_go this ((unhideR B3).grown hgrow4 (unhideR B3).size (fun g h => own_at2 (unhideR O3) g h)))
        have O4 : HeldR (w4.ownsRow W0.heap.size 63 9 v4 (putX L e).length (flatSx (putX L e))) := by
          unfold HeldR
          rw [putX_length, unhideR HP, ← unhideR HN, List.drop_length, List.take_length]
          rw [← unhideR HN, List.take_length] at hown4
          exact hown4
        clear hown4 hgrow4 O3 B3
        obtain ⟨ad', cap', rfl, hcm, hcp2⟩ := Sxown2 (unhideR O4)
        have HM := hideR hcm
        have HL : HeldR ((putX L e).length = i + 1) := hideR (by rw [putX_length, unhideR HN])
        clear hcm O4
        go_wp2
        go_ret
        exact ⟨ad', cap', by rw [← unhideR HL]; rfl, unhideR HM, by rw [← unhideR HL]; exact hcp2, unhideR B4⟩
set_option maxRecDepth 100000 in
set_option maxHeartbeats 3200000 in
theorem placed_nil (e : Sta) (w : World) :
    Calls Tryd.prog 42 #[.slice none 0 0, sxV e] w fun x w' => ∃ ad' cap', x = .returned (.slice ad' 1 cap') ∧ SxCame w' ad' [e] ∧ 1 ≤ cap' ∧ Below w.heap.size w w' := by
  obtain ⟨i0, hi, hz0, hz1, hz2⟩ := info_parts infoRSx
  unfold sxV
  go_enter Tryd.func42, Tryd.ntmps42
  go_wp2
  have HE := hideR (nine_at9 (alloc_last w (.cells #[.int .i64 e.le, .int .i64 e.tp, .int .i64 e.ri, .int .i64 e.lo, .int .i64 e.px, .int .i64 e.li, .int .i64 e.x, .int .i64 e.y, .int .i64 e.lt] 63)))
  have HW0 := hideR (below_a w (.cells #[.int .i64 e.le, .int .i64 e.tp, .int .i64 e.ri, .int .i64 e.lo, .int .i64 e.px, .int .i64 e.li, .int .i64 e.x, .int .i64 e.y, .int .i64 e.lt] 63))
  have hs0 : w.heap.size < (w.alloc (.cells #[.int .i64 e.le, .int .i64 e.tp, .int .i64 e.ri, .int .i64 e.lo, .int .i64 e.px, .int .i64 e.li, .int .i64 e.x, .int .i64 e.y, .int .i64 e.lt] 63)).heap.size := by simp
  generalize w.alloc (.cells #[.int .i64 e.le, .int .i64 e.tp, .int .i64 e.ri, .int .i64 e.lo, .int .i64 e.px, .int .i64 e.li, .int .i64 e.x, .int .i64 e.y, .int .i64 e.lt] 63) = W0 at *
  go_loopw [5, 6] (fun ov iv wl => ov = .slice none 0 0 ∧ iv = .int .i64 0 ∧ wl = W0) (fun _ _ _ => 0)
  case atStart => exact ⟨rfl, rfl, rfl⟩
  case round =>
    obtain ⟨rfl, rfl, rfl⟩ := hrel
    go_wp2_with fail
    refine wp_region_lets [(· = .int .i64 0),
      (· = .slice none 0 0),
      (· = .int .i64 0),
      (· = .bool false),
      (· = .bool false),
      (· = undef),
      (· = undef),
      (· = undef),
      (· = undef),
      (· = undef),
      (· = undef),
      (· = undef),
      (· = undef),
      (· = .bool false)] (by kernel_rfl) (by kernel_rfl) ?_
    refine lexL_step (fun K hK => ⟨by kernel_rfl, ⟨_, rfl⟩, fun n => ?_, fun v hv => ?_⟩)
    · go_simp
      exact lUpon_one
    subst hv
    go_simp
    refine hK _ ?_
    clear hK K
    refine lexL_step (fun K hK => ⟨by kernel_rfl, ⟨_, rfl⟩, fun n => ?_, fun v hv => ?_⟩)
    · go_simp
      exact lUpon_one
    subst hv
    go_simp
    refine hK _ ?_
    clear hK K
    refine lexL_step (fun K hK => ⟨by kernel_rfl, ⟨_, rfl⟩, fun n => ?_, fun v hv => ?_⟩)
    · go_simp
      exact lUpon_one
    subst hv
    go_simp
    refine hK _ ?_
    clear hK K
    refine lexL_step (fun K hK => ⟨by kernel_rfl, ⟨_, rfl⟩, fun n => ?_, fun v hv => ?_⟩)
    · go_simp
      exact lUpon_one
    subst hv
    go_simp
    refine hK _ ?_
    clear hK K
    refine lexL_step (fun K hK => ⟨by kernel_rfl, ⟨_, rfl⟩, fun n => ?_, fun v hv => ?_⟩)
    · go_simp
      exact lUpon_one
    subst hv
    go_simp
    refine hK _ ?_
    clear hK K
    refine lexL_skip (fun K hK => ⟨by kernel_rfl, ?_⟩)
    go_simp
    refine hK _ ?_
    clear hK K
    refine lexL_skip (fun K hK => ⟨by kernel_rfl, ?_⟩)
    go_simp
    refine hK _ ?_
    clear hK K
    refine lexL_skip (fun K hK => ⟨by kernel_rfl, ?_⟩)
    go_simp
    refine hK _ ?_
    clear hK K
    refine lexL_skip (fun K hK => ⟨by kernel_rfl, ?_⟩)
    go_simp
    refine hK _ ?_
    clear hK K
    refine lexL_skip (fun K hK => ⟨by kernel_rfl, ?_⟩)
    go_simp
    refine hK _ ?_
    clear hK K
    refine lexL_skip (fun K hK => ⟨by kernel_rfl, ?_⟩)
    go_simp
    refine hK _ ?_
    clear hK K
    refine lexL_skip (fun K hK => ⟨by kernel_rfl, ?_⟩)
    go_simp
    refine hK _ ?_
    clear hK K
    refine lexL_skip (fun K hK => ⟨by kernel_rfl, ?_⟩)
    go_simp
    refine hK _ ?_
    clear hK K
    refine lexL_step (fun K hK => ⟨by kernel_rfl, ⟨_, rfl⟩, fun n => ?_, fun v hv => ?_⟩)
    · go_simp
      exact lUpon_one
    subst hv
    go_simp
    refine hK _ ?_
    clear hK K
    refine lexL_end ?_
    intro n9
    have HW := hideR (drawn_below wr n9)
    obtain ⟨d0, d1, d2, d3, d4, d5, d6, d7, d8⟩ := (unhideR HE).below (unhideR HW) hs0
    generalize wr.drewN n9 = W5 at *
    go_wp2_with (first
      | (at_builtin; refine wpList_append_own _ rfl _ _ 55 rfl wr.heap.size 63 i0 Sxzv 9 72 Tryd.underlying55 hi hz0 hz1 hz2 rfl (by decide) _ 0 [] rfl (World.ownsRow_nil _ _ _ _) ⟨W5.heap.size, 0, none⟩ 1 1 (valSx e) rfl rfl ?c1 ?c2 ?c3 ?c4 ?c5 ?_))
    case c1 => exact nine_new (alloc_last W5 _)
    case c2 =>
      intro u hu
      exact flatSx_one [e] u (by simpa [flatSx] using hu)
    case c3 => unfold maxLen; omega
    case c4 => omega
    case c5 =>
      have := (unhideR HW).size
      simp
      omega
    intro v3 w3 hown2 hgrow2 _
    have B3 := hideR ((below_go (unhideR HW) (below_a W5 _)).grown hgrow2 (by have := (unhideR HW).size; simp; omega) (fun g h => by cases h))
    have O3 : HeldR (w3.ownsRow wr.heap.size 63 9 v3 ([e] : List Sta).length (flatSx [e])) := by
      unfold HeldR
      simpa [flatSx] using hown2
    clear hown2 hgrow2 d0 d1 d2 d3 d4 d5 d6 d7 d8
    go_wp2_with (first
      | (at_builtin; refine wpList_append_own_none rfl _ _ 55 rfl wr.heap.size 63 i0 9 Tryd.underlying55 hi _ _ _ rfl (unhideR O3) rfl ?_))
    obtain ⟨ad', cap', rfl, hcm, hcp2⟩ := Sxown2 (unhideR O3)
    have HM := hideR hcm
    have B4 := hideR (below_go (unhideR HW0) (unhideR B3))
    clear hcm O3 B3
    go_wp2
    go_ret
    exact ⟨ad', cap', rfl, unhideR HM, hcp2, unhideR B4⟩
theorem placed_any {v : Value} {L : List Sta} (e : Sta) {w : World} (h : SxSl w v L) (hl : L.length ≤ 100000) :
    Calls Tryd.prog 42 #[v, sxV e] w fun x w' => ∃ u, x = .returned u ∧ SxSl w' u (putX L e) ∧ Below w.heap.size w w' := by
  have hne : putX L e ≠ [] := fun k => by
    have := putX_length L e
    rw [k] at this
    simp at this
  cases h with
  | nil =>
    refine (placed_nil e w).mono ?_
    rintro x w' ⟨ad', cap', rfl, hcm, hc, hb⟩
    exact ⟨_, rfl, SxCame.sl (L := [e]) hcm (by simp) hc, hb⟩
  | row h hc =>
    refine (placed_row _ _ _ L e w h hl hc).mono ?_
    rintro x w' ⟨ad', cap', rfl, hcm, hc, hb⟩
    refine ⟨_, rfl, ?_, hb⟩
    have := hcm.sl (cap := cap') hne (by rw [putX_length]; exact hc)
    rw [putX_length] at this
    exact this
end Go.Proofs.YtgmaganajfcpbaiDoor
