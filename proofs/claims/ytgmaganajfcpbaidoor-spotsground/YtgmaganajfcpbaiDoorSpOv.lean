/-
  The document's counts above the ground, by contract.
-/
import Derived.Test.YtgmaganajfcpbaiDoorSpGr
import Derived.Test.YtgmaganajfcpbaiDoorPureA
namespace Go.Proofs.YtgmaganajfcpbaiDoor
open Go Go.RowKit

def OvPost (p : Pic) (t : Nat) (w : World) (e : Ending) (w' : World) : Prop := ∃ (ad : Option Addr) (cap : Nat), e = .returned (.slice ad (overV p t).length cap) ∧ ICame w' ad (overV p t) ∧ Below w.heap.size w w'
set_option maxRecDepth 100000 in
set_option maxHeartbeats 12800000 in
theorem overGround_any {w : World} {b o cap : Nat} {ad : Option Addr} {p : Pic} (h : PicAt w b o ad cap p) (hok : PicOk p) (t : Nat) (ht1 : 1 ≤ t) (ht2 : t ≤ 256) :
    Calls Tryd.prog 17 #[.pointer (some ⟨b, o, none⟩), .int .i64 (t : Nat)] w (OvPost p t w) := by
  obtain ⟨i0, hi0, hz0, hz1, hz2⟩ := info_parts infoI
  have hfew := hok.few
  have hgr := groundOf_any h (by omega) (t : Nat)
  have hE0 : groundE p (t : Nat) = 0 := by unfold groundE; rw [if_neg (by simpa using pic_right hok), if_neg (by omega)]
  unfold GrPost at hgr
  rw [hE0] at hgr
  have HP := hideR h
  have HOk := hideR hok
  have w1' := hok.w1
  have w2' := hok.w2
  have h1' := hok.h1
  have h2' := hok.h2
  have hpx := hok.len
  obtain ⟨Wi, Hi, Lp⟩ := p
  simp only at *
  obtain ⟨W, rfl⟩ : ∃ W : Nat, Wi = (W : Nat) := ⟨Wi.toNat, by omega⟩
  obtain ⟨H, rfl⟩ : ∃ H : Nat, Hi = (H : Nat) := ⟨Hi.toNat, by omega⟩
  have hLn : Lp.length = H * W := by
    rw [← Int.natCast_mul] at hpx
    have := Int.ofNat.inj hpx
    rw [this, Nat.mul_comm]
  have HLn := hideR hLn
  obtain ⟨tw, htw⟩ : ∃ tw, cdiv W t = tw := ⟨_, rfl⟩
  have htw2 : (W + t - 1) / t = tw := htw
  have hdv : ((W : Int) + (t : Int) - 1) / (t : Int) = (tw : Nat) := by
    rw [← htw2, Int.natCast_ediv]
    congr 1
    omega
  have hdv2 : ((W : Int) + (t : Int) - 1).tdiv (t : Int) = (tw : Nat) := (Int.tdiv_eq_ediv_of_nonneg (by omega)).trans hdv
  have htwb : tw ≤ 600 := by
    rw [← htw2]
    have := Nat.div_le_self (W + t - 1) t
    omega
  have wA : IntKind.i64.wrap ((W : Int) + (t : Int)) = (W : Int) + (t : Int) := iwrap (by omega) (by omega)
  have wB : IntKind.i64.wrap ((W : Int) + (t : Int) - 1) = (W : Int) + (t : Int) - 1 := iwrap (by omega) (by omega)
  have wC : IntKind.i64.wrap (tw : Int) = (tw : Int) := iwrap (by omega) (by omega)
  have ht0 : (t : Int) ≠ 0 := by omega
  have ht0' : t ≠ 0 := by omega
  have HTw := hideR htw
  have hOe : (overV ⟨W, H, Lp⟩ t) = overK ⟨W, H, Lp⟩ t (H * W) := rfl
  have HOe := hideR hOe
  clear h hok hpx hLn hE0 htw htw2 hOe
  go_enter Tryd.func17, Tryd.ntmps17
  go_wp2_with fail
  refine hgr.mono ?_
  rintro e w1 ⟨X, ag, gc, rfl, hX, _, hG, k1⟩
  obtain rfl := hX (by first | rfl | trivial)
  have HG := hideR hG
  have HW1 := hideR k1
  obtain ⟨gn, hgn⟩ : ∃ gn, (groundV ⟨W, H, Lp⟩ ((t : Nat) : Int).toNat).length = gn := ⟨_, rfl⟩
  rw [hgn]
  have HGn := hideR hgn
  obtain ⟨_, c0, c1, c2, _⟩ := (unhideR HP).below k1
  clear hgr hX hG k1 hgn
  go_wp2
  clear c0 c1 c2
  go_loopw [8, 9] (fun ov yv wl => ∃ y : Nat, y ≤ H ∧ yv = .int .i64 (y : Nat) ∧ HeldR (IOwn wl w1.heap.size ov (overK ⟨W, H, Lp⟩ t (y * W))) ∧ HeldR (Below w1.heap.size w1 wl)) (fun _ yv _ => 1000 - (intOf yv).toNat)
  case atStart => exact ⟨0, by omega, rfl, hideR (by rw [Nat.zero_mul]; exact inil _ _), hideR (Below.refl _ _)⟩
  case round =>
    obtain ⟨y, hyH, rfl, HOl0, HWl0⟩ := hrel
    obtain ⟨_, c0, c1, c2, _⟩ := (unhideR HP).below (below_go (unhideR HW1) (unhideR HWl0))
    by_cases hy : y < H
    · have hYW : y * W + W ≤ Lp.length := by
        rw [unhideR HLn]
        have h9 := Nat.mul_le_mul_right W (show y + 1 ≤ H by omega)
        rw [Nat.succ_mul] at h9
        exact h9
      obtain ⟨YW, hyw⟩ : ∃ YW, y * W = YW := ⟨_, rfl⟩
      have HYn : HeldR ((y + 1) * W = YW + W) := hideR (by rw [Nat.succ_mul, hyw])
      have HRd : HeldR (∀ x, x < W → (YW + x) / W = y ∧ (YW + x) % W = x) := hideR (fun x hx => by rw [← hyw]; exact row_div hx)
      have hwy : IntKind.i64.wrap ((y : Int) * (W : Int)) = (YW : Nat) := by
        rw [← Int.natCast_mul, hyw]
        exact iwrap (by rw [← hyw]; omega) (by rw [← hyw]; omega)
      have tyn : decide (y < H) = true := decide_eq_true hy
      rw [hyw] at hYW HOl0
      have wy1 : IntKind.i64.wrap ((y : Int) + 1) = (y : Int) + 1 := iwrap (by omega) (by omega)
      clear hyw
      go_wp2
      clear c0 c1 c2
      go_loopw [8, 10] (fun ov xv wl => ∃ x : Nat, x ≤ W ∧ xv = .int .i64 (x : Nat) ∧ HeldR (IOwn wl w1.heap.size ov (overK ⟨W, H, Lp⟩ t (YW + x))) ∧ HeldR (Below w1.heap.size w1 wl)) (fun _ xv _ => 1000 - (intOf xv).toNat)
      case atStart => exact ⟨0, by omega, rfl, HOl0, HWl0⟩
      case round =>
        clear HOl0 HWl0
        obtain ⟨x, hxW, rfl, HOl, HWl⟩ := hrel
        have HPr := hideR ((unhideR HP).below (below_go (unhideR HW1) (unhideR HWl)))
        obtain ⟨_, c0, c1, c2, _⟩ := unhideR HPr
        by_cases hx : x < W
        · have txn : decide (x < W) = true := decide_eq_true hx
          obtain ⟨ix, hix⟩ : ∃ ix, YW + x = ix := ⟨_, rfl⟩
          obtain ⟨bl, ol, e, hbl, xc⟩ := (unhideR HPr).row.at_ ix (by show ix < Lp.length; omega)
          subst e
          have hcc := (unhideR HOk).each ix (by show ix < Lp.length; omega)
          have xc' : wr.cell? ⟨bl, ol + ix, none⟩ = some (.int .i64 (Lp.getD ix 0)) := xc
          have hcc' : 0 ≤ Lp.getD ix 0 ∧ Lp.getD ix 0 ≤ 65535 := hcc
          clear xc hcc
          have hYt : y / t < cdiv H t := cdiv_in ht1 hy
          have hXt : x / t < tw := by rw [← unhideR HTw]; exact cdiv_in ht1 hx
          have hgl : (groundV ⟨W, H, Lp⟩ ((t : Nat) : Int).toNat).length = cdiv H t * tw := by
            rw [← unhideR HTw]
            exact gRows_len _ _ _ _
          have hgx : y / t * tw + x / t < (groundV ⟨W, H, Lp⟩ ((t : Nat) : Int).toNat).length := by
            rw [hgl]
            have h9 := Nat.mul_le_mul_right tw (show y / t + 1 ≤ cdiv H t by omega)
            rw [Nat.succ_mul] at h9
            omega
          obtain ⟨gb, go, e, hgb, xg⟩ := ((unhideR HG).below (unhideR HWl)).at_ _ hgx
          subst e
          have hmc := med_count (unhideR HOk) (t := t) (a := y / t) (c := x / t) hYt (by show x / t < cdiv W t; rw [unhideR HTw]; exact hXt) ht1
          have hmc' : 0 ≤ (groundV ⟨W, H, Lp⟩ t).getD (y / t * tw + x / t) 0 ∧ (groundV ⟨W, H, Lp⟩ t).getD (y / t * tw + x / t) 0 ≤ 65535 := by rw [← unhideR HTw]; exact hmc
          have xg' : wr.cell? ⟨gb, go + (y / t * tw + x / t), none⟩ = some (.int .i64 ((groundV ⟨W, H, Lp⟩ t).getD (y / t * tw + x / t) 0)) := xg
          have hgA : gAt ⟨W, H, Lp⟩ t ix = (groundV ⟨W, H, Lp⟩ t).getD (y / t * tw + x / t) 0 := by
            unfold gAt
            show (groundV ⟨W, H, Lp⟩ t).getD (ix / W / t * cdiv W t + ix % W / t) 0 = _
            obtain ⟨d1, d2⟩ := unhideR HRd x hx
            rw [← hix, d1, d2, unhideR HTw]
          have HNx : HeldR (overK ⟨W, H, Lp⟩ t (ix + 1) = overK ⟨W, H, Lp⟩ t ix ++ [Lp.getD ix 0 - (groundV ⟨W, H, Lp⟩ t).getD (y / t * tw + x / t) 0]) := hideR (by rw [overK_next, hgA])
          have hd1 : (y : Int) / (t : Int) = ((y / t : Nat) : Int) := (Int.natCast_ediv y t).symm
          have hd2 : (y : Int).tdiv (t : Int) = ((y / t : Nat) : Int) := (Int.tdiv_eq_ediv_of_nonneg (Int.natCast_nonneg y)).trans hd1
          have hf1 : (x : Int) / (t : Int) = ((x / t : Nat) : Int) := (Int.natCast_ediv x t).symm
          have hf2 : (x : Int).tdiv (t : Int) = ((x / t : Nat) : Int) := (Int.tdiv_eq_ediv_of_nonneg (Int.natCast_nonneg x)).trans hf1
          have hyb := Nat.div_le_self y t
          have hxb := Nat.div_le_self x t
          clear hmc xg hgl hYt hgA
          generalize y / t = Yt at *
          generalize x / t = Xt at *
          obtain ⟨YT, hYT⟩ : ∃ YT, Yt * tw = YT := ⟨_, rfl⟩
          have hYTb : YT ≤ 256 * 600 := by rw [← hYT]; exact Nat.mul_le_mul (by omega) htwb
          have hwt : IntKind.i64.wrap ((Yt : Int) * (tw : Int)) = (YT : Nat) := by
            rw [← Int.natCast_mul, hYT]
            exact iwrap (by omega) (by omega)
          rw [hYT] at hgx hmc' xg' HNx
          obtain ⟨gx, hgx2⟩ : ∃ gx, YT + Xt = gx := ⟨_, rfl⟩
          rw [hgx2] at hgx hmc' xg' HNx
          have xc := xc'
          have xg := xg'
          clear xc' xg'
          generalize Lp.getD ix 0 = c at *
          generalize (groundV ⟨W, H, Lp⟩ t).getD gx 0 = gv at *
          have wq1 : IntKind.i64.wrap (Yt : Int) = (Yt : Int) := iwrap (by omega) (by omega)
          have wq2 : IntKind.i64.wrap (Xt : Int) = (Xt : Int) := iwrap (by omega) (by omega)
          have wq3 : IntKind.i64.wrap ((YT : Int) + (Xt : Int)) = (gx : Nat) := by rw [iwrap (by omega) (by omega)]; omega
          have wq4 : IntKind.i64.wrap (c - gv) = c - gv := iwrap (by omega) (by omega)
          have hwi : IntKind.i64.wrap ((YW : Int) + (x : Int)) = (ix : Nat) := by rw [iwrap (by omega) (by omega)]; omega
          have wx1 : IntKind.i64.wrap ((x : Int) + 1) = (x : Int) + 1 := iwrap (by omega) (by omega)
          have j1 : (ix : Int) < (Lp.length : Int) := by omega
          have hgx3 : gx < gn := by rw [← unhideR HGn]; exact hgx
          have j2 : (gx : Int) < (gn : Int) := by omega
          have HIx := hideR (show YW + (x + 1) = ix + 1 by omega)
          rw [hix] at HOl
          obtain ⟨nl, hnl⟩ : ∃ nl, (overK ⟨W, H, Lp⟩ t ix).length = nl := ⟨_, rfl⟩
          have hnl2 : nl ≤ 100000 := by rw [← hnl, overK_len]; omega
          obtain ⟨al, cl, e⟩ := (unhideR HOl).slice
          rw [hnl] at e
          subst e
          have HNl := hideR hnl
          clear hnl hix hYT hgx2 hgx hgx3
          generalize overK ⟨W, H, Lp⟩ t ix = G at *
          go_wp2_with fail
          refine wp_region_made 1 #[true, true, true, true, true, true, true, true, true, true, true, true, true, true, true, true, true, true, true, true, true, true, true, true, true, true, true, true, true, false, false] [.lets (· = .slice al nl cl),
            .lets (· = .pointer (some ⟨b, o, none⟩)),
            .lets (· = .pointer (some ⟨b, o, none⟩)),
            .lets (· = .pointer (some ⟨b, o + 2, none⟩)),
            .lets (· = .slice (some ⟨bl, ol, none⟩) Lp.length cap),
            .lets (· = .int .i64 (y : Nat)),
            .lets (· = .pointer (some ⟨b, o, none⟩)),
            .lets (· = .pointer (some ⟨b, o, none⟩)),
            .lets (· = .pointer (some ⟨b, o, none⟩)),
            .lets (· = .int .i64 (W : Nat)),
            .lets (· = .int .i64 (YW : Nat)),
            .lets (· = .int .i64 (x : Nat)),
            .lets (· = .int .i64 (ix : Nat)),
            .lets (· = .pointer (some ⟨bl, ol + ix, none⟩)),
            .lets (· = .int .i64 c),
            .lets (· = .slice (some ⟨gb, go, none⟩) gn gc),
            .lets (· = .int .i64 (y : Nat)),
            .lets (· = .int .i64 (t : Nat)),
            .lets (· = .int .i64 (Yt : Nat)),
            .lets (· = .int .i64 (tw : Nat)),
            .lets (· = .int .i64 (YT : Nat)),
            .lets (· = .int .i64 (x : Nat)),
            .lets (· = .int .i64 (t : Nat)),
            .lets (· = .int .i64 (Xt : Nat)),
            .lets (· = .int .i64 (gx : Nat)),
            .lets (· = .pointer (some ⟨gb, go + gx, none⟩)),
            .lets (· = .int .i64 gv),
            .lets (· = .int .i64 (c - gv)),
            .made SlOne (OneI (c - gv))] [28] [] (by kernel_rfl) (by kernel_rfl) rfl ?kinds (by kernel_rfl) (by kernel_rfl) (by kernel_rfl) ?_
          case kinds =>
            constructor
            · intro i h
              rcases i with _ | _ | _ | _ | _ | _ | _ | _ | _ | _ | _ | _ | _ | _ | _ | _ | _ | _ | _ | _ | _ | _ | _ | _ | _ | _ | _ | _ | _ | i <;> simp [Kx.isMade] at h ⊢
            · intro i h
              rcases i with _ | _ | _ | _ | _ | _ | _ | _ | _ | _ | _ | _ | _ | _ | _ | _ | _ | _ | _ | _ | _ | _ | _ | _ | _ | _ | _ | _ | _ | i <;> simp [Kx.isUse] at h
          refine lexX_step (fun K hK => ⟨by kernel_rfl, ⟨_, rfl⟩, fun v hv => ?_, fun v hv => ?_⟩)
          · go_simp
            exact mUpon_b
          subst hv
          go_simp
          refine hK _ ?_
          clear hK K
          refine lexX_step (fun K hK => ⟨by kernel_rfl, ⟨_, rfl⟩, fun v hv => ?_, fun v hv => ?_⟩)
          · go_simp
            exact mUpon_b
          subst hv
          go_simp
          refine hK _ ?_
          clear hK K
          refine lexX_step (fun K hK => ⟨by kernel_rfl, ⟨_, rfl⟩, fun v hv => ?_, fun v hv => ?_⟩)
          · go_simp
            exact mUpon_b
          subst hv
          go_simp
          refine hK _ ?_
          clear hK K
          refine lexX_step (fun K hK => ⟨by kernel_rfl, ⟨_, rfl⟩, fun v hv => ?_, fun v hv => ?_⟩)
          · go_simp
            exact mUpon_b
          subst hv
          go_simp
          refine hK _ ?_
          clear hK K
          refine lexX_step (fun K hK => ⟨by kernel_rfl, ⟨_, rfl⟩, fun v hv => ?_, fun v hv => ?_⟩)
          · obtain ⟨_, c0, c1, c2, _⟩ := (unhideR HPr).below hv
            go_simp
            exact mUpon_b
          subst hv
          go_simp
          refine hK _ ?_
          clear hK K
          refine lexX_step (fun K hK => ⟨by kernel_rfl, ⟨_, rfl⟩, fun v hv => ?_, fun v hv => ?_⟩)
          · go_simp
            exact mUpon_b
          subst hv
          go_simp
          refine hK _ ?_
          clear hK K
          refine lexX_step (fun K hK => ⟨by kernel_rfl, ⟨_, rfl⟩, fun v hv => ?_, fun v hv => ?_⟩)
          · go_simp
            exact mUpon_b
          subst hv
          go_simp
          refine hK _ ?_
          clear hK K
          refine lexX_step (fun K hK => ⟨by kernel_rfl, ⟨_, rfl⟩, fun v hv => ?_, fun v hv => ?_⟩)
          · go_simp
            exact mUpon_b
          subst hv
          go_simp
          refine hK _ ?_
          clear hK K
          refine lexX_step (fun K hK => ⟨by kernel_rfl, ⟨_, rfl⟩, fun v hv => ?_, fun v hv => ?_⟩)
          · go_simp
            exact mUpon_b
          subst hv
          go_simp
          refine hK _ ?_
          clear hK K
          refine lexX_step (fun K hK => ⟨by kernel_rfl, ⟨_, rfl⟩, fun v hv => ?_, fun v hv => ?_⟩)
          · obtain ⟨_, c0, c1, c2, _⟩ := (unhideR HPr).below hv
            go_simp
            exact mUpon_b
          subst hv
          go_simp
          refine hK _ ?_
          clear hK K
          refine lexX_step (fun K hK => ⟨by kernel_rfl, ⟨_, rfl⟩, fun v hv => ?_, fun v hv => ?_⟩)
          · go_simp
            exact mUpon_b
          subst hv
          go_simp
          refine hK _ ?_
          clear hK K
          refine lexX_step (fun K hK => ⟨by kernel_rfl, ⟨_, rfl⟩, fun v hv => ?_, fun v hv => ?_⟩)
          · go_simp
            exact mUpon_b
          subst hv
          go_simp
          refine hK _ ?_
          clear hK K
          refine lexX_step (fun K hK => ⟨by kernel_rfl, ⟨_, rfl⟩, fun v hv => ?_, fun v hv => ?_⟩)
          · go_simp
            exact mUpon_b
          subst hv
          go_simp
          refine hK _ ?_
          clear hK K
          refine lexX_step (fun K hK => ⟨by kernel_rfl, ⟨_, rfl⟩, fun v hv => ?_, fun v hv => ?_⟩)
          · go_simp
            exact mUpon_b
          subst hv
          go_simp
          refine hK _ ?_
          clear hK K
          refine lexX_step (fun K hK => ⟨by kernel_rfl, ⟨_, rfl⟩, fun v hv => ?_, fun v hv => ?_⟩)
          · have cc := (hv.cell (p := ⟨bl, ol + ix, none⟩) hbl).trans xc
            go_simp
            exact mUpon_b
          subst hv
          go_simp
          refine hK _ ?_
          clear hK K
          refine lexX_step (fun K hK => ⟨by kernel_rfl, ⟨_, rfl⟩, fun v hv => ?_, fun v hv => ?_⟩)
          · go_simp
            exact mUpon_b
          subst hv
          go_simp
          refine hK _ ?_
          clear hK K
          refine lexX_step (fun K hK => ⟨by kernel_rfl, ⟨_, rfl⟩, fun v hv => ?_, fun v hv => ?_⟩)
          · go_simp
            exact mUpon_b
          subst hv
          go_simp
          refine hK _ ?_
          clear hK K
          refine lexX_step (fun K hK => ⟨by kernel_rfl, ⟨_, rfl⟩, fun v hv => ?_, fun v hv => ?_⟩)
          · go_simp
            exact mUpon_b
          subst hv
          go_simp
          refine hK _ ?_
          clear hK K
          refine lexX_step (fun K hK => ⟨by kernel_rfl, ⟨_, rfl⟩, fun v hv => ?_, fun v hv => ?_⟩)
          · go_simp
            exact mUpon_b
          subst hv
          go_simp
          refine hK _ ?_
          clear hK K
          refine lexX_step (fun K hK => ⟨by kernel_rfl, ⟨_, rfl⟩, fun v hv => ?_, fun v hv => ?_⟩)
          · go_simp
            exact mUpon_b
          subst hv
          go_simp
          refine hK _ ?_
          clear hK K
          refine lexX_step (fun K hK => ⟨by kernel_rfl, ⟨_, rfl⟩, fun v hv => ?_, fun v hv => ?_⟩)
          · go_simp
            exact mUpon_b
          subst hv
          go_simp
          refine hK _ ?_
          clear hK K
          refine lexX_step (fun K hK => ⟨by kernel_rfl, ⟨_, rfl⟩, fun v hv => ?_, fun v hv => ?_⟩)
          · go_simp
            exact mUpon_b
          subst hv
          go_simp
          refine hK _ ?_
          clear hK K
          refine lexX_step (fun K hK => ⟨by kernel_rfl, ⟨_, rfl⟩, fun v hv => ?_, fun v hv => ?_⟩)
          · go_simp
            exact mUpon_b
          subst hv
          go_simp
          refine hK _ ?_
          clear hK K
          refine lexX_step (fun K hK => ⟨by kernel_rfl, ⟨_, rfl⟩, fun v hv => ?_, fun v hv => ?_⟩)
          · go_simp
            exact mUpon_b
          subst hv
          go_simp
          refine hK _ ?_
          clear hK K
          refine lexX_step (fun K hK => ⟨by kernel_rfl, ⟨_, rfl⟩, fun v hv => ?_, fun v hv => ?_⟩)
          · go_simp
            exact mUpon_b
          subst hv
          go_simp
          refine hK _ ?_
          clear hK K
          refine lexX_step (fun K hK => ⟨by kernel_rfl, ⟨_, rfl⟩, fun v hv => ?_, fun v hv => ?_⟩)
          · go_simp
            exact mUpon_b
          subst hv
          go_simp
          refine hK _ ?_
          clear hK K
          refine lexX_step (fun K hK => ⟨by kernel_rfl, ⟨_, rfl⟩, fun v hv => ?_, fun v hv => ?_⟩)
          · have cc := (hv.cell (p := ⟨gb, go + gx, none⟩) hgb).trans xg
            go_simp
            exact mUpon_b
          subst hv
          go_simp
          refine hK _ ?_
          clear hK K
          refine lexX_step (fun K hK => ⟨by kernel_rfl, ⟨_, rfl⟩, fun v hv => ?_, fun v hv => ?_⟩)
          · go_simp
            exact mUpon_b
          subst hv
          go_simp
          refine hK _ ?_
          clear hK K
          refine lexX_made ⟨by kernel_rfl, ⟨_, 0, rfl⟩, oneI_stb _, fun v hv => ?_, ?_⟩
          · go_simp
            exact ⟨below_a v _, ⟨_, rfl⟩, fun q hq => by cases hq; exact alloc_last v _⟩
          rintro _ ⟨u9, rfl⟩ K hK
          go_simp
          refine hK _ ?_
          clear hK K
          refine lexX_end (fun v5 hv => ?_)
          have HO9 := hideR (hv.fact.2 _ rfl)
          have HK5 := hideR hv.low
          clear hv
          have hO5 : v5.ownsRow w1.heap.size 3 1 (.slice al nl cl) nl (G.map (Value.int .i64)) := by
            have := (unhideR HOl).below (unhideR HK5)
            unfold IOwn at this
            rw [unhideR HNl] at this
            exact this
          have hB5 : w1.heap.size ≤ v5.heap.size := Nat.le_trans (unhideR HWl).size (unhideR HK5).size
          refine wpAny_step (i := 29) (by kernel_rfl) rfl (by kernel_rfl) (fun K hK => ?_)
          refine wp_append_own _ _ _ 25 rfl w1.heap.size 3 i0 (.int .i64 0) 1 8 Tryd.underlying25 hi0 hz0 hz1 hz2 rfl (by decide) _ nl _ rfl hO5 ⟨u9, 0, none⟩ 1 1 [.int .i64 (c - gv)] rfl rfl ?q1 ?q2 ?q3 ?q4 ?q5 ?_
          case q1 => exact one_cell (unhideR HO9)
          case q2 => exact int_one
          case q3 => unfold maxLen; omega
          case q4 => omega
          case q5 => exact hB5
          intro v6 w6 hown hgrow _
          have O6 := hideR (own_plus (unhideR HNl) hown)
          obtain ⟨a6, c6, e6⟩ := (unhideR O6).slice
          rw [show (G ++ [c - gv]).length = nl + 1 by rw [List.length_append, unhideR HNl]; rfl] at e6
          subst e6
          have HW6 := hideR ((below_goB2 (unhideR HWl) (unhideR HWl).size (unhideR HK5)).grown hgrow hB5 (fun q hq => own_at2 hO5 q hq))
          clear hown hgrow hO5
          go_simp
          refine hK _ _ ?_
          clear hK K
          refine wpAny_step (i := 30) (by kernel_rfl) rfl (by kernel_rfl) (fun K hK => ?_)
          unfold Oper.wp
          go_simp
          refine hK _ _ ?_
          clear hK K
          refine wpAny_end (by kernel_rfl) ?_
          rw [← unhideR HNx, ← unhideR HIx] at O6
          clear c0 c1 c2
          go_wp2
          exact ⟨⟨x + 1, by omega, by go_num, O6, HW6⟩, by simp [intOf]; omega⟩
        · obtain rfl : x = W := by omega
          rw [← unhideR HYn] at HOl
          go_wp2
          exact ⟨⟨y + 1, by omega, by go_num, HOl, HWl⟩, by simp [intOf]; omega⟩
    · obtain rfl : y = H := by omega
      obtain ⟨a9, c9, e9, hc9⟩ := (unhideR HOl0).came
      subst e9
      rw [← unhideR HOe] at hc9 ⊢
      have HF : HeldR (OvPost ⟨W, y, Lp⟩ t w (.returned (.slice a9 (overV ⟨W, y, Lp⟩ t).length c9)) wr) := hideR ⟨a9, c9, rfl, hc9, below_go (unhideR HW1) (unhideR HWl0)⟩
      clear hc9
      go_wp2
      go_ret
      exact unhideR HF
end Go.Proofs.YtgmaganajfcpbaiDoor
