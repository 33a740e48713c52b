/-
  The document's ground, by contract.
-/
import Derived.Test.YtgmaganajfcpbaiDoorSpKA
import Derived.Test.YtgmaganajfcpbaiDoorFrMed
namespace Go.Proofs.YtgmaganajfcpbaiDoor
open Go Go.RowKit

def GrPost (p : Pic) (tile : Int) (w : World) (e : Ending) (w' : World) : Prop := ∃ (X : List Int) (ad : Option Addr) (cap : Nat), e = .returned (.tuple #[.slice ad X.length cap, .int .i64 (groundE p tile)]) ∧ (groundE p tile = 0 → X = groundV p tile.toNat) ∧ (groundE p tile ≠ 0 → X = []) ∧ ICame w' ad X ∧ Below w.heap.size w w'
theorem gr_none {p : Pic} {tile E : Int} {w w' : World} (h : groundE p tile = E) (h0 : E ≠ 0) (k : Below w.heap.size w w') : GrPost p tile w (.returned (.tuple #[.slice none 0 0, .int .i64 E])) w' :=
  ⟨[], none, 0, by rw [h]; rfl, fun q => absurd (h.symm.trans q) h0, fun _ => rfl, ⟨fun k hk => absurd hk (Nat.not_lt_zero k)⟩, k⟩
set_option maxRecDepth 100000 in
set_option maxHeartbeats 12800000 in
theorem groundOf_any {w : World} {b o cap : Nat} {ad : Option Addr} {p : Pic} (h : PicAt w b o ad cap p) (hl : p.L.length * 8 ≤ 140737488355328) (tile : Int) :
    Calls Tryd.prog 15 #[.pointer (some ⟨b, o, none⟩), .int .i64 tile] w (GrPost p tile w) := by
  obtain ⟨i0, hi0, hz0, hz1, hz2⟩ := info_parts infoI
  have hpe := pictureError_any h hl
  have HP := hideR h
  have hrg := picE_range p
  clear h
  by_cases e0 : picE p = 0
  case neg =>
    have hE : groundE p tile = picE p := by unfold groundE; rw [if_pos e0]
    have HF : HeldR (∀ u, Below w.heap.size w u → GrPost p tile w (.returned (.tuple #[.slice none 0 0, .int .i64 (picE p)])) u) := hideR (fun u k => gr_none hE e0 k)
    have hp0 : 0 < picE p := by omega
    generalize picE p = E at *
    go_enter Tryd.func15, Tryd.ntmps15
    go_wp2_with fail
    refine hpe.mono ?_
    rintro e w1 ⟨rfl, k1⟩
    have HF2 := hideR (unhideR HF w1 k1)
    clear hpe k1 hE
    go_wp2
    go_ret2
    exact unhideR HF2
  by_cases e1 : tile < 1 ∨ 256 < tile
  · have HF : HeldR (∀ u, Below w.heap.size w u → GrPost p tile w (.returned (.tuple #[.slice none 0 0, .int .i64 5])) u) := hideR (fun u k => gr_none (by unfold groundE; rw [if_neg (by simpa using e0), if_pos e1]) (by decide) k)
    rw [e0] at hpe
    clear hrg
    by_cases e2 : tile < 1
    · have t1 : decide (tile < 1) = true := decide_eq_true e2
      go_enter Tryd.func15, Tryd.ntmps15
      go_wp2_with fail
      refine hpe.mono ?_
      rintro e w1 ⟨rfl, k1⟩
      have HF2 := hideR (unhideR HF w1 k1)
      clear hpe k1
      go_wp2
      go_ret2
      exact unhideR HF2
    · have t1 : decide (tile < 1) = false := decide_eq_false e2
      have t2 : decide (256 < tile) = true := decide_eq_true (by omega)
      go_enter Tryd.func15, Tryd.ntmps15
      go_wp2_with fail
      refine hpe.mono ?_
      rintro e w1 ⟨rfl, k1⟩
      have HF2 := hideR (unhideR HF w1 k1)
      clear hpe k1
      go_wp2
      go_ret2
      exact unhideR HF2
  obtain ⟨t, rfl⟩ : ∃ t : Nat, tile = (t : Nat) := ⟨tile.toNat, by omega⟩
  have hE0 : groundE p (t : Nat) = 0 := by unfold groundE; rw [if_neg (by simpa using e0), if_neg e1]
  have ht1 : 1 ≤ t := by omega
  have ht2 : t ≤ 256 := by omega
  have hok := pic_ok e0
  have w1' := hok.w1
  have w2' := hok.w2
  have h1' := hok.h1
  have h2' := hok.h2
  have hpx := hok.len
  obtain ⟨Wi, Hi, Lp⟩ := p
  simp only at *
  obtain ⟨W, rfl⟩ : ∃ W : Nat, Wi = (W : Nat) := ⟨Wi.toNat, by omega⟩
  obtain ⟨H, rfl⟩ : ∃ H : Nat, Hi = (H : Nat) := ⟨Hi.toNat, by omega⟩
  have hLn : Lp.length = H * W := by
    rw [← Int.natCast_mul] at hpx
    have := Int.ofNat.inj hpx
    rw [this, Nat.mul_comm]
  have HLn := hideR hLn
  have hfew : Lp.length ≤ 65536 := hok.few
  have HGood : HeldR (∀ u (X : List Int) (a9 : Option Addr) (c9 : Nat), X = groundV ⟨W, H, Lp⟩ t → ICame u a9 X → Below w.heap.size w u → GrPost ⟨W, H, Lp⟩ (t : Nat) w (.returned (.tuple #[.slice a9 X.length c9, .int .i64 0])) u) := hideR (fun u X a9 c9 hx hc k => ⟨X, a9, c9, by rw [hE0], fun _ => by rw [hx]; rfl, fun q => absurd hE0 q, hc, k⟩)
  obtain ⟨n1, hn1⟩ : ∃ n1, cdiv W t = n1 := ⟨_, rfl⟩
  obtain ⟨m1, hm1⟩ : ∃ m1, cdiv H t = m1 := ⟨_, rfl⟩
  have HCx : HeldR (∀ a, a < n1 ↔ a * t < W) := hideR (fun a => by rw [← hn1]; exact cdiv_lt ht1)
  have HCy : HeldR (∀ a, a < m1 ↔ a * t < H) := hideR (fun a => by rw [← hm1]; exact cdiv_lt ht1)
  have HGd : HeldR (gRows ⟨W, H, Lp⟩ t n1 m1 = groundV ⟨W, H, Lp⟩ t) := hideR (by rw [← hn1, ← hm1]; rfl)
  have hn256 : n1 ≤ 256 := by
    refine Decidable.byContradiction (fun q => ?_)
    have := (unhideR HCx 256).1 (by omega)
    have h9 := Nat.mul_le_mul_left 256 ht1
    omega
  have hm256 : m1 ≤ 256 := by
    refine Decidable.byContradiction (fun q => ?_)
    have := (unhideR HCy 256).1 (by omega)
    have h9 := Nat.mul_le_mul_left 256 ht1
    omega
  rw [e0] at hpe
  have q1 : decide ((t : Int) < 1) = false := decide_eq_false (by omega)
  have q2 : decide ((256 : Int) < (t : Nat)) = false := decide_eq_false (by omega)
  clear hrg e1 hpx hLn hok e0 hE0 hn1 hm1
  go_enter Tryd.func15, Tryd.ntmps15
  go_wp2_with fail
  refine hpe.mono ?_
  rintro e w1 ⟨rfl, k1⟩
  have HW1 := hideR k1
  clear hpe k1
  go_wp2
  go_loopw [7, 8] (fun ov yv wl => ∃ a y : Nat, HeldR (y = a * t) ∧ a ≤ m1 ∧ y ≤ 600 ∧ yv = .int .i64 (y : Nat) ∧ HeldR (IOwn wl w.heap.size ov (gRows ⟨W, H, Lp⟩ t n1 a)) ∧ HeldR (Below w.heap.size w wl)) (fun _ yv _ => 1000 - (intOf yv).toNat)
  case atStart => exact ⟨0, 0, hideR (by omega), by omega, by omega, rfl, hideR (inil _ _), HW1⟩
  case round =>
    obtain ⟨a, y, HY, ha, hy6, rfl, HOo, HW⟩ := hrel
    obtain ⟨_, c0, c1, c2, _⟩ := (unhideR HP).below (unhideR HW)
    by_cases hyH : y < H
    · have ha2 : a < m1 := (unhideR HCy a).2 (by rw [← unhideR HY]; exact hyH)
      have HG0 : HeldR (gRows ⟨W, H, Lp⟩ t n1 a ++ gRow ⟨W, H, Lp⟩ t a 0 = gRows ⟨W, H, Lp⟩ t n1 a) := hideR (by rw [show gRow ⟨W, H, Lp⟩ t a 0 = [] from rfl, List.append_nil])
      have HGn : HeldR (gRows ⟨W, H, Lp⟩ t n1 (a + 1) = gRows ⟨W, H, Lp⟩ t n1 a ++ gRow ⟨W, H, Lp⟩ t a n1) := hideR (gRows_next _ _ _ _)
      have wy : IntKind.i64.wrap ((y : Int) + (t : Int)) = (y : Int) + (t : Int) := iwrap (by omega) (by omega)
      go_wp2
      go_loopw [7, 9] (fun ov xv wl => ∃ bx x : Nat, HeldR (x = bx * t) ∧ bx ≤ n1 ∧ x ≤ 600 ∧ xv = .int .i64 (x : Nat) ∧ HeldR (IOwn wl w.heap.size ov (gRows ⟨W, H, Lp⟩ t n1 a ++ gRow ⟨W, H, Lp⟩ t a bx)) ∧ HeldR (Below w.heap.size w wl)) (fun _ xv _ => 1000 - (intOf xv).toNat)
      case atStart => exact ⟨0, 0, hideR (by omega), by omega, by omega, rfl, by rw [unhideR HG0]; exact HOo, HW⟩
      case round =>
        clear HOo HW c0 c1 c2
        obtain ⟨bx, x, HX, hbx, hx6, rfl, HOo, HW⟩ := hrel
        generalize wr = W0 at *
        obtain ⟨_, c0, c1, c2, _⟩ := (unhideR HP).below (unhideR HW)
        by_cases hxW : x < W
        · have hb2 : bx < n1 := (unhideR HCx bx).2 (by rw [← unhideR HX]; exact hxW)
          obtain ⟨n, hn⟩ : ∃ n, min t (W - x) = n := ⟨_, rfl⟩
          obtain ⟨M, hM⟩ : ∃ M, min t (H - y) = M := ⟨_, rfl⟩
          have HTl : HeldR (tileL ⟨W, H, Lp⟩ t (a * t) (bx * t) = boxL ⟨W, H, Lp⟩ y x n M) := hideR (by
            unfold tileL
            rw [← unhideR HY, ← unhideR HX, ← hn, ← hM]
            rfl)
          have wx : IntKind.i64.wrap ((x : Int) + (t : Int)) = (x : Int) + (t : Int) := iwrap (by omega) (by omega)
          have hnb : n ≤ 256 := by omega
          have hMb : M ≤ 256 := by omega
          go_wp2
          go_loopw [10, 11] (fun lv vv wl => ∃ m v : Nat, HeldR (v = y + m) ∧ v ≤ 1000 ∧ m ≤ M ∧ vv = .int .i64 (v : Nat) ∧ HeldR (IOwn wl W0.heap.size lv (boxL ⟨W, H, Lp⟩ y x n m)) ∧ HeldR (Below W0.heap.size W0 wl)) (fun _ vv _ => 2000 - (intOf vv).toNat)
          case atStart => exact ⟨0, y, hideR (by omega), by omega, by omega, rfl, hideR (inil _ _), hideR (Below.refl _ _)⟩
          case round =>
            obtain ⟨m, v, HV, hv1, hm, rfl, HOl0, HWl0⟩ := hrel
            obtain ⟨_, d0, d1, d2, _⟩ := (unhideR HP).below (below_go (unhideR HW) (unhideR HWl0))
            have hvm := unhideR HV
            have hvb : v ≤ H ∨ H < v := by omega
            by_cases hmM : m < M
            · have tv1 : decide ((v : Int) < (y : Int) + (t : Int)) = true := decide_eq_true (by omega)
              have tv1n : decide (v < y + t) = true := decide_eq_true (by omega)
              have tv2 : decide ((v : Int) < (H : Int)) = true := decide_eq_true (by omega)
              have tv2n : decide (v < H) = true := decide_eq_true (by omega)
              have HS0 : HeldR (boxL ⟨W, H, Lp⟩ y x n m ++ segL ⟨W, H, Lp⟩ (y + m) x 0 = boxL ⟨W, H, Lp⟩ y x n m) := hideR (by rw [show segL ⟨W, H, Lp⟩ (y + m) x 0 = [] from rfl, List.append_nil])
              have HBn : HeldR (boxL ⟨W, H, Lp⟩ y x n (m + 1) = boxL ⟨W, H, Lp⟩ y x n m ++ segL ⟨W, H, Lp⟩ (y + m) x n) := hideR (box_next _ _ _ _ _)
              have hvH : v < H := by omega
              have hVW : v * W + W ≤ Lp.length := by
                rw [unhideR HLn]
                have h9 := Nat.mul_le_mul_right W (show v + 1 ≤ H by omega)
                rw [Nat.succ_mul] at h9
                exact h9
              clear hvm hvb
              go_wp2
              go_loopw [10, 12] (fun lv uv wl => ∃ d u : Nat, HeldR (u = x + d) ∧ u ≤ 1000 ∧ d ≤ n ∧ uv = .int .i64 (u : Nat) ∧ HeldR (IOwn wl W0.heap.size lv (boxL ⟨W, H, Lp⟩ y x n m ++ segL ⟨W, H, Lp⟩ (y + m) x d)) ∧ HeldR (Below W0.heap.size W0 wl)) (fun _ uv _ => 2000 - (intOf uv).toNat)
              case atStart => exact ⟨0, x, hideR (by omega), by omega, by omega, rfl, by rw [unhideR HS0]; exact HOl0, HWl0⟩
              case round =>
                clear HOl0 HWl0 d0 d1 d2
                obtain ⟨d, u, HU, hu1, hd, rfl, HOl, HWl⟩ := hrel
                have hud := unhideR HU
                have HPr := hideR ((unhideR HP).below (below_go (unhideR HW) (unhideR HWl)))
                obtain ⟨_, f0, f1, f2, _⟩ := unhideR HPr
                by_cases hdn : d < n
                · have tu1 : decide ((u : Int) < (x : Int) + (t : Int)) = true := decide_eq_true (by omega)
                  have tu1n : decide (u < x + t) = true := decide_eq_true (by omega)
                  have tu2 : decide ((u : Int) < (W : Int)) = true := decide_eq_true (by omega)
                  have tu2n : decide (u < W) = true := decide_eq_true (by omega)
                  obtain ⟨VW, hvw⟩ : ∃ VW, v * W = VW := ⟨_, rfl⟩
                  rw [hvw] at hVW
                  obtain ⟨ix, hix⟩ : ∃ ix, VW + u = ix := ⟨_, rfl⟩
                  obtain ⟨bl, ol, e, hbl, xc⟩ := (unhideR HPr).row.at_ ix (by show ix < Lp.length; omega)
                  subst e
                  have hwv : IntKind.i64.wrap ((v : Int) * (W : Int)) = (VW : Nat) := by
                    rw [← Int.natCast_mul, hvw]
                    exact iwrap (by omega) (by omega)
                  have hwi : IntKind.i64.wrap ((VW : Int) + (u : Int)) = (ix : Nat) := by rw [iwrap (by omega) (by omega)]; omega
                  have j1 : (ix : Int) < (Lp.length : Int) := by omega
                  have HSn : HeldR (boxL ⟨W, H, Lp⟩ y x n m ++ segL ⟨W, H, Lp⟩ (y + m) x (d + 1) = boxL ⟨W, H, Lp⟩ y x n m ++ segL ⟨W, H, Lp⟩ (y + m) x d ++ [Lp.getD ix 0]) := hideR (by
                    rw [seg_next, List.append_assoc]
                    have e9 : (y + m) * W + (x + d) = ix := by rw [← unhideR HV, hvw]; omega
                    show _ ++ (_ ++ [Lp.getD ((y + m) * W + (x + d)) 0]) = _
                    rw [e9])
                  have xc' : wr.cell? ⟨bl, ol + ix, none⟩ = some (.int .i64 (Lp.getD ix 0)) := xc
                  clear xc
                  have xc := xc'
                  clear xc'
                  generalize Lp.getD ix 0 = c at *
                  obtain ⟨nl, hnl⟩ : ∃ nl, (boxL ⟨W, H, Lp⟩ y x n m ++ segL ⟨W, H, Lp⟩ (y + m) x d).length = nl := ⟨_, rfl⟩
                  have hnl2 : nl ≤ 100000 := by
                    rw [← hnl, List.length_append, box_len, seg_len]
                    have := Nat.mul_le_mul (show m ≤ 256 by omega) hnb
                    omega
                  obtain ⟨al, cl, e⟩ := (unhideR HOl).slice
                  rw [hnl] at e
                  subst e
                  have HNl := hideR hnl
                  have wu : IntKind.i64.wrap ((u : Int) + 1) = (u : Int) + 1 := iwrap (by omega) (by omega)
                  clear hnl hvw hix hud
                  generalize boxL ⟨W, H, Lp⟩ y x n m ++ segL ⟨W, H, Lp⟩ (y + m) x d = G at *
                  go_wp2_with fail
                  refine wp_region_made 1 #[true, true, true, true, true, true, true, true, true, true, true, true, true, true, true, true, false, false] [.lets (· = .slice al nl cl),
                    .lets (· = .pointer (some ⟨b, o, none⟩)),
                    .lets (· = .pointer (some ⟨b, o, none⟩)),
                    .lets (· = .pointer (some ⟨b, o + 2, none⟩)),
                    .lets (· = .slice (some ⟨bl, ol, none⟩) Lp.length cap),
                    .lets (· = .int .i64 (v : Nat)),
                    .lets (· = .pointer (some ⟨b, o, none⟩)),
                    .lets (· = .pointer (some ⟨b, o, none⟩)),
                    .lets (· = .pointer (some ⟨b, o, none⟩)),
                    .lets (· = .int .i64 (W : Nat)),
                    .lets (· = .int .i64 (VW : Nat)),
                    .lets (· = .int .i64 (u : Nat)),
                    .lets (· = .int .i64 (ix : Nat)),
                    .lets (· = .pointer (some ⟨bl, ol + ix, none⟩)),
                    .lets (· = .int .i64 c),
                    .made SlOne (OneI c)] [15] [] (by kernel_rfl) (by kernel_rfl) rfl ?kinds (by kernel_rfl) (by kernel_rfl) (by kernel_rfl) ?_
                  case kinds =>
                    constructor
                    · intro i h
                      rcases i with _ | _ | _ | _ | _ | _ | _ | _ | _ | _ | _ | _ | _ | _ | _ | _ | i <;> simp [Kx.isMade] at h ⊢
                    · intro i h
                      rcases i with _ | _ | _ | _ | _ | _ | _ | _ | _ | _ | _ | _ | _ | _ | _ | _ | i <;> simp [Kx.isUse] at h
                  refine lexX_step (fun K hK => ⟨by kernel_rfl, ⟨_, rfl⟩, fun v hv => ?_, fun v hv => ?_⟩)
                  · go_simp
                    exact mUpon_b
                  subst hv
                  go_simp
                  refine hK _ ?_
                  clear hK K
                  refine lexX_step (fun K hK => ⟨by kernel_rfl, ⟨_, rfl⟩, fun v hv => ?_, fun v hv => ?_⟩)
                  · go_simp
                    exact mUpon_b
                  subst hv
                  go_simp
                  refine hK _ ?_
                  clear hK K
                  refine lexX_step (fun K hK => ⟨by kernel_rfl, ⟨_, rfl⟩, fun v hv => ?_, fun v hv => ?_⟩)
                  · go_simp
                    exact mUpon_b
                  subst hv
                  go_simp
                  refine hK _ ?_
                  clear hK K
                  refine lexX_step (fun K hK => ⟨by kernel_rfl, ⟨_, rfl⟩, fun v hv => ?_, fun v hv => ?_⟩)
                  · go_simp
                    exact mUpon_b
                  subst hv
                  go_simp
                  refine hK _ ?_
                  clear hK K
                  refine lexX_step (fun K hK => ⟨by kernel_rfl, ⟨_, rfl⟩, fun v hv => ?_, fun v hv => ?_⟩)
                  · obtain ⟨_, c0, c1, c2, _⟩ := (unhideR HPr).below hv
                    go_simp
                    exact mUpon_b
                  subst hv
                  go_simp
                  refine hK _ ?_
                  clear hK K
                  refine lexX_step (fun K hK => ⟨by kernel_rfl, ⟨_, rfl⟩, fun v hv => ?_, fun v hv => ?_⟩)
                  · go_simp
                    exact mUpon_b
                  subst hv
                  go_simp
                  refine hK _ ?_
                  clear hK K
                  refine lexX_step (fun K hK => ⟨by kernel_rfl, ⟨_, rfl⟩, fun v hv => ?_, fun v hv => ?_⟩)
                  · go_simp
                    exact mUpon_b
                  subst hv
                  go_simp
                  refine hK _ ?_
                  clear hK K
                  refine lexX_step (fun K hK => ⟨by kernel_rfl, ⟨_, rfl⟩, fun v hv => ?_, fun v hv => ?_⟩)
                  · go_simp
                    exact mUpon_b
                  subst hv
                  go_simp
                  refine hK _ ?_
                  clear hK K
                  refine lexX_step (fun K hK => ⟨by kernel_rfl, ⟨_, rfl⟩, fun v hv => ?_, fun v hv => ?_⟩)
                  · go_simp
                    exact mUpon_b
                  subst hv
                  go_simp
                  refine hK _ ?_
                  clear hK K
                  refine lexX_step (fun K hK => ⟨by kernel_rfl, ⟨_, rfl⟩, fun v hv => ?_, fun v hv => ?_⟩)
                  · obtain ⟨_, c0, c1, c2, _⟩ := (unhideR HPr).below hv
                    go_simp
                    exact mUpon_b
                  subst hv
                  go_simp
                  refine hK _ ?_
                  clear hK K
                  refine lexX_step (fun K hK => ⟨by kernel_rfl, ⟨_, rfl⟩, fun v hv => ?_, fun v hv => ?_⟩)
                  · go_simp
                    exact mUpon_b
                  subst hv
                  go_simp
                  refine hK _ ?_
                  clear hK K
                  refine lexX_step (fun K hK => ⟨by kernel_rfl, ⟨_, rfl⟩, fun v hv => ?_, fun v hv => ?_⟩)
                  · go_simp
                    exact mUpon_b
                  subst hv
                  go_simp
                  refine hK _ ?_
                  clear hK K
                  refine lexX_step (fun K hK => ⟨by kernel_rfl, ⟨_, rfl⟩, fun v hv => ?_, fun v hv => ?_⟩)
                  · go_simp
                    exact mUpon_b
                  subst hv
                  go_simp
                  refine hK _ ?_
                  clear hK K
                  refine lexX_step (fun K hK => ⟨by kernel_rfl, ⟨_, rfl⟩, fun v hv => ?_, fun v hv => ?_⟩)
                  · go_simp
                    exact mUpon_b
                  subst hv
                  go_simp
                  refine hK _ ?_
                  clear hK K
                  refine lexX_step (fun K hK => ⟨by kernel_rfl, ⟨_, rfl⟩, fun v hv => ?_, fun v hv => ?_⟩)
                  · have cc := (hv.cell (p := ⟨bl, ol + ix, none⟩) hbl).trans xc
                    go_simp
                    exact mUpon_b
                  subst hv
                  go_simp
                  refine hK _ ?_
                  clear hK K
                  refine lexX_made ⟨by kernel_rfl, ⟨_, 0, rfl⟩, oneI_stb _, fun v hv => ?_, ?_⟩
                  · go_simp
                    exact ⟨below_a v _, ⟨_, rfl⟩, fun q hq => by cases hq; exact alloc_last v _⟩
                  rintro _ ⟨u9, rfl⟩ K hK
                  go_simp
                  refine hK _ ?_
                  clear hK K
                  refine lexX_end (fun v5 hv => ?_)
                  have HO9 := hideR (hv.fact.2 _ rfl)
                  have HK5 := hideR hv.low
                  clear hv
                  have hO5 : v5.ownsRow W0.heap.size 3 1 (.slice al nl cl) nl (G.map (Value.int .i64)) := by
                    have := (unhideR HOl).below (unhideR HK5)
                    unfold IOwn at this
                    rw [unhideR HNl] at this
                    exact this
                  have hB5 : W0.heap.size ≤ v5.heap.size := Nat.le_trans (unhideR HWl).size (unhideR HK5).size
                  refine wpAny_step (i := 16) (by kernel_rfl) rfl (by kernel_rfl) (fun K hK => ?_)
                  refine wp_append_own _ _ _ 25 rfl W0.heap.size 3 i0 (.int .i64 0) 1 8 Tryd.underlying25 hi0 hz0 hz1 hz2 rfl (by decide) _ nl _ rfl hO5 ⟨u9, 0, none⟩ 1 1 [.int .i64 c] rfl rfl ?q1 ?q2 ?q3 ?q4 ?q5 ?_
                  case q1 => exact one_cell (unhideR HO9)
                  case q2 => exact int_one
                  case q3 => unfold maxLen; omega
                  case q4 => omega
                  case q5 => exact hB5
                  intro v6 w6 hown hgrow _
                  have O6 := hideR (own_plus (unhideR HNl) hown)
                  obtain ⟨a6, c6, e6⟩ := (unhideR O6).slice
                  rw [show (G ++ [c]).length = nl + 1 by rw [List.length_append, unhideR HNl]; rfl] at e6
                  subst e6
                  have HW6 := hideR ((below_goB2 (unhideR HWl) (unhideR HWl).size (unhideR HK5)).grown hgrow hB5 (fun q hq => own_at2 hO5 q hq))
                  clear hown hgrow hO5
                  go_simp
                  refine hK _ _ ?_
                  clear hK K
                  refine wpAny_step (i := 17) (by kernel_rfl) rfl (by kernel_rfl) (fun K hK => ?_)
                  unfold Oper.wp
                  go_simp
                  refine hK _ _ ?_
                  clear hK K
                  refine wpAny_end (by kernel_rfl) ?_
                  rw [← unhideR HSn] at O6
                  clear f0 f1 f2
                  go_wp2
                  exact ⟨⟨d + 1, u + 1, hideR (by have := unhideR HU; omega), by have := unhideR HU; omega, by omega, by go_num, O6, HW6⟩, by simp [intOf]; omega⟩
                · obtain rfl : d = n := by omega
                  have wv : IntKind.i64.wrap ((v : Int) + 1) = (v : Int) + 1 := iwrap (by omega) (by omega)
                  rw [← unhideR HBn] at HOl
                  have hvm := unhideR HV
                  have hv9 : v + 1 = y + (m + 1) := by omega
                  have HV9 := hideR hv9
                  by_cases hnt : d = t
                  · have tu1 : decide ((u : Int) < (x : Int) + (t : Int)) = false := decide_eq_false (by omega)
                    have tu1n : decide (u < x + t) = false := decide_eq_false (by omega)
                    clear hud hvm hv9 hnt
                    go_wp2
                    exact ⟨⟨m + 1, v + 1, HV9, by have := unhideR HV; omega, by omega, by go_num, HOl, HWl⟩, by simp [intOf]; omega⟩
                  · have tu1 : decide ((u : Int) < (x : Int) + (t : Int)) = true := decide_eq_true (by omega)
                    have tu1n : decide (u < x + t) = true := decide_eq_true (by omega)
                    have tu2 : decide ((u : Int) < (W : Int)) = false := decide_eq_false (by omega)
                    have tu2n : decide (u < W) = false := decide_eq_false (by omega)
                    clear hud hvm hv9 hnt
                    go_wp2
                    exact ⟨⟨m + 1, v + 1, HV9, by have := unhideR HV; omega, by omega, by go_num, HOl, HWl⟩, by simp [intOf]; omega⟩
            · obtain rfl : m = M := by omega
              obtain ⟨al, cl, e, hcl⟩ := (unhideR HOl0).came
              subst e
              have hpos : 0 < (boxL ⟨W, H, Lp⟩ y x n m).length := by rw [box_len]; exact Nat.mul_pos (by omega) (by omega)
              have hsz : (boxL ⟨W, H, Lp⟩ y x n m).length ≤ 65536 := by
                rw [box_len]
                exact Nat.mul_le_mul hMb hnb
              have hmd := medianOf_any (cap := cl) hcl hpos hsz
              rw [← unhideR HTl] at hmd ⊢
              have HOo2 := hideR ((unhideR HOo).below (unhideR HWl0))
              have HW2 := hideR (below_go (unhideR HW) (unhideR HWl0))
              obtain ⟨no, hno⟩ : ∃ no, (gRows ⟨W, H, Lp⟩ t n1 a ++ gRow ⟨W, H, Lp⟩ t a bx).length = no := ⟨_, rfl⟩
              have hno2 : no ≤ 100000 := by
                rw [← hno, List.length_append, gRows_len, gRow_len]
                have := Nat.mul_le_mul (show a ≤ 256 by omega) hn256
                omega
              obtain ⟨ao, co, e⟩ := (unhideR HOo2).slice
              rw [hno] at e
              subst e
              have HNo := hideR hno
              have HGx : HeldR (gRows ⟨W, H, Lp⟩ t n1 a ++ gRow ⟨W, H, Lp⟩ t a (bx + 1) = gRows ⟨W, H, Lp⟩ t n1 a ++ gRow ⟨W, H, Lp⟩ t a bx ++ [medV (tileL ⟨W, H, Lp⟩ t (a * t) (bx * t))]) := hideR (by rw [gRow_next, List.append_assoc])
              generalize medV (tileL ⟨W, H, Lp⟩ t (a * t) (bx * t)) = md at *
              generalize (tileL ⟨W, H, Lp⟩ t (a * t) (bx * t)).length = tl at *
              have HX2 : HeldR (x + t = (bx + 1) * t) := hideR (by rw [Nat.succ_mul, ← unhideR HX])
              clear hno hcl HOl0 HOo
              generalize gRows ⟨W, H, Lp⟩ t n1 a ++ gRow ⟨W, H, Lp⟩ t a bx = G at *
              by_cases hMt : m = t
              · have tv1 : decide ((v : Int) < (y : Int) + (t : Int)) = false := decide_eq_false (by omega)
                have tv1n : decide (v < y + t) = false := decide_eq_false (by omega)
                clear hvm hvb hMt
                go_wp2_with fail
                refine hmd.mono ?_
                rintro e wM ⟨rfl, kM⟩
                have HO3 : HeldR (wM.ownsRow w.heap.size 3 1 (.slice ao no co) no (G.map (Value.int .i64))) := by
                  have := (unhideR HOo2).below kM
                  unfold IOwn at this
                  rw [unhideR HNo] at this
                  exact this
                have HW3 := hideR (below_go (unhideR HW2) kM)
                have lsz := (unhideR HW3).size
                clear hmd kM
                go_wp2_with (first
                  | (at_builtin; refine wpList_append_own _ rfl _ _ 25 rfl w.heap.size 3 i0 (.int .i64 0) 1 8 Tryd.underlying25 hi0 hz0 hz1 hz2 rfl (by decide) _ no _ rfl (own_below2 (unhideR HO3) (below_a _ _)) ⟨wM.heap.size, 0, none⟩ 1 1 [.int .i64 md] rfl rfl ?c1 ?c2 ?c3 ?c4 ?c5 ?_))
                case c1 => exact one_cell (alloc_last wM _)
                case c2 => exact int_one
                case c3 => unfold maxLen; omega
                case c4 => omega
                case c5 => simp; omega
                intro v7 w7 hown7 hgrow7 _
                have B7 := hideR (((unhideR HW3).alloc lsz _).grown hgrow7 (by simp; omega) (fun g h => own_at2 (unhideR HO3) g h))
                have O7 := hideR (own_plus (unhideR HNo) hown7)
                rw [← unhideR HGx] at O7
                clear hown7 hgrow7 lsz
                go_wp2
                exact ⟨⟨bx + 1, x + t, HX2, by omega, by omega, by go_num, O7, B7⟩, by simp [intOf]; omega⟩
              · have tv1 : decide ((v : Int) < (y : Int) + (t : Int)) = true := decide_eq_true (by omega)
                have tv1n : decide (v < y + t) = true := decide_eq_true (by omega)
                have tv2 : decide ((v : Int) < (H : Int)) = false := decide_eq_false (by omega)
                have tv2n : decide (v < H) = false := decide_eq_false (by omega)
                clear hvm hvb hMt
                go_wp2_with fail
                refine hmd.mono ?_
                rintro e wM ⟨rfl, kM⟩
                have HO3 : HeldR (wM.ownsRow w.heap.size 3 1 (.slice ao no co) no (G.map (Value.int .i64))) := by
                  have := (unhideR HOo2).below kM
                  unfold IOwn at this
                  rw [unhideR HNo] at this
                  exact this
                have HW3 := hideR (below_go (unhideR HW2) kM)
                have lsz := (unhideR HW3).size
                clear hmd kM
                go_wp2_with (first
                  | (at_builtin; refine wpList_append_own _ rfl _ _ 25 rfl w.heap.size 3 i0 (.int .i64 0) 1 8 Tryd.underlying25 hi0 hz0 hz1 hz2 rfl (by decide) _ no _ rfl (own_below2 (unhideR HO3) (below_a _ _)) ⟨wM.heap.size, 0, none⟩ 1 1 [.int .i64 md] rfl rfl ?c1 ?c2 ?c3 ?c4 ?c5 ?_))
                case c1 => exact one_cell (alloc_last wM _)
                case c2 => exact int_one
                case c3 => unfold maxLen; omega
                case c4 => omega
                case c5 => simp; omega
                intro v7 w7 hown7 hgrow7 _
                have B7 := hideR (((unhideR HW3).alloc lsz _).grown hgrow7 (by simp; omega) (fun g h => own_at2 (unhideR HO3) g h))
                have O7 := hideR (own_plus (unhideR HNo) hown7)
                rw [← unhideR HGx] at O7
                clear hown7 hgrow7 lsz
                go_wp2
                exact ⟨⟨bx + 1, x + t, HX2, by omega, by omega, by go_num, O7, B7⟩, by simp [intOf]; omega⟩
        · have hb2 : bx = n1 := by
            have := (unhideR HCx bx)
            rw [← unhideR HX] at this
            omega
          subst hb2
          rw [← unhideR HGn] at HOo
          have HY2 : HeldR (y + t = (a + 1) * t) := hideR (by rw [Nat.succ_mul, ← unhideR HY])
          go_wp2
          exact ⟨⟨a + 1, y + t, HY2, by omega, by omega, by go_num, HOo, HW⟩, by simp [intOf]; omega⟩
    · have ha2 : a = m1 := by
        have := (unhideR HCy a)
        rw [← unhideR HY] at this
        omega
      subst ha2
      obtain ⟨a9, c9, e9, hc9⟩ := (unhideR HOo).came
      subst e9
      have HF := hideR (unhideR HGood wr _ a9 c9 (unhideR HGd) hc9 (unhideR HW))
      clear hc9 HGood
      go_wp2
      go_ret2
      exact unhideR HF
end Go.Proofs.YtgmaganajfcpbaiDoor
