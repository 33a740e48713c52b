/-
  How many tiles there are: the program's, by contract. The program's tiles, by contract.
-/
import Derived.Test.YtmgnobeaacjdjajGreatDoorDT0a
import Derived.Test.YtmgnobeaacjdjajGreatDoorShelf
import Derived.Test.YtmgnobeaacjdjajGreatDoorDQA
namespace Go.Proofs.YtmgnobeaacjdjajGreatDoor
open Go Go.RowKit Go.Sort

set_option maxRecDepth 100000 in
theorem tilesIn_any (n t : Nat) (ht : 1 ≤ t) (h1 : t ≤ 100000) (h2 : n ≤ 100000) (w : World) : Calls Tryz.prog 75 #[.int .i64 (n : Nat), .int .i64 (t : Nat)] w fun e w' => e = .returned (.int .i64 (cdiv n t : Nat)) ∧ w' = w := by
  have w1 : IntKind.i64.wrap ((n : Int) + (t : Int)) = (n : Int) + (t : Int) := iwrap (by omega) (by omega)
  have w2 : IntKind.i64.wrap ((n : Int) + (t : Int) - 1) = ((n + t - 1 : Nat) : Int) := by rw [show (n : Int) + (t : Int) - 1 = ((n + t - 1 : Nat) : Int) by omega]; exact iwrap (by omega) (by omega)
  have hd1 : ((n + t - 1 : Nat) : Int) / (t : Int) = ((cdiv n t : Nat) : Int) := (Int.natCast_ediv _ t).symm
  have hd2 : ((n + t - 1 : Nat) : Int).tdiv (t : Int) = ((cdiv n t : Nat) : Int) := (Int.tdiv_eq_ediv_of_nonneg (Int.natCast_nonneg _)).trans hd1
  have hb : cdiv n t ≤ n + t - 1 := Nat.div_le_self _ _
  have ht0 : (t : Int) ≠ 0 := by omega
  have ht0' : t ≠ 0 := by omega
  generalize cdiv n t = c at *
  have wc : IntKind.i64.wrap (c : Int) = (c : Int) := iwrap (by omega) (by omega)
  generalize n + t - 1 = s at *
  go_enter Tryz.func75, Tryz.ntmps75
  go_wp2
  go_ret
  exact ⟨rfl, rfl⟩
end Go.Proofs.YtmgnobeaacjdjajGreatDoor
namespace Go.Proofs.YtmgnobeaacjdjajGreatDoor
open Go Go.RowKit Go.Sort

set_option maxRecDepth 100000 in
theorem slice_part {u : World} {b o n c l h : Nat} (h1 : l ≤ h) (h2 : h ≤ c) (h3 : l < c) : (Instr.slice 29 (.slice (some ⟨b, o, none⟩) n c) (some (.int .i64 (l : Nat))) (some (.int .i64 (h : Nat))) none).run Tryz.prog u = .ok (.slice (some ⟨b, o + l, none⟩) (h - l) (c - l)) u := by
  rw [run_slice_lh u 29 (some ⟨b, o, none⟩) n c Tryz.underlying29 .i64 .i64 (l : Nat) (h : Nat) (by omega) (by omega) (by omega)]
  have e : ¬ c - l = 0 := by omega
  have e2 : ¬ c = l := by omega
  simp [go_sem, sliced, e2, Addr.add]
def TmPost (p : Pic) (t : Nat) (w : World) (e : Ending) (w' : World) : Prop := ∃ (ad : Option Addr) (cap : Nat), e = .returned (.slice ad (groundV p t).length cap) ∧ ICame w' ad (groundV p t) ∧ Below w.heap.size w w'
set_option maxRecDepth 100000 in
set_option maxHeartbeats 12800000 in
theorem tileMedians_any {w : World} {ad : Option Addr} {cap : Nat} {p : Pic} (hr : ICame w ad p.L) (hcap : p.L.length ≤ cap) (_hcb : cap ≤ 9223372036854775807) (hok : PicOk p) (t : Nat) (ht1 : 1 ≤ t) (ht2 : t ≤ 256) :
    Calls Tryz.prog 126 #[.agg #[.int .i64 p.wide, .int .i64 p.high, .slice ad p.L.length cap], .int .i64 (t : Nat)] w (TmPost p t w) := by
  obtain ⟨i0, hi0, hz0, hz1, hz2⟩ := info_parts infoI
  have w1' := hok.w1
  have w2' := hok.w2
  have h1' := hok.h1
  have h2' := hok.h2
  have hpx := hok.len
  obtain ⟨Wi, Hi, Lp⟩ := p
  simp only at *
  obtain ⟨W, rfl⟩ : ∃ W : Nat, Wi = (W : Nat) := ⟨Wi.toNat, by omega⟩
  obtain ⟨H, rfl⟩ : ∃ H : Nat, Hi = (H : Nat) := ⟨Hi.toNat, by omega⟩
  have hLn : Lp.length = H * W := by
    rw [← Int.natCast_mul] at hpx
    have := Int.ofNat.inj hpx
    rw [this, Nat.mul_comm]
  have HLn := hideR hLn
  have hfew : Lp.length ≤ 65536 := hok.few
  obtain ⟨bl, ol, rfl, hbl, _⟩ := hr.at_ 0 (by
    have := Nat.mul_le_mul (show 1 ≤ H by omega) (show 1 ≤ W by omega)
    omega)
  have hn1 := fun u => tilesIn_any W t ht1 (by omega) (by omega) u
  have hm1 := fun u => tilesIn_any H t ht1 (by omega) (by omega) u
  have HCx : HeldR (∀ a, a < cdiv W t ↔ a * t < W) := hideR (fun a => cdiv_lt ht1)
  have HCy : HeldR (∀ a, a < cdiv H t ↔ a * t < H) := hideR (fun a => cdiv_lt ht1)
  have HGd : HeldR (gRows ⟨W, H, Lp⟩ t (cdiv W t) (cdiv H t) = groundV ⟨W, H, Lp⟩ t) := hideR rfl
  have hn256 : cdiv W t ≤ 256 := by
    refine Decidable.byContradiction (fun q => ?_)
    have := (unhideR HCx 256).1 (by omega)
    have h9 := Nat.mul_le_mul_left 256 ht1
    omega
  have hm256 : cdiv H t ≤ 256 := by
    refine Decidable.byContradiction (fun q => ?_)
    have := (unhideR HCy 256).1 (by omega)
    have h9 := Nat.mul_le_mul_left 256 ht1
    omega
  obtain ⟨n1, en1⟩ : ∃ n1, cdiv W t = n1 := ⟨_, rfl⟩
  obtain ⟨m1, em1⟩ : ∃ m1, cdiv H t = m1 := ⟨_, rfl⟩
  rw [en1] at hn1 hn256 HCx HGd
  rw [em1] at hm1 hm256 HCy HGd
  obtain ⟨nm, hnm⟩ : ∃ nm, n1 * m1 = nm := ⟨_, rfl⟩
  have hnmb : nm ≤ 65536 := by
    rw [← hnm]
    exact Nat.mul_le_mul hn256 hm256
  have wnm : IntKind.i64.wrap ((n1 : Int) * (m1 : Int)) = (nm : Int) := by
    rw [← Int.natCast_mul, hnm]
    exact iwrap (by omega) (by omega)
  have HPost : HeldR (∀ u (ad : Option Addr) (cap : Nat), ICame u ad (groundV ⟨W, H, Lp⟩ t) → Below w.heap.size w u → TmPost ⟨W, H, Lp⟩ t w (.returned (.slice ad (groundV ⟨W, H, Lp⟩ t).length cap)) u) := hideR (fun u a9 c9 h k => ⟨a9, c9, rfl, h, k⟩)
  have HRow : HeldR (∀ u, Below w.heap.size w u → ∀ k, k < Lp.length → u.cell? ⟨bl, ol + k, none⟩ = some (.int .i64 (Lp.getD k 0))) := hideR (fun u k j hj => by
    obtain ⟨b9, o9, e9, _, x9⟩ := (hr.below k).at_ j hj
    injection e9 with e9
    injection e9 with e1 e2
    subst e1
    subst e2
    exact x9)
  have HG0 := alloc_last w (.cells #[.int .i64 (W : Nat), .int .i64 (H : Nat), .slice (some ⟨bl, ol, none⟩) Lp.length cap] 31)
  have HG := hideR HG0
  have HB := hideR (below_a w (.cells #[.int .i64 (W : Nat), .int .i64 (H : Nat), .slice (some ⟨bl, ol, none⟩) Lp.length cap] 31))
  clear HG0 hr hok hpx hLn en1 em1 hnm
  go_enter Tryz.func126, Tryz.ntmps126
  go_wp2_with fail
  generalize w.alloc (.cells #[.int .i64 (W : Nat), .int .i64 (H : Nat), .slice (some ⟨bl, ol, none⟩) Lp.length cap] 31) = W1 at *
  obtain ⟨b, hb⟩ : ∃ b, w.heap.size = b := ⟨_, rfl⟩
  rw [hb] at HG
  rw [show (⟨w.heap.size, 0, none⟩ : Addr) = ⟨b, 0, none⟩ by rw [hb]]
  clear hb
  refine wp_region_made 1 #[true, true, true, true, true, true, true, true, true, false, false] [.lets (· = .pointer (some ⟨b, 0, none⟩)),
    .lets (· = .int .i64 (W : Nat)),
    .lets (· = .int .i64 (t : Nat)),
    .lets (· = .int .i64 (n1 : Nat)),
    .lets (· = .pointer (some ⟨b, 1, none⟩)),
    .lets (· = .int .i64 (H : Nat)),
    .lets (· = .int .i64 (t : Nat)),
    .lets (· = .int .i64 (m1 : Nat)),
    .lets (· = .int .i64 (nm : Nat))] [] [] (by kernel_rfl) (by kernel_rfl) rfl ?kinds (by kernel_rfl) (by kernel_rfl) (by kernel_rfl) ?_
  case kinds =>
    constructor
    · intro i h
      rcases i with _ | _ | _ | _ | _ | _ | _ | _ | _ | i <;> simp [Kx.isMade] at h
    · intro i h
      rcases i with _ | _ | _ | _ | _ | _ | _ | _ | _ | i <;> simp [Kx.isUse] at h
  refine lexX_step (fun K hK => ⟨by kernel_rfl, ⟨_, rfl⟩, fun v hv => ?_, fun v hv => ?_⟩)
  · go_simp
    exact mUpon_b
  subst hv
  go_simp
  refine hK _ ?_
  clear hK K
  refine lexX_step (fun K hK => ⟨by kernel_rfl, ⟨_, rfl⟩, fun v hv => ?_, fun v hv => ?_⟩)
  · obtain ⟨c0, c1, c2⟩ := pic_three (keepB (unhideR HG) hv)
    go_simp
    exact mUpon_b
  subst hv
  go_simp
  refine hK _ ?_
  clear hK K
  refine lexX_step (fun K hK => ⟨by kernel_rfl, ⟨_, rfl⟩, fun v hv => ?_, fun v hv => ?_⟩)
  · go_simp
    exact mUpon_b
  subst hv
  go_simp
  refine hK _ ?_
  clear hK K
  refine lexX_step (fun K hK => ⟨by kernel_rfl, ⟨_, rfl⟩, fun v hv => ?_, fun v hv => ?_⟩)
  · go_simp
    refine (hn1 _).mono ?_
    rintro e w9 ⟨rfl, rfl⟩
    exact ⟨_, rfl, rfl, Below.refl _ _⟩
  subst hv
  go_simp
  refine hK _ ?_
  clear hK K
  refine lexX_step (fun K hK => ⟨by kernel_rfl, ⟨_, rfl⟩, fun v hv => ?_, fun v hv => ?_⟩)
  · go_simp
    exact mUpon_b
  subst hv
  go_simp
  refine hK _ ?_
  clear hK K
  refine lexX_step (fun K hK => ⟨by kernel_rfl, ⟨_, rfl⟩, fun v hv => ?_, fun v hv => ?_⟩)
  · obtain ⟨c0, c1, c2⟩ := pic_three (keepB (unhideR HG) hv)
    go_simp
    exact mUpon_b
  subst hv
  go_simp
  refine hK _ ?_
  clear hK K
  refine lexX_step (fun K hK => ⟨by kernel_rfl, ⟨_, rfl⟩, fun v hv => ?_, fun v hv => ?_⟩)
  · go_simp
    exact mUpon_b
  subst hv
  go_simp
  refine hK _ ?_
  clear hK K
  refine lexX_step (fun K hK => ⟨by kernel_rfl, ⟨_, rfl⟩, fun v hv => ?_, fun v hv => ?_⟩)
  · go_simp
    refine (hm1 _).mono ?_
    rintro e w9 ⟨rfl, rfl⟩
    exact ⟨_, rfl, rfl, Below.refl _ _⟩
  subst hv
  go_simp
  refine hK _ ?_
  clear hK K
  refine lexX_step (fun K hK => ⟨by kernel_rfl, ⟨_, rfl⟩, fun v hv => ?_, fun v hv => ?_⟩)
  · go_simp
    exact mUpon_b
  subst hv
  go_simp
  refine hK _ ?_
  clear hK K
  refine lexX_end (fun v5 hv => ?_)
  have K5 := hv.low
  clear hv
  obtain ⟨w6, hmk, ho6, k6⟩ := make_capS (w := v5) (n := nm) w.heap.size (Nat.le_trans (unhideR HB).size K5.size) (by omega)
  refine wpAny_step (i := 9) (by kernel_rfl) rfl (by kernel_rfl) (fun K hK => ?_)
  unfold Oper.wp
  go_simp
  refine hK _ _ ?_
  clear hK K
  refine wpAny_step (i := 10) (by kernel_rfl) rfl (by kernel_rfl) (fun K hK => ?_)
  unfold Oper.wp
  go_simp
  refine hK _ _ ?_
  clear hK K
  refine wpAny_end (by kernel_rfl) ?_
  have HS0 : HeldR (TmS ⟨W, H, Lp⟩ w b (some ⟨bl, ol, none⟩) cap (.slice (some ⟨v5.heap.size, 0, none⟩) 0 nm) (.slice none 0 0) [] [] w6) := hideR ⟨below_go (below_go (unhideR HB) K5) k6, keepB (keepB (unhideR HG) K5) k6, ho6, inil _ _, Apart2.nil _⟩
  clear hmk ho6 k6 K5 HG HB wnm hn1 hm1
  go_wp2
  go_loopw [5, 6, 7] (fun lv cv yv wl => ∃ (a y : Nat) (Y : List Int), HeldR (y = a * t) ∧ a ≤ m1 ∧ y ≤ 600 ∧ yv = .int .i64 (y : Nat) ∧ HeldR (TmS ⟨W, H, Lp⟩ w b (some ⟨bl, ol, none⟩) cap lv cv (gRows ⟨W, H, Lp⟩ t n1 a) Y wl)) (fun _ _ yv _ => 1000 - (intOf yv).toNat)
  case atStart => exact ⟨0, 0, [], hideR (by omega), by omega, by omega, rfl, HS0⟩
  case round =>
    clear HS0
    obtain ⟨a, y, Y, HY, ha, hy6, rfl, HS⟩ := hrel
    obtain ⟨c0, c1, c2⟩ := pic_three (unhideR HS).g
    by_cases hyH : y < H
    · have ha2 : a < m1 := (unhideR HCy a).2 (by rw [← unhideR HY]; exact hyH)
      have tH : decide ((y : Int) < (H : Int)) = true := decide_eq_true (by omega)
      have tHn : decide (y < H) = true := decide_eq_true hyH
      have HG0 : HeldR (gRows ⟨W, H, Lp⟩ t n1 a ++ gRow ⟨W, H, Lp⟩ t a 0 = gRows ⟨W, H, Lp⟩ t n1 a) := hideR (by rw [show gRow ⟨W, H, Lp⟩ t a 0 = [] from rfl, List.append_nil])
      have HGn : HeldR (gRows ⟨W, H, Lp⟩ t n1 (a + 1) = gRows ⟨W, H, Lp⟩ t n1 a ++ gRow ⟨W, H, Lp⟩ t a n1) := hideR (gRows_next _ _ _ _)
      have wy : IntKind.i64.wrap ((y : Int) + (t : Int)) = (y : Int) + (t : Int) := iwrap (by omega) (by omega)
      go_wp2
      go_loopw [5, 6, 8] (fun lv cv xv wl => ∃ (bx x : Nat) (Y : List Int), HeldR (x = bx * t) ∧ bx ≤ n1 ∧ x ≤ 600 ∧ xv = .int .i64 (x : Nat) ∧ HeldR (TmS ⟨W, H, Lp⟩ w b (some ⟨bl, ol, none⟩) cap lv cv (gRows ⟨W, H, Lp⟩ t n1 a ++ gRow ⟨W, H, Lp⟩ t a bx) Y wl)) (fun _ _ xv _ => 1000 - (intOf xv).toNat)
      case atStart => exact ⟨0, 0, Y, hideR (by omega), by omega, by omega, rfl, by rw [unhideR HG0]; exact HS⟩
      case round =>
        clear HS c0 c1 c2 HG0
        obtain ⟨bx, x, Y, HX, hbx, hx6, rfl, HS⟩ := hrel
        obtain ⟨c0, c1, c2⟩ := pic_three (unhideR HS).g
        by_cases hxW : x < W
        · have hb2 : bx < n1 := (unhideR HCx bx).2 (by rw [← unhideR HX]; exact hxW)
          have tW : decide ((x : Int) < (W : Int)) = true := decide_eq_true (by omega)
          have tWn : decide (x < W) = true := decide_eq_true hxW
          obtain ⟨n, hn⟩ : ∃ n, min t (W - x) = n := ⟨_, rfl⟩
          obtain ⟨M, hM⟩ : ∃ M, min t (H - y) = M := ⟨_, rfl⟩
          have HTl : HeldR (tileL ⟨W, H, Lp⟩ t (a * t) (bx * t) = boxL ⟨W, H, Lp⟩ y x n M) := hideR (by
            unfold tileL
            rw [← unhideR HY, ← unhideR HX, ← hn, ← hM]
            rfl)
          have wx : IntKind.i64.wrap ((x : Int) + (t : Int)) = (x : Int) + (t : Int) := iwrap (by omega) (by omega)
          have hnb : n ≤ 256 ∧ 1 ≤ n ∧ x + n ≤ W := by omega
          have hMb : M ≤ 256 ∧ 1 ≤ M ∧ y + M ≤ H := by omega
          obtain ⟨ye, hye⟩ : ∃ ye, y + M = ye := ⟨_, rfl⟩
          obtain ⟨xe, hxe⟩ : ∃ xe, x + n = xe := ⟨_, rfl⟩
          have mY := min_is (a := (y : Int) + (t : Int)) (b := (H : Int)) (t := (ye : Int)) (by split <;> omega)
          have mX := min_is (a := (x : Int) + (t : Int)) (b := (W : Int)) (t := (xe : Int)) (by split <;> omega)
          obtain ⟨a2, n2, e2⟩ := (unhideR HS).c.slice
          subst e2
          have hsl := fun u => slice_none u (unhideR HS).c
          have HSc := hideR (unhideR HS).cut
          have HB0 : HeldR (boxL ⟨W, H, Lp⟩ y x n 0 = []) := hideR (by unfold boxL; rfl)
          generalize Y.length = yl at *
          clear HS hn hM
          go_wp2
          clear hsl
          obtain ⟨G, hGe⟩ : ∃ G, gRows ⟨W, H, Lp⟩ t n1 a ++ gRow ⟨W, H, Lp⟩ t a bx = G := ⟨_, rfl⟩
          have HGe := hideR hGe
          rw [hGe] at HSc
          clear hGe
          go_loopw [6, 9] (fun cv vv wl => ∃ m v : Nat, HeldR (v = y + m) ∧ v ≤ 1000 ∧ m ≤ M ∧ vv = .int .i64 (v : Nat) ∧ HeldR (TmS ⟨W, H, Lp⟩ w b (some ⟨bl, ol, none⟩) cap u5 cv G (boxL ⟨W, H, Lp⟩ y x n m) wl)) (fun _ vv _ => 2000 - (intOf vv).toNat)
          case atStart => exact ⟨0, y, hideR (by omega), by omega, by omega, rfl, by rw [unhideR HB0]; exact HSc⟩
          case round =>
            clear HSc c0 c1 c2
            obtain ⟨m, v, HV, hv1, hm, rfl, HS⟩ := hrel
            obtain ⟨c0, c1, c2⟩ := pic_three (unhideR HS).g
            have hvm := unhideR HV
            by_cases hmM : m < M
            · have tv : decide ((v : Int) < (ye : Int)) = true := decide_eq_true (by omega)
              have tvn : decide (v < ye) = true := decide_eq_true (by omega)
              have hVW : v * W + W ≤ Lp.length := by
                rw [unhideR HLn]
                have h9 := Nat.mul_le_mul_right W (show v + 1 ≤ H by omega)
                rw [Nat.succ_mul] at h9
                exact h9
              have hVW2 : (v + 1) * W = v * W + W := Nat.succ_mul v W
              obtain ⟨VW, hvw⟩ : ∃ VW, v * W = VW := ⟨_, rfl⟩
              rw [hvw] at hVW hVW2
              have wv1 : IntKind.i64.wrap ((v : Int) * (W : Int)) = (VW : Int) := by rw [← Int.natCast_mul, hvw]; exact iwrap (by omega) (by omega)
              have wv2 : IntKind.i64.wrap ((v : Int) + 1) = ((v + 1 : Nat) : Int) := by rw [show (v : Int) + 1 = ((v + 1 : Nat) : Int) by omega]; exact iwrap (by omega) (by omega)
              have wv3 : IntKind.i64.wrap (((v + 1 : Nat) : Int) * (W : Int)) = ((VW + W : Nat) : Int) := by rw [← Int.natCast_mul, hVW2]; exact iwrap (by omega) (by omega)
              have wv4 : IntKind.i64.wrap (((v : Int) + 1) * (W : Int)) = ((VW + W : Nat) : Int) := by rw [show (v : Int) + 1 = ((v + 1 : Nat) : Int) by omega]; exact wv3
              have wv5 : IntKind.i64.wrap ((v : Int) + 1) = (v : Int) + 1 := iwrap (by omega) (by omega)
              have s1 := fun u => slice_part (u := u) (b := bl) (o := ol) (n := Lp.length) (c := cap) (l := VW) (h := VW + W) (by omega) (by omega) (by omega)
              have s2 := fun u => slice_part (u := u) (b := bl) (o := ol + VW) (n := W) (c := cap - VW) (l := x) (h := xe) (by omega) (by omega) (by omega)
              rw [show VW + W - VW = W by omega] at s1
              rw [show xe - x = n by omega] at s2
              have HZ : HeldR (∀ u, Below w.heap.size w u → ∀ j q, ((segL ⟨W, H, Lp⟩ (y + m) x n).map (Value.int .i64))[j]? = some q → u.cell? ((⟨bl, ol + VW + x, none⟩ : Addr).add j) = some q) := hideR (fun u k j q hq => by
                have hj : j < n := by
                  have := (List.getElem?_eq_some_iff.1 hq).1
                  rw [List.length_map, seg_len] at this
                  exact this
                have := unhideR HRow u k (VW + x + j) (by omega)
                rw [add_pl2, show ol + VW + x + j = ol + (VW + x + j) by omega, this, ← hq]
                unfold segL
                rw [List.getElem?_map, List.getElem?_map, List.getElem?_range hj, ← hvm]
                show some (Value.int .i64 (Lp.getD (VW + x + j) 0)) = some (Value.int .i64 (Lp.getD (v * W + (x + j)) 0))
                rw [hvw, Nat.add_assoc])
              have HBn : HeldR (boxL ⟨W, H, Lp⟩ y x n (m + 1) = boxL ⟨W, H, Lp⟩ y x n m ++ segL ⟨W, H, Lp⟩ (y + m) x n) := hideR (box_next _ _ _ _ _)
              have hSl : (segL ⟨W, H, Lp⟩ (y + m) x n).length = n := seg_len _ _ _ _
              have HSl := hideR hSl
              obtain ⟨nl, hnl⟩ : ∃ nl, (boxL ⟨W, H, Lp⟩ y x n m).length = nl := ⟨_, rfl⟩
              have hnl2 : nl ≤ 65536 := by
                rw [← hnl, box_len]
                have := Nat.mul_le_mul (show m ≤ 256 by omega) hnb.1
                omega
              have HNl := hideR hnl
              have hOc : wr.ownsRow w.heap.size 3 1 u6 nl ((boxL ⟨W, H, Lp⟩ y x n m).map (Value.int .i64)) := by
                have := (unhideR HS).c
                unfold IOwn at this
                rw [hnl] at this
                exact this
              have HOc := hideR hOc
              have hOne : ∀ q ∈ (segL ⟨W, H, Lp⟩ (y + m) x n).map (Value.int .i64), q.oneCell' = true := fun q hq => by
                obtain ⟨z, _, rfl⟩ := List.mem_map.1 hq
                rfl
              have HOne := hideR hOne
              have hSz := (unhideR HS).bel.size
              obtain ⟨Z, hZ⟩ : ∃ Z, segL ⟨W, H, Lp⟩ (y + m) x n = Z := ⟨_, rfl⟩
              rw [hZ] at HZ HBn HSl HOne
              have HV2 : HeldR (v + 1 = y + (m + 1)) := hideR (by omega)
              have hvb : v + 1 ≤ 1000 := by omega
              clear hvm hvw hVW2 hSl hnl hOc hOne hZ
              go_wp2_with (first
                | (at_builtin; refine wpList_append_two rfl _ _ 29 rfl w.heap.size 3 i0 (.int .i64 0) 1 8 Tryz.underlying29 hi0 hz0 hz1 hz2 rfl (by decide) _ nl _ rfl (unhideR HOc) ⟨bl, ol + VW + x, none⟩ n (cap - VW - x) (Z.map (Value.int .i64)) rfl ?d1 (unhideR HZ wr (unhideR HS).bel) (unhideR HOne) ?d3 ?d4 hSz hnb.2.1 ?_))
              case d1 => simpa using unhideR HSl
              case d3 => unfold maxLen; omega
              case d4 => omega
              intro v7 w7 hown7 hgrow7 hb7
              have HS7 : HeldR (TmS ⟨W, H, Lp⟩ w b (some ⟨bl, ol, none⟩) cap u5 v7 G (boxL ⟨W, H, Lp⟩ y x n (m + 1)) w7) := hideR (by
                rw [unhideR HBn]
                exact (unhideR HS).addC (by rw [unhideR HNl, unhideR HSl]; exact hown7) hgrow7 hb7)
              clear hown7 hgrow7 hb7 HS HOc HZ HOne
              go_wp2
              exact ⟨⟨m + 1, v + 1, HV2, by omega, by omega, by go_num, HS7⟩, by simp [intOf]; omega⟩
            · obtain rfl : m = M := by omega
              have tv : decide ((v : Int) < (ye : Int)) = false := decide_eq_false (by omega)
              have tvn : decide (v < ye) = false := decide_eq_false (by omega)
              have hcv : 0 < (boxL ⟨W, H, Lp⟩ y x n m).length := by
                rw [box_len]
                exact Nat.mul_pos (by omega) (by omega)
              obtain ⟨nl, hnl⟩ : ∃ nl, (boxL ⟨W, H, Lp⟩ y x n m).length = nl := ⟨_, rfl⟩
              have hnl2 : nl ≤ 65536 := by
                rw [← hnl, box_len]
                have := Nat.mul_le_mul (show m ≤ 256 by omega) hnb.1
                omega
              obtain ⟨gy, cy, e⟩ := own_some (unhideR HS).c hcv
              rw [hnl] at e hcv
              subst e
              have hso := Tryz.slices_Sort_int gy 0 cy (boxL ⟨W, H, Lp⟩ y x n m) wr (unhideR HS).c.holds (unhideR HS).c.lt0 (by rw [hnl]; omega)
              rw [hnl] at hso
              have HMd : HeldR (medV (tileL ⟨W, H, Lp⟩ t (a * t) (bx * t)) = ((boxL ⟨W, H, Lp⟩ y x n m).mergeSort fun p q => decide (p ≤ q)).getD ((nl - 1) / 2) 0) := hideR (by rw [unhideR HTl, ← hnl]; rfl)
              have HNl := hideR hnl
              clear hvm hnl
              go_wp2_with fail
              refine hso.mono ?_
              rintro e w5 ⟨rfl, hgr⟩
              have HS5 := hideR ((unhideR HS).sort (unhideR HNl) hgr)
              have hlS : ((boxL ⟨W, H, Lp⟩ y x n m).mergeSort fun p q => decide (p ≤ q)).length = nl := by rw [List.length_mergeSort]; exact unhideR HNl
              have HLS := hideR hlS
              clear hso hgr HS
              obtain ⟨Z, hZ⟩ : ∃ Z, ((boxL ⟨W, H, Lp⟩ y x n m).mergeSort fun p q => decide (p ≤ q)) = Z := ⟨_, rfl⟩
              rw [hZ] at HS5 HMd HLS
              obtain ⟨md, hmd⟩ : ∃ md, (nl - 1) / 2 = md := ⟨_, rfl⟩
              rw [hmd] at HMd
              have xc := ((unhideR HS5).c.has (unhideR HLS) (k := md) (by omega)).1
              rw [← unhideR HMd] at xc
              have hd1 : ((nl : Int) - 1).tdiv 2 = (md : Int) := by rw [Int.tdiv_eq_ediv_of_nonneg (by omega)]; omega
              have hd2 : ((nl : Int) - 1) / 2 = (md : Int) := by omega
              have hcl : (md : Int) < (nl : Int) := by omega
              have hw1 : IntKind.i64.wrap ((nl : Int) - 1) = (nl : Int) - 1 := iwrap (by omega) (by omega)
              have hw2 : IntKind.i64.wrap (md : Int) = (md : Int) := iwrap (by omega) (by omega)
              obtain ⟨gl, hgl⟩ : ∃ gl, G.length = gl := ⟨_, rfl⟩
              have hglb : gl ≤ 65536 := by
                rw [← hgl, ← unhideR HGe, List.length_append, gRows_len, gRow_len]
                have h9 := Nat.mul_le_mul (show a + 1 ≤ 256 by omega) hn256
                rw [Nat.succ_mul] at h9
                omega
              have HOl : HeldR (w5.ownsRow w.heap.size 3 1 u5 gl (G.map (Value.int .i64))) := hideR (by
                have := (unhideR HS5).l
                unfold IOwn at this
                rw [hgl] at this
                exact this)
              have hSz := (unhideR HS5).bel.size
              have HGl := hideR hgl
              have HGx : HeldR (gRows ⟨W, H, Lp⟩ t n1 a ++ gRow ⟨W, H, Lp⟩ t a (bx + 1) = G ++ [medV (tileL ⟨W, H, Lp⟩ t (a * t) (bx * t))]) := hideR (by rw [gRow_next, ← List.append_assoc, unhideR HGe])
              generalize medV (tileL ⟨W, H, Lp⟩ t (a * t) (bx * t)) = mv at *
              have HX2 : HeldR (x + t = (bx + 1) * t) := hideR (by rw [Nat.succ_mul, ← unhideR HX])
              clear hgl hmd hZ hlS hcv HMd HTl
              go_wp2_with (first
                | (at_builtin; refine wpList_append_two rfl _ _ 29 rfl w.heap.size 3 i0 (.int .i64 0) 1 8 Tryz.underlying29 hi0 hz0 hz1 hz2 rfl (by decide) _ gl _ rfl (own_below2 (unhideR HOl) (below_a _ _)) ⟨w5.heap.size, 0, none⟩ 1 1 [.int .i64 mv] rfl rfl ?d1 ?d2 ?d3 ?d4 ?d5 (by decide) ?_))
              case d1 => exact one_cell (alloc_last w5 _)
              case d2 => exact int_one
              case d3 => unfold maxLen; omega
              case d4 => omega
              case d5 => simp; omega
              intro v7 w7 hown7 hgrow7 hb7
              have HS7 : HeldR (TmS ⟨W, H, Lp⟩ w b (some ⟨bl, ol, none⟩) cap v7 (.slice (some ⟨gy, 0, none⟩) nl cy) (gRows ⟨W, H, Lp⟩ t n1 a ++ gRow ⟨W, H, Lp⟩ t a (bx + 1)) Z w7) := hideR (by
                rw [unhideR HGx]
                exact (unhideR HS5).addL (by rw [unhideR HGl]; exact hown7) hgrow7 (by simpa using hb7))
              clear hown7 hgrow7 hb7 HS5 HOl
              go_wp2
              exact ⟨⟨bx + 1, x + t, Z, HX2, by omega, by omega, by go_num, HS7⟩, by simp [intOf]; omega⟩
        · have tW : decide ((x : Int) < (W : Int)) = false := decide_eq_false (by omega)
          have tWn : decide (x < W) = false := decide_eq_false hxW
          have hbn : bx = n1 := by
            refine Decidable.byContradiction (fun q => ?_)
            have := (unhideR HCx bx).1 (by omega)
            rw [← unhideR HX] at this
            exact hxW this
          have HS2 : HeldR (TmS ⟨W, H, Lp⟩ w b (some ⟨bl, ol, none⟩) cap u5 u6 (gRows ⟨W, H, Lp⟩ t n1 (a + 1)) Y wr) := hideR (by
            rw [unhideR HGn]
            have := unhideR HS
            rw [hbn] at this
            exact this)
          have HY2 : HeldR (y + t = (a + 1) * t) := hideR (by rw [Nat.succ_mul, ← unhideR HY])
          clear HS hbn
          go_wp2
          exact ⟨⟨a + 1, y + t, Y, HY2, by omega, by omega, by go_num, HS2⟩, by simp [intOf]; omega⟩
    · have tH : decide ((y : Int) < (H : Int)) = false := decide_eq_false (by omega)
      have tHn : decide (y < H) = false := decide_eq_false hyH
      have han : a = m1 := by
        refine Decidable.byContradiction (fun q => ?_)
        have := (unhideR HCy a).1 (by omega)
        rw [← unhideR HY] at this
        exact hyH this
      have hl := (unhideR HS).l
      rw [han, unhideR HGd] at hl
      obtain ⟨a9, c9, e9, hc9⟩ := hl.came
      subst e9
      have HF := hideR (unhideR HPost wr a9 c9 hc9 (unhideR HS).bel)
      clear HS hl hc9
      go_wp2
      go_ret
      exact unhideR HF
end Go.Proofs.YtmgnobeaacjdjajGreatDoor
