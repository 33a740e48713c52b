/-
  The law of moved pictures: its walk.
-/
import Derived.Test.YtgmaganajfcpbajDoorDY3a
import Derived.Test.YtgmaganajfcpbajDoorDXC
import Derived.Test.YtgmaganajfcpbajDoorFrSm
import Derived.Test.YtgmaganajfcpbajDoorSpArg2
namespace Go.Proofs.YtgmaganajfcpbajDoor
open Go Go.RowKit

def MwPost (w : World) (e : Ending) (w' : World) : Prop := e = .returned (.bool true) ∧ Below w.heap.size w w'
set_option maxRecDepth 100000 in
set_option maxHeartbeats 6400000 in
theorem moved_walk {a : Nat → Addr} {w : World} {v : Value} {op : Option Pic} (hS : Er2 w a) (hA : PicArg2 w v op) (over dx dy : Int) : Calls Tryd.prog 3 #[v, .int .i64 over, .int .i64 dx, .int .i64 dy] w (MwPost w) := by
  have hsp := spotted_any hS
  have HS : HeldR (∀ u, Below w.heap.size w u → Er2 u a) := hideR (fun u k => hS.below k (Nat.le_refl _))
  have HA : HeldR (∀ u, Below w.heap.size w u → PicArg2 u v op) := hideR (fun u k => hA.below k)
  clear hS hA
  go_enter Tryd.func3, Tryd.ntmps3
  go_wp2_with fail
  refine hsp.mono ?_
  rintro e w1 ⟨rfl, k1⟩
  have hsm := small_any (unhideR HA w1 k1).arg
  have HB1 := hideR k1
  clear hsp k1
  go_wp2_with fail
  refine hsm.mono ?_
  rintro e w1' ⟨q, rfl, hq, rfl⟩
  clear hsm
  cases q with
  | false =>
    clear hq
    go_wp2
    go_ret
    exact ⟨rfl, unhideR HB1⟩
  | true =>
    obtain ⟨p, rfl, hfew⟩ := hq rfl
    obtain ⟨b, o, cap, ad, rfl, hp1, hl, hpc1⟩ := picArg2_is (unhideR HA w1 (unhideR HB1))
    have hpe := pictureError_any hp1 hl
    have HP1 := hideR hp1
    have hrg := picE_range p
    clear hq hpc1 hp1
    by_cases d1 : dx < 0
    · have td1 : decide (dx < 0) = true := decide_eq_true d1
      go_wp2
      go_ret
      exact ⟨rfl, unhideR HB1⟩
    have td1 : decide (dx < 0) = false := decide_eq_false d1
    by_cases d2 : dy < 0
    · have td2 : decide (dy < 0) = true := decide_eq_true d2
      go_wp2
      go_ret
      exact ⟨rfl, unhideR HB1⟩
    have td2 : decide (dy < 0) = false := decide_eq_false d2
    by_cases d3 : 10 < dx
    · have td3 : decide (10 < dx) = true := decide_eq_true d3
      go_wp2
      go_ret
      exact ⟨rfl, unhideR HB1⟩
    have td3 : decide (10 < dx) = false := decide_eq_false d3
    by_cases d4 : 10 < dy
    · have td4 : decide (10 < dy) = true := decide_eq_true d4
      go_wp2
      go_ret
      exact ⟨rfl, unhideR HB1⟩
    have td4 : decide (10 < dy) = false := decide_eq_false d4
    go_wp2_with fail
    refine hpe.mono ?_
    rintro e w2 ⟨rfl, k2⟩
    have HP2 := hideR ((unhideR HP1).below k2)
    have HB2 := hideR (below_go (unhideR HB1) k2)
    obtain ⟨hlt, c0, c1, c2, _⟩ := unhideR HP2
    clear hpe k2 HP1 HB1
    by_cases e0 : picE p = 0
    case neg =>
      have t0 : decide (0 < picE p) = true := decide_eq_true (by omega)
      generalize picE p = E at *
      go_wp2
      go_ret
      exact ⟨rfl, unhideR HB2⟩
    case pos =>
    have hok := pic_ok e0
    rw [e0]
    clear hrg
    by_cases g1 : 20 < p.wide
    · have tg1 : decide (20 < p.wide) = true := decide_eq_true g1
      go_wp2
      go_ret
      exact ⟨rfl, unhideR HB2⟩
    have tg1 : decide (20 < p.wide) = false := decide_eq_false g1
    by_cases g2 : 20 < p.high
    · have tg2 : decide (20 < p.high) = true := decide_eq_true g2
      go_wp2
      go_ret
      exact ⟨rfl, unhideR HB2⟩
    have tg2 : decide (20 < p.high) = false := decide_eq_false g2
    by_cases g3 : over < 1
    · have tg3 : decide (over < 1) = true := decide_eq_true g3
      go_wp2
      go_ret
      exact ⟨rfl, unhideR HB2⟩
    have tg3 : decide (over < 1) = false := decide_eq_false g3
    obtain ⟨Wi, Hi, Lp⟩ := p
    have w1' := hok.w1
    have h1' := hok.h1
    have hpx := hok.len
    have HEa : HeldR (∀ k, 0 ≤ Lp.getD k 0 ∧ Lp.getD k 0 ≤ 65535) := hideR (fun k => by
      by_cases q : k < Lp.length
      · exact hok.each k q
      · rw [List.getD_eq_getElem?_getD, List.getElem?_eq_none (by omega)]; exact ⟨by decide, by decide⟩)
    clear hok e0
    simp only at *
    obtain ⟨w0, rfl⟩ : ∃ w0 : Nat, Wi = (w0 : Nat) := ⟨Wi.toNat, by omega⟩
    obtain ⟨h0, rfl⟩ : ∃ h0 : Nat, Hi = (h0 : Nat) := ⟨Hi.toNat, by omega⟩
    obtain ⟨dn, rfl⟩ : ∃ dn : Nat, dx = (dn : Nat) := ⟨dx.toNat, by omega⟩
    obtain ⟨en, rfl⟩ : ∃ en : Nat, dy = (en : Nat) := ⟨dy.toNat, by omega⟩
    have hLn : Lp.length = h0 * w0 := by
      rw [← Int.natCast_mul] at hpx
      have := Int.ofNat.inj hpx
      rw [this, Nat.mul_comm]
    have b1 : 1 ≤ w0 ∧ w0 ≤ 20 := by omega
    have b2 : 1 ≤ h0 ∧ h0 ≤ 20 := by omega
    have b3 : dn ≤ 10 := by omega
    have b4 : en ≤ 10 := by omega
    have b5 : 1 ≤ over := by omega
    obtain ⟨W, hW⟩ : ∃ W : Nat, W = w0 + 30 := ⟨_, rfl⟩
    obtain ⟨H, hH⟩ : ∃ H : Nat, H = h0 + 30 := ⟨_, rfl⟩
    have hN0 : 0 < Lp.length := by rw [hLn]; exact Nat.mul_pos b2.1 b1.1
    have hnn : H * W ≤ 2500 := Nat.mul_le_mul (show H ≤ 50 by omega) (show W ≤ 50 by omega)
    have hhw : 2 * (h0 * w0) < H * W := by
      have h3 : h0 * w0 ≤ 400 := Nat.mul_le_mul b2.2 b1.2
      rw [hW, hH, Nat.add_mul, Nat.mul_add, Nat.mul_add]
      omega
    obtain ⟨bl, ol, rfl, hbl, _⟩ := (unhideR HP2).row.at_ 0 hN0
    have HRow : HeldR (∀ u, Below w2.heap.size w2 u → ∀ k, k < Lp.length → u.cell? ⟨bl, ol + k, none⟩ = some (.int .i64 (Lp.getD k 0))) := hideR (fun u k j hj => by
      obtain ⟨b9, o9, e9, _, x9⟩ := ((unhideR HP2).below k).row.at_ j hj
      injection e9 with e9
      injection e9 with e1 e2
      subst e1
      subst e2
      exact x9)
    obtain ⟨n, hn⟩ : ∃ n : Nat, H * W = n := ⟨_, rfl⟩
    obtain ⟨N, hNN⟩ : ∃ N, Lp.length = N := ⟨_, rfl⟩
    have HPad : HeldR (∀ ex ey C, PadTo Lp w0 W n ex ey N C → PadAll Lp w0 h0 W H ex ey C) := hideR (fun ex ey C h => by
      rw [← hNN, hLn, ← hn] at h
      exact h.all)
    have HPut : HeldR (∀ ex ey i C, ex ≤ 11 → ey ≤ 11 → i < N → PadTo Lp w0 W n ex ey i C → (i / w0 + ey) * W + (i % w0 + ex) < n ∧ PadTo Lp w0 W n ex ey (i + 1) (C.set ((i / w0 + ey) * W + (i % w0 + ex)) (Lp.getD i 0))) := hideR (fun ex ey i C h1 h2 h3 h => by
      have hi : i / w0 < h0 := (Nat.div_lt_iff_lt_mul (by omega)).2 (by rw [← hLn, hNN]; exact h3)
      have hm := Nat.mod_lt i (show 0 < w0 by omega)
      have hp : (i / w0 + ey) * W + (i % w0 + ex) < n := by
        have := Nat.mul_le_mul_right W (show i / w0 + ey + 1 ≤ H by omega)
        rw [Nat.add_mul, Nat.one_mul, hn] at this
        omega
      exact ⟨hp, h.put b1.1 (by omega) hp⟩)
    have HFin : HeldR (∀ A B, PadAll Lp w0 h0 W H 1 1 A → PadAll Lp w0 h0 W H (1 + dn) (1 + en) B → PadPic W H A ∧ PadPic W H B) := hideR (fun A B ha hb => by
      constructor
      · exact ⟨by omega, by omega, by omega, by omega, ha.len, pad_each ha (unhideR HEa), by have := ha.few; omega⟩
      · exact ⟨by omega, by omega, by omega, by omega, hb.len, pad_each hb (unhideR HEa), by have := hb.few; omega⟩)
    have HSt : HeldR (∀ A B l m p q, PadAll Lp w0 h0 W H 1 1 A → PadAll Lp w0 h0 W H (1 + dn) (1 + en) B → IsLabels (litV ⟨(W : Nat), (H : Nat), A⟩ 256 over) W l p → IsLabels (litV ⟨(W : Nat), (H : Nat), B⟩ 256 over) W m q → (spotsV m (overV ⟨(W : Nat), (H : Nat), B⟩ 256) W H 1 q).map starOf = ((spotsV l (overV ⟨(W : Nat), (H : Nat), A⟩ 256) W H 1 p).map starOf).map (mvQ dn en) ∧ ∀ s ∈ (spotsV l (overV ⟨(W : Nat), (H : Nat), A⟩ 256) W H 1 p).map starOf, StB s) := hideR (fun A B l m p q ha hb hl hm => moved_stars (unhideR HFin A B ha hb).1 (unhideR HFin A B ha hb).2 ha hb b5 (by omega) (by omega) hl hm)
    have HIx : HeldR (∀ i, i < N → i / w0 < h0 ∧ i % w0 < w0) := hideR (fun i hi => ⟨(Nat.div_lt_iff_lt_mul (by omega)).2 (by rw [← hLn, hNN]; exact hi), Nat.mod_lt _ (by omega)⟩)
    have hN7 : N ≤ 700 := by omega
    have hmk := makeI_run n (by omega)
    have wW : IntKind.i64.wrap ((w0 : Int) + 30) = (W : Int) := by rw [show (w0 : Int) + 30 = (W : Int) by omega]; exact iwrap (by omega) (by omega)
    have wH : IntKind.i64.wrap ((h0 : Int) + 30) = (H : Int) := by rw [show (h0 : Int) + 30 = (H : Int) by omega]; exact iwrap (by omega) (by omega)
    have wWH : IntKind.i64.wrap ((W : Int) * (H : Int)) = (n : Int) := by rw [← Int.natCast_mul, Nat.mul_comm, hn]; exact iwrap (by omega) (by omega)
    have hn2 : n ≤ 2500 := by omega
    have hW50 : W ≤ 50 := by omega
    have hH50 : H ≤ 50 := by omega
    have HN := hideR hn
    rw [hNN] at c2 HRow hN0
    have HC : HeldR (∀ u, Below w2.heap.size w2 u → u.cell? ⟨b, o, none⟩ = some (.int .i64 (w0 : Nat)) ∧ u.cell? ⟨b, o + 1, none⟩ = some (.int .i64 (h0 : Nat)) ∧ u.cell? ⟨b, o + 2, none⟩ = some (.slice (some ⟨bl, ol, none⟩) N cap)) := hideR (fun u k => ⟨(k.cell (p := ⟨b, o, none⟩) hlt).trans c0, (k.cell (p := ⟨b, o + 1, none⟩) hlt).trans c1, (k.cell (p := ⟨b, o + 2, none⟩) hlt).trans c2⟩)
    clear hLn hpx hhw hnn hW hH hn hNN hfew hl w1' h1'
    go_upto_region 11 with fail
    have HT0 := hideR (pads_new w2 n (by omega) (.int .i64 (W : Nat)) (.int .i64 (H : Nat)))
    obtain ⟨KB, hK⟩ : ∃ KB, w2.heap.size = KB := ⟨_, rfl⟩
    have HKK := hideR hK
    rw [hK] at HT0 ⊢
    rw [show KB + 1 + 1 + 1 = KB + 3 from rfl, show KB + 1 + 1 = KB + 2 from rfl]
    generalize (((w2.alloc (.cells (madeCells #[.int .i64 0] n) 3)).alloc (.cells #[.int .i64 (W : Nat), .int .i64 (H : Nat), .slice (some ⟨KB, 0, none⟩) n n] 28)).alloc (.cells (madeCells #[.int .i64 0] n) 3)).alloc (.cells #[.int .i64 (W : Nat), .int .i64 (H : Nat), .slice (some ⟨KB + 2, 0, none⟩) n n] 28) = u0 at HT0 ⊢
    clear hK hmk c0 c1 c2 hlt hbl HP2
    go_wp2
    go_loopw [15] (fun iv wl => ∃ (i : Nat) (A B : List Int), i ≤ N ∧ iv = .int .i64 (i : Nat) ∧ HeldR (PdS w2 KB n (.int .i64 (W : Nat)) (.int .i64 (H : Nat)) A B wl) ∧ HeldR (PadTo Lp w0 W n 1 1 i A) ∧ HeldR (PadTo Lp w0 W n (1 + dn) (1 + en) i B)) (fun iv _ => 1000 - (intOf iv).toNat)
    case atStart => exact ⟨0, _, _, by omega, rfl, HT0, hideR (pad0 _ _ _ _ _ _), hideR (pad0 _ _ _ _ _ _)⟩
    case round =>
      clear HT0
      obtain ⟨i, A, B, hin, rfl, HT, HPa, HPb⟩ := hrel
      have bel : Below w2.heap.size w2 wr := by rw [unhideR HKK]; exact (unhideR HT).bel
      obtain ⟨xw, xh, xp⟩ := unhideR HC wr bel
      by_cases hi : i < N
      · have tin : decide (i < N) = true := decide_eq_true hi
        have ji : (i : Int) < (N : Int) := by omega
        have xc := unhideR HRow wr bel i hi
        obtain ⟨hy0, hx0⟩ := unhideR HIx i hi
        obtain ⟨hq1, HA1⟩ := unhideR HPut 1 1 i A (by omega) (by omega) hi (unhideR HPa)
        obtain ⟨hq2, HB1⟩ := unhideR HPut (1 + dn) (1 + en) i B (by omega) (by omega) hi (unhideR HPb)
        have hm1 : (i : Int) % (w0 : Int) = ((i % w0 : Nat) : Int) := (Int.natCast_emod i w0).symm
        have hm2 : (i : Int).tmod (w0 : Int) = ((i % w0 : Nat) : Int) := (Int.tmod_eq_emod_of_nonneg (Int.natCast_nonneg i)).trans hm1
        have hd1 : (i : Int) / (w0 : Int) = ((i / w0 : Nat) : Int) := (Int.natCast_ediv i w0).symm
        have hd2 : (i : Int).tdiv (w0 : Int) = ((i / w0 : Nat) : Int) := (Int.tdiv_eq_ediv_of_nonneg (Int.natCast_nonneg i)).trans hd1
        obtain ⟨ym, hym⟩ : ∃ ym, i / w0 = ym := ⟨_, rfl⟩
        obtain ⟨xm, hxm⟩ : ∃ xm, i % w0 = xm := ⟨_, rfl⟩
        rw [hym] at hd1 hd2 hy0 hq1 hq2 HA1 HB1
        rw [hxm] at hm1 hm2 hx0 hq1 hq2 HA1 HB1
        obtain ⟨x1, hx1⟩ : ∃ x1, xm + 1 = x1 := ⟨_, rfl⟩
        obtain ⟨y1, hy1⟩ : ∃ y1, ym + 1 = y1 := ⟨_, rfl⟩
        rw [hx1, hy1] at hq1 HA1
        obtain ⟨m1, hm1'⟩ : ∃ m1, y1 * W = m1 := ⟨_, rfl⟩
        rw [hm1'] at hq1 HA1
        obtain ⟨q1, hq1'⟩ : ∃ q1, m1 + x1 = q1 := ⟨_, rfl⟩
        rw [hq1'] at hq1 HA1
        obtain ⟨y2, hy2⟩ : ∃ y2, y1 + en = y2 := ⟨_, rfl⟩
        rw [show ym + (1 + en) = y2 by omega] at hq2 HB1
        obtain ⟨m2, hm2'⟩ : ∃ m2, y2 * W = m2 := ⟨_, rfl⟩
        rw [hm2'] at hq2 HB1
        obtain ⟨r2, hr2⟩ : ∃ r2, m2 + x1 = r2 := ⟨_, rfl⟩
        obtain ⟨q2, hq2'⟩ : ∃ q2, r2 + dn = q2 := ⟨_, rfl⟩
        rw [show m2 + (xm + (1 + dn)) = q2 by omega] at hq2 HB1
        have wx1 : IntKind.i64.wrap ((xm : Int) + 1) = (x1 : Int) := by rw [show (xm : Int) + 1 = (x1 : Int) by omega]; exact iwrap (by omega) (by omega)
        have wy1 : IntKind.i64.wrap ((ym : Int) + 1) = (y1 : Int) := by rw [show (ym : Int) + 1 = (y1 : Int) by omega]; exact iwrap (by omega) (by omega)
        have wm1 : IntKind.i64.wrap ((y1 : Int) * (W : Int)) = (m1 : Int) := by rw [← Int.natCast_mul, hm1']; exact iwrap (by omega) (by omega)
        have wq1 : IntKind.i64.wrap ((m1 : Int) + (x1 : Int)) = (q1 : Int) := by rw [show (m1 : Int) + (x1 : Int) = (q1 : Int) by omega]; exact iwrap (by omega) (by omega)
        have wy2 : IntKind.i64.wrap ((y1 : Int) + (en : Int)) = (y2 : Int) := by rw [show (y1 : Int) + (en : Int) = (y2 : Int) by omega]; exact iwrap (by omega) (by omega)
        have wm2 : IntKind.i64.wrap ((y2 : Int) * (W : Int)) = (m2 : Int) := by rw [← Int.natCast_mul, hm2']; exact iwrap (by omega) (by omega)
        have wr2 : IntKind.i64.wrap ((m2 : Int) + (x1 : Int)) = (r2 : Int) := by rw [show (m2 : Int) + (x1 : Int) = (r2 : Int) by omega]; exact iwrap (by omega) (by omega)
        have wq2 : IntKind.i64.wrap ((r2 : Int) + (dn : Int)) = (q2 : Int) := by rw [show (r2 : Int) + (dn : Int) = (q2 : Int) by omega]; exact iwrap (by omega) (by omega)
        have wxm : IntKind.i64.wrap (xm : Int) = (xm : Int) := iwrap (by omega) (by omega)
        have wym : IntKind.i64.wrap (ym : Int) = (ym : Int) := iwrap (by omega) (by omega)
        have jq1 : (q1 : Int) < (n : Int) := by omega
        have jq2 : (q2 : Int) < (n : Int) := by omega
        obtain ⟨cnt, hcnt⟩ : ∃ cnt, Lp.getD i 0 = cnt := ⟨_, rfl⟩
        have HCn := hideR hcnt
        rw [hcnt] at xc HA1 HB1
        have hW0 : (w0 : Int) ≠ 0 := by omega
        have hW0' : w0 ≠ 0 := by omega
        obtain ⟨xa0, xa1, xa⟩ := pic_three (unhideR HT).sa
        clear hym hxm hx1 hy1 hm1' hq1' hy2 hm2' hr2 hq2' hcnt hy0 hx0 HPa HPb
        go_wp2_with fail
        refine wp_region_made 0 #[true, true, true, true, true, true, true, true, true, true, true, true, true, true, true, false] [.lets (· = .pointer (some ⟨KB + 1, 2, none⟩)),
          .lets (· = .slice (some ⟨KB, 0, none⟩) n n),
          .lets (· = .int .i64 (y1 : Nat)),
          .lets (· = .int .i64 (W : Nat)),
          .lets (· = .int .i64 (m1 : Nat)),
          .lets (· = .int .i64 (x1 : Nat)),
          .lets (· = .int .i64 (q1 : Nat)),
          .lets (· = .pointer (some ⟨b, o, none⟩)),
          .lets (· = .pointer (some ⟨b, o, none⟩)),
          .lets (· = .pointer (some ⟨b, o + 2, none⟩)),
          .lets (· = .slice (some ⟨bl, ol, none⟩) N cap),
          .lets (· = .int .i64 (i : Nat)),
          .lets (· = .pointer (some ⟨bl, ol + i, none⟩)),
          .lets (· = .int .i64 cnt),
          .lets (· = .pointer (some ⟨KB, q1, none⟩))] [] [] (by kernel_rfl) (by kernel_rfl) rfl ?kinds (by kernel_rfl) (by kernel_rfl) (by kernel_rfl) ?_
        case kinds =>
          constructor
          · intro i h
            rcases i with _ | _ | _ | _ | _ | _ | _ | _ | _ | _ | _ | _ | _ | _ | _ | i <;> simp [Kx.isMade] at h
          · intro i h
            rcases i with _ | _ | _ | _ | _ | _ | _ | _ | _ | _ | _ | _ | _ | _ | _ | i <;> simp [Kx.isUse] at h
        refine lexX_step (fun K hK => ⟨by kernel_rfl, ⟨_, rfl⟩, fun v hv => ?_, fun v hv => ?_⟩)
        · go_simp
          exact mUpon_b
        subst hv
        go_simp
        refine hK _ ?_
        clear hK K
        refine lexX_step (fun K hK => ⟨by kernel_rfl, ⟨_, rfl⟩, fun v hv => ?_, fun v hv => ?_⟩)
        · have cc := (hv.cell (p := ⟨KB + 1, 2, none⟩) (lt_of_cell xa)).trans xa
          go_simp
          exact mUpon_b
        subst hv
        go_simp
        refine hK _ ?_
        clear hK K
        refine lexX_step (fun K hK => ⟨by kernel_rfl, ⟨_, rfl⟩, fun v hv => ?_, fun v hv => ?_⟩)
        · go_simp
          exact mUpon_b
        subst hv
        go_simp
        refine hK _ ?_
        clear hK K
        refine lexX_step (fun K hK => ⟨by kernel_rfl, ⟨_, rfl⟩, fun v hv => ?_, fun v hv => ?_⟩)
        · go_simp
          exact mUpon_b
        subst hv
        go_simp
        refine hK _ ?_
        clear hK K
        refine lexX_step (fun K hK => ⟨by kernel_rfl, ⟨_, rfl⟩, fun v hv => ?_, fun v hv => ?_⟩)
        · go_simp
          exact mUpon_b
        subst hv
        go_simp
        refine hK _ ?_
        clear hK K
        refine lexX_step (fun K hK => ⟨by kernel_rfl, ⟨_, rfl⟩, fun v hv => ?_, fun v hv => ?_⟩)
        · go_simp
          exact mUpon_b
        subst hv
        go_simp
        refine hK _ ?_
        clear hK K
        refine lexX_step (fun K hK => ⟨by kernel_rfl, ⟨_, rfl⟩, fun v hv => ?_, fun v hv => ?_⟩)
        · go_simp
          exact mUpon_b
        subst hv
        go_simp
        refine hK _ ?_
        clear hK K
        refine lexX_step (fun K hK => ⟨by kernel_rfl, ⟨_, rfl⟩, fun v hv => ?_, fun v hv => ?_⟩)
        · go_simp
          exact mUpon_b
        subst hv
        go_simp
        refine hK _ ?_
        clear hK K
        refine lexX_step (fun K hK => ⟨by kernel_rfl, ⟨_, rfl⟩, fun v hv => ?_, fun v hv => ?_⟩)
        · go_simp
          exact mUpon_b
        subst hv
        go_simp
        refine hK _ ?_
        clear hK K
        refine lexX_step (fun K hK => ⟨by kernel_rfl, ⟨_, rfl⟩, fun v hv => ?_, fun v hv => ?_⟩)
        · go_simp
          exact mUpon_b
        subst hv
        go_simp
        refine hK _ ?_
        clear hK K
        refine lexX_step (fun K hK => ⟨by kernel_rfl, ⟨_, rfl⟩, fun v hv => ?_, fun v hv => ?_⟩)
        · have cc := (hv.cell (p := ⟨b, o + 2, none⟩) (lt_of_cell xp)).trans xp
          go_simp
          exact mUpon_b
        subst hv
        go_simp
        refine hK _ ?_
        clear hK K
        refine lexX_step (fun K hK => ⟨by kernel_rfl, ⟨_, rfl⟩, fun v hv => ?_, fun v hv => ?_⟩)
        · go_simp
          exact mUpon_b
        subst hv
        go_simp
        refine hK _ ?_
        clear hK K
        refine lexX_step (fun K hK => ⟨by kernel_rfl, ⟨_, rfl⟩, fun v hv => ?_, fun v hv => ?_⟩)
        · go_simp
          exact mUpon_b
        subst hv
        go_simp
        refine hK _ ?_
        clear hK K
        refine lexX_step (fun K hK => ⟨by kernel_rfl, ⟨_, rfl⟩, fun v hv => ?_, fun v hv => ?_⟩)
        · have cc := (hv.cell (p := ⟨bl, ol + i, none⟩) (lt_of_cell xc)).trans xc
          go_simp
          exact mUpon_b
        subst hv
        go_simp
        refine hK _ ?_
        clear hK K
        refine lexX_step (fun K hK => ⟨by kernel_rfl, ⟨_, rfl⟩, fun v hv => ?_, fun v hv => ?_⟩)
        · go_simp
          exact mUpon_b
        subst hv
        go_simp
        refine hK _ ?_
        clear hK K
        refine lexX_end (fun v5 hv => ?_)
        have K6 := hv.low
        clear hv
        have HS5 := hideR ((unhideR HT).go K6)
        obtain ⟨xo, fo⟩ := (unhideR HS5).own1.has (unhideR HS5).len1 hq1
        generalize A.getD q1 0 = xold at xo
        refine wpAny_step (i := 15) (by kernel_rfl) rfl (by kernel_rfl) (fun K hK => ?_)
        unfold Oper.wp
        go_simp
        refine hK _ _ ?_
        clear hK K
        refine wpAny_end (by kernel_rfl) ?_
        have HS6 := hideR ((unhideR HS5).put1 q1 cnt)
        generalize v5.setCell ⟨KB, q1, none⟩ (.int .i64 cnt) = v6 at HS6 ⊢
        have bel6 : Below w2.heap.size w2 v6 := by rw [unhideR HKK]; exact (unhideR HS6).bel
        obtain ⟨xw6, xh6, xp6⟩ := unhideR HC v6 bel6
        have xc6 := unhideR HRow v6 bel6 i hi
        rw [unhideR HCn] at xc6
        obtain ⟨xb0, xb1, xb⟩ := pic_three (unhideR HS6).sb
        clear HT HS5 xo fo xa0 xa1 xa xw xh xp xc bel
        go_wp2_with fail
        refine wp_region_made 0 #[true, true, true, true, true, true, true, true, true, true, true, true, true, true, true, true, true, true, true, false] [.lets (· = .pointer (some ⟨KB + 3, 2, none⟩)),
          .lets (· = .slice (some ⟨KB + 2, 0, none⟩) n n),
          .lets (· = .int .i64 (y1 : Nat)),
          .lets (· = .int .i64 (en : Nat)),
          .lets (· = .int .i64 (y2 : Nat)),
          .lets (· = .int .i64 (W : Nat)),
          .lets (· = .int .i64 (m2 : Nat)),
          .lets (· = .int .i64 (x1 : Nat)),
          .lets (· = .int .i64 (r2 : Nat)),
          .lets (· = .int .i64 (dn : Nat)),
          .lets (· = .int .i64 (q2 : Nat)),
          .lets (· = .pointer (some ⟨b, o, none⟩)),
          .lets (· = .pointer (some ⟨b, o, none⟩)),
          .lets (· = .pointer (some ⟨b, o + 2, none⟩)),
          .lets (· = .slice (some ⟨bl, ol, none⟩) N cap),
          .lets (· = .int .i64 (i : Nat)),
          .lets (· = .pointer (some ⟨bl, ol + i, none⟩)),
          .lets (· = .int .i64 cnt),
          .lets (· = .pointer (some ⟨KB + 2, q2, none⟩))] [] [] (by kernel_rfl) (by kernel_rfl) rfl ?kinds (by kernel_rfl) (by kernel_rfl) (by kernel_rfl) ?_
        case kinds =>
          constructor
          · intro i h
            rcases i with _ | _ | _ | _ | _ | _ | _ | _ | _ | _ | _ | _ | _ | _ | _ | _ | _ | _ | _ | i <;> simp [Kx.isMade] at h
          · intro i h
            rcases i with _ | _ | _ | _ | _ | _ | _ | _ | _ | _ | _ | _ | _ | _ | _ | _ | _ | _ | _ | i <;> simp [Kx.isUse] at h
        refine lexX_step (fun K hK => ⟨by kernel_rfl, ⟨_, rfl⟩, fun v hv => ?_, fun v hv => ?_⟩)
        · go_simp
          exact mUpon_b
        subst hv
        go_simp
        refine hK _ ?_
        clear hK K
        refine lexX_step (fun K hK => ⟨by kernel_rfl, ⟨_, rfl⟩, fun v hv => ?_, fun v hv => ?_⟩)
        · have cc := (hv.cell (p := ⟨KB + 3, 2, none⟩) (lt_of_cell xb)).trans xb
          go_simp
          exact mUpon_b
        subst hv
        go_simp
        refine hK _ ?_
        clear hK K
        refine lexX_step (fun K hK => ⟨by kernel_rfl, ⟨_, rfl⟩, fun v hv => ?_, fun v hv => ?_⟩)
        · go_simp
          exact mUpon_b
        subst hv
        go_simp
        refine hK _ ?_
        clear hK K
        refine lexX_step (fun K hK => ⟨by kernel_rfl, ⟨_, rfl⟩, fun v hv => ?_, fun v hv => ?_⟩)
        · go_simp
          exact mUpon_b
        subst hv
        go_simp
        refine hK _ ?_
        clear hK K
        refine lexX_step (fun K hK => ⟨by kernel_rfl, ⟨_, rfl⟩, fun v hv => ?_, fun v hv => ?_⟩)
        · go_simp
          exact mUpon_b
        subst hv
        go_simp
        refine hK _ ?_
        clear hK K
        refine lexX_step (fun K hK => ⟨by kernel_rfl, ⟨_, rfl⟩, fun v hv => ?_, fun v hv => ?_⟩)
        · go_simp
          exact mUpon_b
        subst hv
        go_simp
        refine hK _ ?_
        clear hK K
        refine lexX_step (fun K hK => ⟨by kernel_rfl, ⟨_, rfl⟩, fun v hv => ?_, fun v hv => ?_⟩)
        · go_simp
          exact mUpon_b
        subst hv
        go_simp
        refine hK _ ?_
        clear hK K
        refine lexX_step (fun K hK => ⟨by kernel_rfl, ⟨_, rfl⟩, fun v hv => ?_, fun v hv => ?_⟩)
        · go_simp
          exact mUpon_b
        subst hv
        go_simp
        refine hK _ ?_
        clear hK K
        refine lexX_step (fun K hK => ⟨by kernel_rfl, ⟨_, rfl⟩, fun v hv => ?_, fun v hv => ?_⟩)
        · go_simp
          exact mUpon_b
        subst hv
        go_simp
        refine hK _ ?_
        clear hK K
        refine lexX_step (fun K hK => ⟨by kernel_rfl, ⟨_, rfl⟩, fun v hv => ?_, fun v hv => ?_⟩)
        · go_simp
          exact mUpon_b
        subst hv
        go_simp
        refine hK _ ?_
        clear hK K
        refine lexX_step (fun K hK => ⟨by kernel_rfl, ⟨_, rfl⟩, fun v hv => ?_, fun v hv => ?_⟩)
        · go_simp
          exact mUpon_b
        subst hv
        go_simp
        refine hK _ ?_
        clear hK K
        refine lexX_step (fun K hK => ⟨by kernel_rfl, ⟨_, rfl⟩, fun v hv => ?_, fun v hv => ?_⟩)
        · go_simp
          exact mUpon_b
        subst hv
        go_simp
        refine hK _ ?_
        clear hK K
        refine lexX_step (fun K hK => ⟨by kernel_rfl, ⟨_, rfl⟩, fun v hv => ?_, fun v hv => ?_⟩)
        · go_simp
          exact mUpon_b
        subst hv
        go_simp
        refine hK _ ?_
        clear hK K
        refine lexX_step (fun K hK => ⟨by kernel_rfl, ⟨_, rfl⟩, fun v hv => ?_, fun v hv => ?_⟩)
        · go_simp
          exact mUpon_b
        subst hv
        go_simp
        refine hK _ ?_
        clear hK K
        refine lexX_step (fun K hK => ⟨by kernel_rfl, ⟨_, rfl⟩, fun v hv => ?_, fun v hv => ?_⟩)
        · have cc := (hv.cell (p := ⟨b, o + 2, none⟩) (lt_of_cell xp6)).trans xp6
          go_simp
          exact mUpon_b
        subst hv
        go_simp
        refine hK _ ?_
        clear hK K
        refine lexX_step (fun K hK => ⟨by kernel_rfl, ⟨_, rfl⟩, fun v hv => ?_, fun v hv => ?_⟩)
        · go_simp
          exact mUpon_b
        subst hv
        go_simp
        refine hK _ ?_
        clear hK K
        refine lexX_step (fun K hK => ⟨by kernel_rfl, ⟨_, rfl⟩, fun v hv => ?_, fun v hv => ?_⟩)
        · go_simp
          exact mUpon_b
        subst hv
        go_simp
        refine hK _ ?_
        clear hK K
        refine lexX_step (fun K hK => ⟨by kernel_rfl, ⟨_, rfl⟩, fun v hv => ?_, fun v hv => ?_⟩)
        · have cc := (hv.cell (p := ⟨bl, ol + i, none⟩) (lt_of_cell xc6)).trans xc6
          go_simp
          exact mUpon_b
        subst hv
        go_simp
        refine hK _ ?_
        clear hK K
        refine lexX_step (fun K hK => ⟨by kernel_rfl, ⟨_, rfl⟩, fun v hv => ?_, fun v hv => ?_⟩)
        · go_simp
          exact mUpon_b
        subst hv
        go_simp
        refine hK _ ?_
        clear hK K
        refine lexX_end (fun v8 hv => ?_)
        have K8 := hv.low
        clear hv
        have HS8 := hideR ((unhideR HS6).go K8)
        obtain ⟨xo, fo⟩ := (unhideR HS8).own2.has (unhideR HS8).len2 hq2
        generalize B.getD q2 0 = xold at xo
        refine wpAny_step (i := 19) (by kernel_rfl) rfl (by kernel_rfl) (fun K hK => ?_)
        unfold Oper.wp
        go_simp
        refine hK _ _ ?_
        clear hK K
        refine wpAny_end (by kernel_rfl) ?_
        have HS9 := hideR ((unhideR HS8).put2 q2 cnt)
        generalize v8.setCell ⟨KB + 2, q2, none⟩ (.int .i64 cnt) = v9 at HS9 ⊢
        clear HS6 HS8 xo fo xb0 xb1 xb xw6 xh6 xp6 xc6 bel6
        go_wp2
        exact ⟨⟨i + 1, _, _, by omega, by go_num, HS9, hideR HA1, hideR HB1⟩, by simp [intOf]; omega⟩
      · obtain rfl : N = i := by omega
        have tin : decide (N < N) = false := decide_eq_false hi
        have hPa := unhideR HPad 1 1 A (unhideR HPa)
        have hPb := unhideR HPad (1 + dn) (1 + en) B (unhideR HPb)
        obtain ⟨pa, pb⟩ := unhideR HFin A B hPa hPb
        have HB3 := hideR (below_go (unhideR HB2) bel)
        have hpca : PicC wr (.agg #[.int .i64 (W : Nat), .int .i64 (H : Nat), .slice (some ⟨KB, 0, none⟩) n n]) ⟨(W : Nat), (H : Nat), A⟩ := ⟨_, n, by rw [show (Pic.mk (W : Nat) (H : Nat) A).L.length = n from (unhideR HT).len1], (unhideR HT).own1.row, by rw [show (Pic.mk (W : Nat) (H : Nat) A).L.length = n from (unhideR HT).len1]; omega, by rw [show (Pic.mk (W : Nat) (H : Nat) A).L.length = n from (unhideR HT).len1]; exact Nat.le_refl _, by omega⟩
        have hpcb : PicC wr (.agg #[.int .i64 (W : Nat), .int .i64 (H : Nat), .slice (some ⟨KB + 2, 0, none⟩) n n]) ⟨(W : Nat), (H : Nat), B⟩ := ⟨_, n, by rw [show (Pic.mk (W : Nat) (H : Nat) B).L.length = n from (unhideR HT).len2], (unhideR HT).own2.row, by rw [show (Pic.mk (W : Nat) (H : Nat) B).L.length = n from (unhideR HT).len2]; omega, by rw [show (Pic.mk (W : Nat) (H : Nat) B).L.length = n from (unhideR HT).len2]; exact Nat.le_refl _, by omega⟩
        have hf1 := find_any (unhideR HS wr (unhideR HB3)) hpca 256 over 1
        have HPcb := hideR hpcb
        have HSb := hideR (unhideR HT).sb
        obtain ⟨z0, z1, z2⟩ := pic_three (unhideR HT).sa
        have HSt' : HeldR (∀ X Y : List Sta, (fndE ⟨(W : Nat), (H : Nat), A⟩ 256 over 1 = 0 → ∃ lab parts, IsLabels (litV ⟨(W : Nat), (H : Nat), A⟩ (256 : Int).toNat over) (Pic.mk (W : Nat) (H : Nat) A).wide.toNat lab parts ∧ X = (spotsV lab (overV ⟨(W : Nat), (H : Nat), A⟩ (256 : Int).toNat) (Pic.mk (W : Nat) (H : Nat) A).wide.toNat (Pic.mk (W : Nat) (H : Nat) A).high.toNat 1 parts).map starOf) → (fndE ⟨(W : Nat), (H : Nat), B⟩ 256 over 1 = 0 → ∃ lab parts, IsLabels (litV ⟨(W : Nat), (H : Nat), B⟩ (256 : Int).toNat over) (Pic.mk (W : Nat) (H : Nat) B).wide.toNat lab parts ∧ Y = (spotsV lab (overV ⟨(W : Nat), (H : Nat), B⟩ (256 : Int).toNat) (Pic.mk (W : Nat) (H : Nat) B).wide.toNat (Pic.mk (W : Nat) (H : Nat) B).high.toNat 1 parts).map starOf) → Y = X.map (mvQ dn en) ∧ (∀ s ∈ X, StB s) ∧ X.length ≤ 65536) := hideR (fun X Y h1 h2 => by
          obtain ⟨l1, p1, i1, e1⟩ := h1 (pa.fnd b5)
          obtain ⟨l2, p2, i2, e2⟩ := h2 (pb.fnd b5)
          have q := unhideR HSt A B l1 l2 p1 p2 hPa hPb i1 i2
          refine ⟨?_, ?_, ?_⟩
          · rw [e1, e2]; exact q.1
          · rw [e1]; exact q.2
          · rw [e1, List.length_map]
            refine Nat.le_trans (spots_many _ _ _ _ _ _) (Nat.le_trans (parts_le i1) ?_)
            rw [lit_len]
            show H * W ≤ 65536
            rw [unhideR HN]
            omega)
        have hE1 := pa.fnd b5
        have hE2 := pb.fnd b5
        clear HT HPa HPb hPa hPb pa pb hpca hpcb bel xw xh HPad HPut HFin HSt HIx HRow HC HEa wW wH wWH hi
        go_wp2_with fail
        refine hf1.mono ?_
        rintro e w3 ⟨v3, X, er, rfl, her, hX, _, hX1, k3⟩
        rw [hE1] at her
        obtain rfl := errIs_0 her
        obtain ⟨a3, cp3, rfl, hXc⟩ := hX.cut
        have HB4 := hideR (below_go (unhideR HB3) k3)
        have hf2 := find_any (unhideR HS w3 (unhideR HB4)) ((unhideR HPcb).below k3) 256 over 1
        obtain ⟨y0, y1, y2⟩ := pic_three (keepB (unhideR HSb) k3)
        have HX1 := hideR hX1
        have HXc := hideR hXc
        clear hf1 her hX hX1 hXc z0 z1 z2 xp HPcb HSb HB3 k3
        go_wp2_with fail
        refine hf2.mono ?_
        rintro e w4 ⟨v4, Y, er, rfl, her, hY, _, hY1, k4⟩
        rw [hE2] at her
        obtain rfl := errIs_0 her
        obtain ⟨a4, cp4, rfl, hYc⟩ := hY.cut
        have HB5 := hideR (below_go (unhideR HB4) k4)
        obtain ⟨hYe, hSB, hXl⟩ := unhideR HSt' X Y (unhideR HX1) hY1
        have HX5 := hideR ((unhideR HXc).below k4)
        have HY5 := hideR hYc
        have HSB := hideR hSB
        obtain ⟨m, hm⟩ : ∃ m, X.length = m := ⟨_, rfl⟩
        have hm2 : Y.length = m := by rw [hYe, List.length_map, hm]
        have HYg : HeldR (∀ k, k < m → Y.getD k sx0 = mvQ dn en (X.getD k sx0) ∧ StB (X.getD k sx0)) := hideR (fun k hk => by
          have hk' : k < X.length := by rw [hm]; exact hk
          have eX : X.getD k sx0 = X[k] := by simp [List.getD, List.getElem?_eq_getElem hk']
          refine ⟨?_, ?_⟩
          · rw [hYe, eX]
            simp [List.getD, hk']
          · rw [eX]; exact hSB _ (List.getElem_mem hk'))
        have HM := hideR hm
        have HM2 := hideR hm2
        rw [hm] at hXl ⊢
        rw [hm2]
        have t0 : ((m : Int) != (m : Int)) = false := by simp
        clear hf2 her hY hY1 hYc y0 y1 y2 HB4 k4 HSt' HX1 HXc hYe hSB hm hm2 hE1 hE2 HSB
        go_wp2
        go_loopw [22] (fun kv wl => ∃ k : Nat, k ≤ m ∧ kv = .int .i64 (k : Nat) ∧ HeldR (Below w4.heap.size w4 wl)) (fun kv _ => m + 1 - (intOf kv).toNat)
        case atStart => exact ⟨0, by omega, rfl, hideR (Below.refl _ _)⟩
        case round =>
          obtain ⟨k, hk, rfl, HW⟩ := hrel
          by_cases hlt : k < m
          · obtain ⟨b1', o1, rfl, hb1, x1⟩ := ((unhideR HX5).below (unhideR HW)).at_ k (by rw [unhideR HM]; exact hlt)
            obtain ⟨b2', o2, rfl, hb2, x2⟩ := ((unhideR HY5).below (unhideR HW)).at_ k (by rw [unhideR HM2]; exact hlt)
            obtain ⟨eY, sb⟩ := unhideR HYg k hlt
            rw [eY] at x2
            generalize X.getD k sx0 = s at x1 x2 sb
            obtain ⟨tl, htl⟩ : ∃ tl, s.le + (dn : Int) = tl := ⟨_, rfl⟩
            obtain ⟨tt, htt⟩ : ∃ tt, s.tp + (en : Int) = tt := ⟨_, rfl⟩
            obtain ⟨D, hD⟩ : ∃ D, 1024 * (dn : Int) = D := ⟨_, rfl⟩
            obtain ⟨E, hE⟩ : ∃ E, 1024 * (en : Int) = E := ⟨_, rfl⟩
            obtain ⟨tx, htx⟩ : ∃ tx, s.x + D = tx := ⟨_, rfl⟩
            obtain ⟨ty, hty⟩ : ∃ ty, s.y + E = ty := ⟨_, rfl⟩
            have x2' : SxAt wr b2' (o2 + k * 9) ⟨tl, tt, s.ri + dn, s.lo + en, s.px, s.li, tx, ty, s.lt⟩ := by
              have e : mvQ dn en s = ⟨tl, tt, s.ri + dn, s.lo + en, s.px, s.li, tx, ty, s.lt⟩ := by
                unfold mvQ
                rw [htl, htt, hD, hE, htx, hty]
              rw [← e]; exact x2
            have q1 := sb.x0
            have q2 := sb.x1
            have q3 := sb.y0
            have q4 := sb.y1
            have q5 := sb.l0
            have q6 := sb.l1
            have q7 := sb.t0
            have q8 := sb.t1
            have wl1 : IntKind.i64.wrap (s.le + (dn : Int)) = tl := by rw [htl]; exact iwrap (by omega) (by omega)
            have wt1 : IntKind.i64.wrap (s.tp + (en : Int)) = tt := by rw [htt]; exact iwrap (by omega) (by omega)
            have wD : IntKind.i64.wrap (1024 * (dn : Int)) = D := by rw [hD]; exact iwrap (by omega) (by omega)
            have wE : IntKind.i64.wrap (1024 * (en : Int)) = E := by rw [hE]; exact iwrap (by omega) (by omega)
            have wX : IntKind.i64.wrap (s.x + D) = tx := by rw [htx]; exact iwrap (by omega) (by omega)
            have wY : IntKind.i64.wrap (s.y + E) = ty := by rw [hty]; exact iwrap (by omega) (by omega)
            have hlt9 := lt_of_cell x1.c0
            have hlt8 := lt_of_cell x2'.c0
            generalize s.ri + (dn : Int) = tr at x2'
            generalize s.lo + (en : Int) = tw at x2'
            obtain ⟨sle, stp, sri, slo, spx, sli, sx, sy, slt⟩ := s
            simp only at *
            obtain ⟨y0, y1, y2, y3, y4, y5, y6, y7, y8⟩ := x1
            simp only at y0 y1 y2 y3 y4 y5 y6 y7 y8
            have HX2 := hideR x2'
            clear x2 x2' htl htt hD hE htx hty q1 q2 q3 q4 q5 q6 q7 q8 sb eY
            go_upto_region 26 with fail
            have k5 := below_a wr (.cells #[.int .i64 sle, .int .i64 stp, .int .i64 sri, .int .i64 slo, .int .i64 spx, .int .i64 sli, .int .i64 sx, .int .i64 sy, .int .i64 slt] 37)
            have hG := alloc_last wr (.cells #[.int .i64 sle, .int .i64 stp, .int .i64 sri, .int .i64 slo, .int .i64 spx, .int .i64 sli, .int .i64 sx, .int .i64 sy, .int .i64 slt] 37)
            generalize wr.alloc (.cells #[.int .i64 sle, .int .i64 stp, .int .i64 sri, .int .i64 slo, .int .i64 spx, .int .i64 sli, .int .i64 sx, .int .i64 sy, .int .i64 slt] 37) = v5 at k5 hG ⊢
            obtain ⟨z0, z1, z2, z3, z4, z5, z6, z7, z8⟩ := (unhideR HX2).below k5 hlt8
            simp only at z0 z1 z2 z3 z4 z5 z6 z7 z8
            have HW5 := hideR (below_go (unhideR HW) k5)
            have HG5 := hideR hG
            clear y0 y1 y2 y3 y4 y5 y6 y7 y8 k5 hG HX2 HW
            obtain ⟨G, hGe⟩ : ∃ G, wr.heap.size = G := ⟨_, rfl⟩
            rw [hGe] at HG5 ⊢
            clear hGe
            go_upto_region 27 with fail
            have k6 := below_a v5 (.cells #[.int .i64 tl, .int .i64 tt, .int .i64 tr, .int .i64 tw, .int .i64 spx, .int .i64 sli, .int .i64 tx, .int .i64 ty, .int .i64 slt] 37)
            have g2 := alloc_last v5 (.cells #[.int .i64 tl, .int .i64 tt, .int .i64 tr, .int .i64 tw, .int .i64 spx, .int .i64 sli, .int .i64 tx, .int .i64 ty, .int .i64 slt] 37)
            have g1 := keepB (unhideR HG5) k6
            have HW6 := hideR (below_go (unhideR HW5) k6)
            generalize v5.alloc (.cells #[.int .i64 tl, .int .i64 tt, .int .i64 tr, .int .i64 tw, .int .i64 spx, .int .i64 sli, .int .i64 tx, .int .i64 ty, .int .i64 slt] 37) = v6 at g1 g2 HW6 ⊢
            obtain ⟨G2, hGe⟩ : ∃ G, v5.heap.size = G := ⟨_, rfl⟩
            rw [hGe] at g2 ⊢
            have a1 := nine_at9 (x := ⟨sle, stp, sri, slo, spx, sli, sx, sy, slt⟩) g1
            have a2 := nine_at9 (x := ⟨tl, tt, tr, tw, spx, sli, tx, ty, slt⟩) g2
            have s0 : v6.cell? ⟨G, 0, none⟩ = some (.int .i64 sle) := a1.c0
            have s1 : v6.cell? ⟨G, 1, none⟩ = some (.int .i64 stp) := a1.c1
            have s2 : v6.cell? ⟨G, 2, none⟩ = some (.int .i64 sri) := a1.c2
            have s3 : v6.cell? ⟨G, 3, none⟩ = some (.int .i64 slo) := a1.c3
            have s4 : v6.cell? ⟨G, 4, none⟩ = some (.int .i64 spx) := a1.c4
            have s5 : v6.cell? ⟨G, 5, none⟩ = some (.int .i64 sli) := a1.c5
            have s6 : v6.cell? ⟨G, 6, none⟩ = some (.int .i64 sx) := a1.c6
            have s7 : v6.cell? ⟨G, 7, none⟩ = some (.int .i64 sy) := a1.c7
            have s8 : v6.cell? ⟨G, 8, none⟩ = some (.int .i64 slt) := a1.c8
            have r0 : v6.cell? ⟨G2, 0, none⟩ = some (.int .i64 tl) := a2.c0
            have r1 : v6.cell? ⟨G2, 1, none⟩ = some (.int .i64 tt) := a2.c1
            have r2 : v6.cell? ⟨G2, 2, none⟩ = some (.int .i64 tr) := a2.c2
            have r3 : v6.cell? ⟨G2, 3, none⟩ = some (.int .i64 tw) := a2.c3
            have r4 : v6.cell? ⟨G2, 4, none⟩ = some (.int .i64 spx) := a2.c4
            have r5 : v6.cell? ⟨G2, 5, none⟩ = some (.int .i64 sli) := a2.c5
            have r6 : v6.cell? ⟨G2, 6, none⟩ = some (.int .i64 tx) := a2.c6
            have r7 : v6.cell? ⟨G2, 7, none⟩ = some (.int .i64 ty) := a2.c7
            have r8 : v6.cell? ⟨G2, 8, none⟩ = some (.int .i64 slt) := a2.c8
            have u1 : (spx != spx) = false := by simp
            have u2 : (tl != tl) = false := by simp
            have u3 : (tt != tt) = false := by simp
            have u4 : (tx == tx) = true := by simp
            have u5 : (ty == ty) = true := by simp
            have u6 : (sli == sli) = true := by simp
            clear z0 z1 z2 z3 z4 z5 z6 z7 z8 a1 a2 g1 g2 k6 hGe HG5 HW5
            go_wp2
            exact ⟨⟨k + 1, by omega, by go_num, HW6⟩, by simp [intOf]; omega⟩
          · obtain rfl : k = m := by omega
            go_wp2
            go_ret
            exact ⟨rfl, below_go (unhideR HB5) (unhideR HW)⟩
end Go.Proofs.YtgmaganajfcpbajDoor
