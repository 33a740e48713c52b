/-
  The law of the ground: its walk.
-/
import Derived.Test.YtgmaganajfcpbaiDoorDXC
import Derived.Test.YtgmaganajfcpbaiDoorDX8
import Derived.Test.YtgmaganajfcpbaiDoorFrSm
import Derived.Test.YtgmaganajfcpbaiDoorSpArg2
import Derived.Test.YtgmaganajfcpbaiDoorEr2S
import Derived.Test.YtgmaganajfcpbaiDoorFrLwA
import Derived.Test.YtgmaganajfcpbaiDoorSpOv
namespace Go.Proofs.YtgmaganajfcpbaiDoor
open Go Go.RowKit

def GwPost (w : World) (e : Ending) (w' : World) : Prop := e = .returned (.bool true) ∧ Below w.heap.size w w'
set_option maxRecDepth 100000 in
set_option maxHeartbeats 3200000 in
theorem ground_walk {a : Nat → Addr} {w : World} {v : Value} {op : Option Pic} (hS : Sents w a) (hA : PicArg2 w v op) (tile over : Int) : Calls Tryd.prog 4 #[v, .int .i64 tile, .int .i64 over] w (GwPost w) := by
  have hsp := spotted_any hS.er2
  have HS : HeldR (∀ u, Below w.heap.size w u → Sents u a) := hideR (fun u k => hS.below k (Nat.le_refl _))
  have HA : HeldR (∀ u, Below w.heap.size w u → PicArg2 u v op) := hideR (fun u k => hA.below k)
  clear hS hA
  go_enter Tryd.func4, Tryd.ntmps4
  go_wp2_with fail
  refine hsp.mono ?_
  rintro e w1 ⟨rfl, k1⟩
  have hsm := small_any (unhideR HA w1 k1).arg
  have HB1 := hideR k1
  clear hsp k1
  go_wp2_with fail
  refine hsm.mono ?_
  rintro e w1' ⟨q, rfl, hq, rfl⟩
  clear hsm
  cases q with
  | false =>
    clear hq
    go_wp2
    go_ret
    exact ⟨rfl, unhideR HB1⟩
  | true =>
    obtain ⟨p, rfl, hfew⟩ := hq rfl
    obtain ⟨b, o, cap, ad, rfl, hp1, hl, hpc1⟩ := picArg2_is (unhideR HA w1 (unhideR HB1))
    have hgd := ground_any (unhideR HS w1 (unhideR HB1)).er2 hpc1 tile
    have HP1 := hideR hp1
    have HC1 := hideR hpc1
    obtain ⟨hlt, c0, c1, c2, _⟩ := hp1
    clear hq hpc1
    go_wp2_with fail
    refine hgd.mono ?_
    rintro e w2 ⟨X, a2, cp2, er, rfl, her, hX1, hX0, hXc, k2⟩
    have hgo := groundOf_any ((unhideR HP1).below k2) hl tile
    have HB2 := hideR (below_go (unhideR HB1) k2)
    have HP2 := hideR ((unhideR HP1).below k2)
    have HC2 := hideR ((unhideR HC1).below k2)
    have HXc := hideR hXc
    have HEr := hideR her
    clear hgd k2 c0 c1 c2 HP1 HC1 HB1 hXc her
    go_wp2_with fail
    refine hgo.mono ?_
    rintro e w3 ⟨Y, a3, cp3, rfl, hY1, hY0, hYc, k3⟩
    obtain rfl : X = Y := by
      by_cases e0 : groundE p tile = 0
      · rw [hX1 e0, hY1 e0]
      · rw [hX0 e0, hY0 e0]
    have hXl : X.length ≤ 9223372036854775806 := by
      by_cases e0 : groundE p tile = 0
      · have hok := (litE_ok (o := 0) (by unfold litE; rw [if_neg (by simpa using e0), if_neg (by omega)])).1
        rw [hX1 e0]
        have h1 := hok.w2
        have h2 := hok.h2
        unfold groundV
        rw [gRows_len]
        have a1 : cdiv p.high.toNat tile.toNat ≤ 1000 := by
          unfold cdiv
          have := Nat.div_le_self (p.high.toNat + tile.toNat - 1) tile.toNat
          have h3 : tile ≤ 256 := (litE_ok (o := 0) (by unfold litE; rw [if_neg (by simpa using e0), if_neg (by omega)])).2.2.1
          omega
        have a2 : cdiv p.wide.toNat tile.toNat ≤ 1000 := by
          unfold cdiv
          have := Nat.div_le_self (p.wide.toNat + tile.toNat - 1) tile.toNat
          have h3 : tile ≤ 256 := (litE_ok (o := 0) (by unfold litE; rw [if_neg (by simpa using e0), if_neg (by omega)])).2.2.1
          omega
        have := Nat.mul_le_mul a1 a2
        omega
      · rw [hX0 e0]; simp
    have k3' := below_go (unhideR HB2) k3
    have hcd := coded_err (unhideR HS w3 k3') (unhideR HEr)
    have HX3 := hideR ((unhideR HXc).below k3)
    have HY3 := hideR hYc
    have HP3 := hideR ((unhideR HP2).below k3)
    have HC3 := hideR ((unhideR HC2).below k3)
    have HB3 := hideR k3'
    clear hgo k3 k3' hYc hX1 hX0 hY1 hY0 HB2 HP2 HC2 HXc HEr
    go_wp2_with fail
    refine hcd.mono ?_
    rintro e w4 ⟨rfl, k4⟩
    have hsi := sameInts_any (c1 := cp2) (c2 := cp3) ((unhideR HX3).below k4) ((unhideR HY3).below k4) hXl
    have HB4 := hideR (below_go (unhideR HB3) k4)
    have HP4 := hideR ((unhideR HP3).below k4)
    have HC4 := hideR ((unhideR HC3).below k4)
    clear hcd k4 HB3 HP3 HC3 HX3 HY3
    go_wp2_with fail
    refine hsi.mono ?_
    rintro e w5 ⟨rfl, k5⟩
    have HB5 := hideR (below_go (unhideR HB4) k5)
    have HP5 := hideR ((unhideR HP4).below k5)
    have hlt5 := lit_any (unhideR HS w5 (unhideR HB5)).er2 ((unhideR HC4).below k5) tile over
    obtain ⟨_, c0, c1, c2, _⟩ := unhideR HP5
    clear hsi k5 HB4 HP4 HC4
    go_wp2_with fail
    refine hlt5.mono ?_
    rintro e w6 ⟨C, a6, cp6, er6, rfl, her6, hC1, hC0, hCc, k6⟩
    have HB6 := hideR (below_go (unhideR HB5) k6)
    have HP6 := hideR ((unhideR HP5).below k6)
    have hLE : litE p tile over = if groundE p tile ≠ 0 then groundE p tile else if over < 0 then 5 else 0 := rfl
    have hcd6 := coded_err (unhideR HS w6 (unhideR HB6)) her6
    have HCc := hideR hCc
    have hrg : 0 ≤ groundE p tile := by
      unfold groundE
      have := picE_range p
      split
      · omega
      · split <;> omega
    clear hlt5 k6 HB5 HP5 c0 c1 c2 her6 hCc
    by_cases e0 : groundE p tile = 0
    · rw [if_neg (by simpa using e0)] at hLE
      by_cases e1 : over < 0
      · rw [if_pos e1] at hLE
        rw [hLE] at hcd6 hC0
        obtain rfl := hC0 (by decide)
        have t1 : decide (over < 0) = true := decide_eq_true e1
        rw [e0]
        clear hC1 hC0 hLE hrg
        go_wp2_with fail
        refine hcd6.mono ?_
        rintro e w7 ⟨rfl, k7⟩
        have HB7 := hideR (below_go (unhideR HB6) k7)
        clear hcd6 k7
        go_wp2
        go_ret
        exact ⟨rfl, unhideR HB7⟩
      · rw [if_neg e1] at hLE
        rw [hLE] at hcd6
        obtain rfl := hC1 hLE
        obtain ⟨hok, ht1, ht2, ho⟩ := litE_ok hLE
        have t1 : decide (over < 0) = false := decide_eq_false e1
        obtain ⟨t, rfl⟩ : ∃ t : Nat, tile = (t : Nat) := ⟨tile.toNat, by omega⟩
        rw [Int.toNat_natCast] at HCc ⊢
        have hn0 : (overV p t).length ≤ 65536 := by
          have h1 := hok.w2
          have h2 := hok.h2
          rw [over_len]
          exact Nat.mul_le_mul (show p.high.toNat ≤ 256 by omega) (show p.wide.toNat ≤ 256 by omega)
        have hll : (litV p t over).length = (overV p t).length := by rw [lit_len, over_len]
        have HAt : HeldR (∀ k, k < (overV p t).length → (litV p t over).getD k false = decide (over < (overV p t).getD k 0)) := hideR (fun k hk => lit_at (by rw [over_len] at hk; exact hk))
        rw [hll]
        obtain ⟨n, hn⟩ : ∃ n, (overV p t).length = n := ⟨_, rfl⟩
        have HN := hideR hn
        have HLL := hideR (hll.trans hn)
        rw [hn] at hn0 HAt ⊢
        rw [e0]
        have t0 : ((n : Int) != (n : Int)) = false := by simp
        clear hC1 hC0 hLE hrg hn hll e0 e1 hXl hfew
        go_wp2_with fail
        refine hcd6.mono ?_
        rintro e w7 ⟨rfl, k7⟩
        have HB7 := hideR (below_go (unhideR HB6) k7)
        have hov := overGround_any ((unhideR HP6).below k7) hok t (by omega) (by omega)
        have HC7 := hideR ((unhideR HCc).below k7)
        clear hcd6 k7 HP6 HCc HB6 hok
        go_wp2_with fail
        refine hov.mono ?_
        rintro e w8 ⟨a8, c8, rfl, hI8, k8⟩
        rw [unhideR HN]
        have HB8 := hideR (below_go (unhideR HB7) k8)
        have HC8 := hideR ((unhideR HC7).below k8)
        have HI8 := hideR hI8
        clear hov k8 hI8 HC7 HB7
        go_wp2
        go_loopw [18] (fun kv wl => ∃ k : Nat, k ≤ n ∧ kv = .int .i64 (k : Nat) ∧ HeldR (Below w8.heap.size w8 wl)) (fun kv _ => n + 1 - (intOf kv).toNat)
        case atStart => exact ⟨0, by omega, rfl, hideR (Below.refl _ _)⟩
        case round =>
          obtain ⟨k, hk, rfl, HW⟩ := hrel
          by_cases hlt : k < n
          · obtain ⟨b1, o1, rfl, _, x1⟩ := ((unhideR HC8).below (unhideR HW)).at_ k (by rw [unhideR HLL]; exact hlt)
            obtain ⟨b2, o2, rfl, _, x2⟩ := ((unhideR HI8).below (unhideR HW)).at_ k (by rw [unhideR HN]; exact hlt)
            rw [unhideR HAt k hlt] at x1
            generalize (overV p t).getD k 0 = x at x1 x2
            obtain ⟨d, hd⟩ : ∃ d, decide (over < x) = d := ⟨_, rfl⟩
            rw [hd] at x1
            have t2 : (d != d) = false := by simp
            go_wp2_with fail
            refine wp_region_lets [(· = .slice (some ⟨b1, o1, none⟩) n cp6),
              (· = .int .i64 (k : Nat)),
              (· = .pointer (some ⟨b1, o1 + k, none⟩)),
              (· = .bool d),
              (· = .slice (some ⟨b2, o2, none⟩) n c8),
              (· = .int .i64 (k : Nat)),
              (· = .pointer (some ⟨b2, o2 + k, none⟩)),
              (· = .int .i64 x),
              (· = .int .i64 over),
              (· = .bool d),
              (· = .bool false)] (by kernel_rfl) (by kernel_rfl) ?_
            refine lexL_step (fun K hK => ⟨by kernel_rfl, ⟨_, rfl⟩, fun n => ?_, fun v hv => ?_⟩)
            · go_simp
              exact lUpon_one
            subst hv
            go_simp
            refine hK _ ?_
            clear hK K
            refine lexL_step (fun K hK => ⟨by kernel_rfl, ⟨_, rfl⟩, fun n => ?_, fun v hv => ?_⟩)
            · go_simp
              exact lUpon_one
            subst hv
            go_simp
            refine hK _ ?_
            clear hK K
            refine lexL_step (fun K hK => ⟨by kernel_rfl, ⟨_, rfl⟩, fun n => ?_, fun v hv => ?_⟩)
            · go_simp
              exact lUpon_one
            subst hv
            go_simp
            refine hK _ ?_
            clear hK K
            refine lexL_step (fun K hK => ⟨by kernel_rfl, ⟨_, rfl⟩, fun n => ?_, fun v hv => ?_⟩)
            · go_simp
              exact lUpon_one
            subst hv
            go_simp
            refine hK _ ?_
            clear hK K
            refine lexL_step (fun K hK => ⟨by kernel_rfl, ⟨_, rfl⟩, fun n => ?_, fun v hv => ?_⟩)
            · go_simp
              exact lUpon_one
            subst hv
            go_simp
            refine hK _ ?_
            clear hK K
            refine lexL_step (fun K hK => ⟨by kernel_rfl, ⟨_, rfl⟩, fun n => ?_, fun v hv => ?_⟩)
            · go_simp
              exact lUpon_one
            subst hv
            go_simp
            refine hK _ ?_
            clear hK K
            refine lexL_step (fun K hK => ⟨by kernel_rfl, ⟨_, rfl⟩, fun n => ?_, fun v hv => ?_⟩)
            · go_simp
              exact lUpon_one
            subst hv
            go_simp
            refine hK _ ?_
            clear hK K
            refine lexL_step (fun K hK => ⟨by kernel_rfl, ⟨_, rfl⟩, fun n => ?_, fun v hv => ?_⟩)
            · go_simp
              exact lUpon_one
            subst hv
            go_simp
            refine hK _ ?_
            clear hK K
            refine lexL_step (fun K hK => ⟨by kernel_rfl, ⟨_, rfl⟩, fun n => ?_, fun v hv => ?_⟩)
            · go_simp
              exact lUpon_one
            subst hv
            go_simp
            refine hK _ ?_
            clear hK K
            refine lexL_step (fun K hK => ⟨by kernel_rfl, ⟨_, rfl⟩, fun n => ?_, fun v hv => ?_⟩)
            · go_simp
              exact lUpon_one
            subst hv
            go_simp
            refine hK _ ?_
            clear hK K
            refine lexL_step (fun K hK => ⟨by kernel_rfl, ⟨_, rfl⟩, fun n => ?_, fun v hv => ?_⟩)
            · go_simp
              exact lUpon_one
            subst hv
            go_simp
            refine hK _ ?_
            clear hK K
            refine lexL_end ?_
            intro n9
            replace HW := hideR (below_go (unhideR HW) (drawn_below wr n9))
            clear x1 x2 hd
            go_wp2
            exact ⟨⟨k + 1, by omega, by go_num, HW⟩, by simp [intOf]; omega⟩
          · obtain rfl : k = n := by omega
            go_wp2
            go_ret
            exact ⟨rfl, below_go (unhideR HB8) (unhideR HW)⟩
    · rw [if_pos e0] at hLE
      rw [hLE] at hcd6 hC0
      obtain rfl := hC0 e0
      obtain ⟨E, hEE⟩ : ∃ E, groundE p tile = E := ⟨_, rfl⟩
      rw [hEE] at hcd6 hrg e0 ⊢
      have t0 : (E == 0) = false := beq_eq_false_iff_ne.2 e0
      have t1 : decide (0 < E) = true := decide_eq_true (by omega)
      clear hC1 hC0 hLE hEE
      go_wp2_with fail
      refine hcd6.mono ?_
      rintro e w7 ⟨rfl, k7⟩
      have HB7 := hideR (below_go (unhideR HB6) k7)
      clear hcd6 k7
      go_wp2
      go_ret
      exact ⟨rfl, unhideR HB7⟩
end Go.Proofs.YtgmaganajfcpbaiDoor
