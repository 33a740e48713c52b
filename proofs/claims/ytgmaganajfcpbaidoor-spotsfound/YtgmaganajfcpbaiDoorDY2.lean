/-
  The law of all stars: its walk.
-/
import Derived.Test.YtgmaganajfcpbaiDoorDXC
import Derived.Test.YtgmaganajfcpbaiDoorFrSm
import Derived.Test.YtgmaganajfcpbaiDoorSpArg2
import Derived.Test.YtgmaganajfcpbaiDoorEr2S
import Derived.Test.YtgmaganajfcpbaiDoorSpFo
import Derived.Test.YtgmaganajfcpbaiDoorSpLw
import Derived.Test.YtgmaganajfcpbaiDoorSpNe
import Derived.Test.YtgmaganajfcpbaiDoorCodK4
import Derived.Test.YtgmaganajfcpbaiDoorSpMv
namespace Go.Proofs.YtgmaganajfcpbaiDoor
open Go Go.RowKit

theorem fnd_is (p : Pic) (t o l : Int) : fndE p t o l = findE p t o l := by
  unfold fndE findE litE
  by_cases g : groundE p t = 0
  · by_cases h : o < 0
    · simp [g, h]
    · by_cases k : l < 1 <;> simp [g, h, k]
  · simp [g]
def FwPost (w : World) (e : Ending) (w' : World) : Prop := e = .returned (.bool true) ∧ Below w.heap.size w w'
theorem same_stars {p : Pic} {t o l : Int} {X Y : List Sta} (hX0 : fndE p t o l ≠ 0 → X = []) (hX1 : fndE p t o l = 0 → ∃ lab parts, IsLabels (litV p t.toNat o) p.wide.toNat lab parts ∧ X = (spotsV lab (overV p t.toNat) p.wide.toNat p.high.toNat l parts).map starOf) (hY0 : findE p t o l ≠ 0 → Y = []) (hY1 : findE p t o l = 0 → ∃ lab parts, IsLabels (litV p t.toNat o) p.wide.toNat lab parts ∧ Y = (spotsV lab (overV p t.toNat) p.wide.toNat p.high.toNat l parts).map starOf) : X = Y ∧ X.length ≤ 65536 := by
  rw [fnd_is] at hX0 hX1
  by_cases e0 : findE p t o l = 0
  · obtain ⟨l1, n1, i1, rfl⟩ := hX1 e0
    obtain ⟨l2, n2, i2, rfl⟩ := hY1 e0
    obtain ⟨rfl, rfl⟩ := labels_one i1 i2
    refine ⟨rfl, ?_⟩
    have hg : groundE p t = 0 := by
      unfold findE at e0
      refine Decidable.byContradiction (fun q => ?_)
      rw [if_pos q] at e0
      exact q e0
    obtain ⟨hok, _, _⟩ := ground_ok hg
    have h1 := hok.w2
    have h2 := hok.h2
    rw [List.length_map]
    refine Nat.le_trans (spots_len _ _ _ _ _ _) (Nat.le_trans (parts_le i1) ?_)
    rw [lit_len]
    exact Nat.mul_le_mul (show p.high.toNat ≤ 256 by omega) (show p.wide.toNat ≤ 256 by omega)
  · rw [hX0 e0, hY0 e0]
    exact ⟨rfl, by simp⟩
set_option maxRecDepth 100000 in
set_option maxHeartbeats 3200000 in
theorem found_walk {a : Nat → Addr} {w : World} {v : Value} {op : Option Pic} (hS : Sents w a) (hA : PicArg2 w v op) (tile over least : Int) : Calls Tryd.prog 6 #[v, .int .i64 tile, .int .i64 over, .int .i64 least] w (FwPost w) := by
  have hsp := spotted_any hS.er2
  have HS : HeldR (∀ u, Below w.heap.size w u → Sents u a) := hideR (fun u k => hS.below k (Nat.le_refl _))
  have HA : HeldR (∀ u, Below w.heap.size w u → PicArg2 u v op) := hideR (fun u k => hA.below k)
  clear hS hA
  go_enter Tryd.func6, Tryd.ntmps6
  go_wp2_with fail
  refine hsp.mono ?_
  rintro e w1 ⟨rfl, k1⟩
  have hsm := small_any (unhideR HA w1 k1).arg
  have HB1 := hideR k1
  clear hsp k1
  go_wp2_with fail
  refine hsm.mono ?_
  rintro e w1' ⟨q, rfl, hq, rfl⟩
  clear hsm
  cases q with
  | false =>
    clear hq
    go_wp2
    go_ret
    exact ⟨rfl, unhideR HB1⟩
  | true =>
    obtain ⟨p, rfl, hfew⟩ := hq rfl
    obtain ⟨b, o, cap, ad, rfl, hp1, hl, hpc1⟩ := picArg2_is (unhideR HA w1 (unhideR HB1))
    have hfd := find_any (unhideR HS w1 (unhideR HB1)).er2 hpc1 tile over least
    have HP1 := hideR hp1
    obtain ⟨hlt, c0, c1, c2, _⟩ := hp1
    clear hq hpc1 hfew
    go_wp2_with fail
    refine hfd.mono ?_
    rintro e w2 ⟨v2, X, er, rfl, her, hX, hX0, hX1, k2⟩
    obtain ⟨a2, cp2, rfl, hXc⟩ := hX.cut
    have hso := spotsOf_any ((unhideR HP1).below k2) hl tile over least
    have HB2 := hideR (below_go (unhideR HB1) k2)
    have HXc := hideR hXc
    have HEr := hideR her
    have HX0 := hideR hX0
    have HX1 := hideR hX1
    clear hfd k2 c0 c1 c2 HP1 HB1 hXc her hX hX0 hX1
    go_wp2_with fail
    refine hso.mono ?_
    rintro e w3 ⟨v3, Y, rfl, hY, hY0, hY1, k3⟩
    obtain ⟨a3, cp3, rfl, hYc⟩ := hY.cut
    obtain ⟨rfl, hlen⟩ := same_stars (unhideR HX0) (unhideR HX1) hY0 hY1
    have k3' := below_go (unhideR HB2) k3
    have her := unhideR HEr
    rw [fnd_is] at her
    have hcd := coded_err (unhideR HS w3 k3') her
    have HX3 := hideR ((unhideR HXc).below k3)
    have HY3 := hideR hYc
    have HB3 := hideR k3'
    clear hso k3 k3' hYc hY hY0 hY1 HB2 HXc HEr HX0 HX1 her
    go_wp2_with fail
    refine hcd.mono ?_
    rintro e w4 ⟨rfl, k4⟩
    have HB4 := hideR (below_go (unhideR HB3) k4)
    have HX4 := hideR ((unhideR HX3).below k4)
    have HY4 := hideR ((unhideR HY3).below k4)
    obtain ⟨n, hn⟩ : ∃ n, X.length = n := ⟨_, rfl⟩
    have HN := hideR hn
    rw [hn] at hlen ⊢
    have t0 : ((n : Int) != (n : Int)) = false := by simp
    clear hcd k4 HB3 HX3 HY3 hn
    go_wp2
    go_loopw [16] (fun kv wl => ∃ k : Nat, k ≤ n ∧ kv = .int .i64 (k : Nat) ∧ HeldR (Below w4.heap.size w4 wl)) (fun kv _ => n + 1 - (intOf kv).toNat)
    case atStart => exact ⟨0, by omega, rfl, hideR (Below.refl _ _)⟩
    case round =>
      obtain ⟨k, hk, rfl, HW⟩ := hrel
      by_cases hlt : k < n
      · obtain ⟨b1, o1, rfl, hb1, x1⟩ := ((unhideR HX4).below (unhideR HW)).at_ k (by rw [unhideR HN]; exact hlt)
        obtain ⟨b2, o2, rfl, hb2, x2⟩ := ((unhideR HY4).below (unhideR HW)).at_ k (by rw [unhideR HN]; exact hlt)
        generalize X.getD k sx0 = s at x1 x2
        have hsp := fun u => spot_any s u
        have hne := fun u => neq_spot s u
        have hgu := fun x y u => guard_spot s x y u
        have HX1 : HeldR (∀ u, Below wr.heap.size wr u → SxAt u b1 (o1 + k * 9) s) := hideR (fun u q => x1.below q hb1)
        have HX2 : HeldR (∀ u, Below wr.heap.size wr u → SxAt u b2 (o2 + k * 9) s) := hideR (fun u q => x2.below q hb2)
        clear x1 x2 hb1 hb2
        go_wp2_with fail
        refine wp_region_letsB wr.heap.size [(· = .slice (some ⟨b1, o1, none⟩) n cp2), (· = .int .i64 (k : Nat)), (· = .pointer (some ⟨b1, o1 + k * 9, none⟩)), (· = sxV s), (· = .slice (some ⟨b2, o2, none⟩) n cp3), (· = .int .i64 (k : Nat)), (· = .pointer (some ⟨b2, o2 + k * 9, none⟩)), (· = sxV s), (· = sxV s), (· = .bool false)] (by kernel_rfl) (by kernel_rfl) ?_
        refine lexB_step (fun K hK => ⟨by kernel_rfl, ⟨_, rfl⟩, fun v hv => ?_, fun v hv => ?_⟩)
        · go_simp
          exact lUpon_b hv
        subst hv
        go_simp
        refine hK _ ?_
        clear hK K
        refine lexB_step (fun K hK => ⟨by kernel_rfl, ⟨_, rfl⟩, fun v hv => ?_, fun v hv => ?_⟩)
        · go_simp
          exact lUpon_b hv
        subst hv
        go_simp
        refine hK _ ?_
        clear hK K
        refine lexB_step (fun K hK => ⟨by kernel_rfl, ⟨_, rfl⟩, fun v hv => ?_, fun v hv => ?_⟩)
        · go_simp
          exact lUpon_b hv
        subst hv
        go_simp
        refine hK _ ?_
        clear hK K
        refine lexB_step (fun K hK => ⟨by kernel_rfl, ⟨_, rfl⟩, fun v hv => ?_, fun v hv => ?_⟩)
        · obtain ⟨y0, y1, y2, y3, y4, y5, y6, y7, y8⟩ := unhideR HX1 v hv
          go_simp
          exact lUpon_b hv
        subst hv
        go_simp
        refine hK _ ?_
        clear hK K
        refine lexB_step (fun K hK => ⟨by kernel_rfl, ⟨_, rfl⟩, fun v hv => ?_, fun v hv => ?_⟩)
        · go_simp
          exact lUpon_b hv
        subst hv
        go_simp
        refine hK _ ?_
        clear hK K
        refine lexB_step (fun K hK => ⟨by kernel_rfl, ⟨_, rfl⟩, fun v hv => ?_, fun v hv => ?_⟩)
        · go_simp
          exact lUpon_b hv
        subst hv
        go_simp
        refine hK _ ?_
        clear hK K
        refine lexB_step (fun K hK => ⟨by kernel_rfl, ⟨_, rfl⟩, fun v hv => ?_, fun v hv => ?_⟩)
        · go_simp
          exact lUpon_b hv
        subst hv
        go_simp
        refine hK _ ?_
        clear hK K
        refine lexB_step (fun K hK => ⟨by kernel_rfl, ⟨_, rfl⟩, fun v hv => ?_, fun v hv => ?_⟩)
        · obtain ⟨y0, y1, y2, y3, y4, y5, y6, y7, y8⟩ := unhideR HX2 v hv
          go_simp
          exact lUpon_b hv
        subst hv
        go_simp
        refine hK _ ?_
        clear hK K
        refine lexB_step (fun K hK => ⟨by kernel_rfl, ⟨_, rfl⟩, fun v hv => ?_, fun v hv => ?_⟩)
        · go_simp
          refine (hsp v).mono ?_
          rintro e w9 ⟨rfl, k⟩
          exact ⟨_, rfl, rfl, below_on2 hv (Nat.le_refl _) k⟩
        subst hv
        go_simp
        refine hK _ ?_
        clear hK K
        refine lexB_step (fun K hK => ⟨by kernel_rfl, ⟨_, rfl⟩, fun v hv => ?_, fun v hv => ?_⟩)
        · go_simp
          exact lUpon_b hv
        subst hv
        go_simp
        refine hK _ ?_
        clear hK K
        refine lexL_end ?_
        intro v9 hv9
        replace HW := hideR (below_go (unhideR HW) hv9)
        clear hsp hne hgu HX1 HX2 hv9
        go_wp2
        exact ⟨⟨k + 1, by omega, by go_num, HW⟩, by simp [intOf]; omega⟩
      · obtain rfl : k = n := by omega
        go_wp2
        go_ret
        exact ⟨rfl, below_go (unhideR HB4) (unhideR HW)⟩
end Go.Proofs.YtgmaganajfcpbaiDoor
