/-
  The law of how far light reaches: its walk.
-/
import Derived.Test.YtmgnobeaacjdjajGreatDoorDZ5
import Derived.Test.YtmgnobeaacjdjajGreatDoorDXC
import Derived.Test.YtmgnobeaacjdjajGreatDoorFrSm
import Derived.Test.YtmgnobeaacjdjajGreatDoorSpArg2
import Derived.Test.YtmgnobeaacjdjajGreatDoorSpLw
import Derived.Deep.CutRange
namespace Go.Proofs.YtmgnobeaacjdjajGreatDoor
open Go Go.RowKit

def WwPost (w : World) (e : Ending) (w' : World) : Prop := e = .returned (.bool true) ∧ Below w.heap.size w w'
def WdIs (a : Nat → Addr) (p : Pic) (s : Sta) (part r : Int) (er : Value) : Prop := ErrIs a (reachE p s part) er ∧ (reachE p s part ≠ 0 → r = 0) ∧ (reachE p s part = 0 → IsReach p s part r)
set_option maxRecDepth 100000 in
set_option maxHeartbeats 3200000 in
theorem wide_walk {a : Nat → Addr} {w : World} {v : Value} {op : Option Pic} (hS : Sents w a) (hA : PicArg2 w v op) (s : Sta) (share : Int) : Calls Tryz.prog 3 #[v, sxV s, .int .i64 share] w (WwPost w) := by
  have HS : HeldR (∀ u, Below w.heap.size w u → Sents u a) := hideR (fun u k => hS.below k (Nat.le_refl _))
  have HA : HeldR (∀ u, Below w.heap.size w u → PicArg2 u v op) := hideR (fun u k => hA.below k)
  have hb0 := below_a w (.cells #[.int .i64 s.le, .int .i64 s.tp, .int .i64 s.ri, .int .i64 s.lo, .int .i64 s.px, .int .i64 s.li, .int .i64 s.x, .int .i64 s.y, .int .i64 s.lt] 26)
  have HG0 := hideR (alloc_last w (.cells #[.int .i64 s.le, .int .i64 s.tp, .int .i64 s.ri, .int .i64 s.lo, .int .i64 s.px, .int .i64 s.li, .int .i64 s.x, .int .i64 s.y, .int .i64 s.lt] 26))
  have hsp := spotted_any (unhideR HS _ hb0).er2
  have HB0 := hideR hb0
  clear hS hA hb0
  unfold sxV
  go_enter Tryz.func3, Tryz.ntmps3
  go_wp2_with fail
  refine hsp.mono ?_
  rintro e w1 ⟨rfl, k1⟩
  have k1' := below_go (unhideR HB0) k1
  have hsm := small_any (unhideR HA w1 k1').arg
  have HB1 := hideR k1'
  have HG1 := hideR (keepB (unhideR HG0) k1)
  obtain ⟨G, hG⟩ : ∃ G, w.heap.size = G := ⟨_, rfl⟩
  rw [hG] at HG1 ⊢
  clear hsp k1 k1' HG0 HB0 hG
  go_wp2_with fail
  refine hsm.mono ?_
  rintro e w1' ⟨q, rfl, hq, rfl⟩
  clear hsm
  cases q with
  | false =>
    clear hq
    go_wp2
    go_ret
    exact ⟨rfl, unhideR HB1⟩
  | true =>
    obtain ⟨p, rfl, hfew⟩ := hq rfl
    obtain ⟨b, o, cap, ad, rfl, hp1, hl, hpc1⟩ := picArg2_is (unhideR HA w1 (unhideR HB1))
    have HP1 := hideR hp1
    have HPc := hideR hpc1
    obtain ⟨hlt, c0, c1, c2, _⟩ := hp1
    clear hq hpc1
    by_cases hm : 200 < p.L.length
    · have tm : decide ((200 : Int) < (p.L.length : Int)) = true := decide_eq_true (by omega)
      have tmn : decide (200 < p.L.length) = true := decide_eq_true hm
      go_wp2
      go_ret
      exact ⟨rfl, unhideR HB1⟩
    · have tm : decide ((200 : Int) < (p.L.length : Int)) = false := decide_eq_false (by omega)
      have tmn : decide (200 < p.L.length) = false := decide_eq_false hm
      have HQ : HeldR (∀ u, Below w1.heap.size w1 u → SxAt u G 0 s) := hideR (fun u k => nine_at9 (keepB (unhideR HG1) k))
      have HWd : HeldR (∀ u, Below w1.heap.size w1 u → Calls Tryz.prog 7 #[.agg #[.int .i64 p.wide, .int .i64 p.high, .slice ad p.L.length cap], .agg #[.int .i64 s.le, .int .i64 s.tp, .int .i64 s.ri, .int .i64 s.lo, .int .i64 s.px, .int .i64 s.li, .int .i64 s.x, .int .i64 s.y, .int .i64 s.lt], .int .i64 share] u (WdPost a p s share u)) := hideR (fun u k => wide_any (unhideR HS u (below_go (unhideR HB1) k)) ((unhideR HPc).below k) s share)
      have hspo : ∀ u, Calls Tryz.prog 8 #[.agg #[.int .i64 s.le, .int .i64 s.tp, .int .i64 s.ri, .int .i64 s.lo, .int .i64 s.px, .int .i64 s.li, .int .i64 s.x, .int .i64 s.y, .int .i64 s.lt]] u fun e w' => e = .returned (.agg #[.int .i64 s.le, .int .i64 s.tp, .int .i64 s.ri, .int .i64 s.lo, .int .i64 s.px, .int .i64 s.li, .int .i64 s.x, .int .i64 s.y, .int .i64 s.lt]) ∧ Below u.heap.size u w' := fun u => spot_any s u
      clear hfew
      go_upto_region 5 with fail
      clear c0 c1 c2
      go_cut [9, 10] from 32 to 41 (fun s9 s10 wx => ∃ (r : Int) (er : Value), s9 = .int .i64 r ∧ s10 = er ∧ HeldR (WdIs a p s share r er) ∧ HeldR (Below w1.heap.size w1 wx))
      case' first =>
        refine wp_region_made 5 #[true, true, true, true, true, true, false, false, false, false, false, false] [.lets (· = .pointer (some ⟨b, o, none⟩)),
          .lets (· = .pointer (some ⟨b, o, none⟩)),
          .lets (· = .agg #[.int .i64 p.wide, .int .i64 p.high, .slice ad p.L.length cap]),
          .lets (· = .agg #[.int .i64 s.le, .int .i64 s.tp, .int .i64 s.ri, .int .i64 s.lo, .int .i64 s.px, .int .i64 s.li, .int .i64 s.x, .int .i64 s.y, .int .i64 s.lt]),
          .lets (· = .agg #[.int .i64 s.le, .int .i64 s.tp, .int .i64 s.ri, .int .i64 s.lo, .int .i64 s.px, .int .i64 s.li, .int .i64 s.x, .int .i64 s.y, .int .i64 s.lt]),
          .lets (· = .int .i64 share)] [] [] (by kernel_rfl) (by kernel_rfl) rfl ?kinds (by kernel_rfl) (by kernel_rfl) (by kernel_rfl) ?_
        case kinds =>
          constructor
          · intro i h
            rcases i with _ | _ | _ | _ | _ | _ | i <;> simp [Kx.isMade] at h
          · intro i h
            rcases i with _ | _ | _ | _ | _ | _ | i <;> simp [Kx.isUse] at h
        refine lexX_step (fun K hK => ⟨by kernel_rfl, ⟨_, rfl⟩, fun v hv => ?_, fun v hv => ?_⟩)
        · go_simp
          exact mUpon_b
        subst hv
        go_simp
        refine hK _ ?_
        clear hK K
        refine lexX_step (fun K hK => ⟨by kernel_rfl, ⟨_, rfl⟩, fun v hv => ?_, fun v hv => ?_⟩)
        · go_simp
          exact mUpon_b
        subst hv
        go_simp
        refine hK _ ?_
        clear hK K
        refine lexX_step (fun K hK => ⟨by kernel_rfl, ⟨_, rfl⟩, fun v hv => ?_, fun v hv => ?_⟩)
        · obtain ⟨_, c0, c1, c2, _⟩ := (unhideR HP1).below hv
          go_simp
          exact mUpon_b
        subst hv
        go_simp
        refine hK _ ?_
        clear hK K
        refine lexX_step (fun K hK => ⟨by kernel_rfl, ⟨_, rfl⟩, fun v hv => ?_, fun v hv => ?_⟩)
        · obtain ⟨y0, y1, y2, y3, y4, y5, y6, y7, y8⟩ := unhideR HQ v hv
          go_simp
          exact mUpon_b
        subst hv
        go_simp
        refine hK _ ?_
        clear hK K
        refine lexX_step (fun K hK => ⟨by kernel_rfl, ⟨_, rfl⟩, fun v hv => ?_, fun v hv => ?_⟩)
        · go_simp
          refine (hspo v).mono ?_
          rintro e w9 ⟨rfl, k⟩
          exact ⟨_, rfl, rfl, k⟩
        subst hv
        go_simp
        refine hK _ ?_
        clear hK K
        refine lexX_step (fun K hK => ⟨by kernel_rfl, ⟨_, rfl⟩, fun v hv => ?_, fun v hv => ?_⟩)
        · go_simp
          exact mUpon_b
        subst hv
        go_simp
        refine hK _ ?_
        clear hK K
        refine lexX_end (fun v5 hv => ?_)
        have K5 := hv.low
        clear hv
        have hwd := unhideR HWd v5 K5
        refine wpAny_step (i := 6) (by kernel_rfl) rfl (by kernel_rfl) (fun K hK => ?_)
        unfold Oper.wp
        go_simp
        refine hwd.mono ?_
        rintro e w6 ⟨r, er, rfl, her, hr0, hr1, k6⟩
        have HR6 := hideR (And.intro her (And.intro hr0 hr1))
        have HB6 := hideR (below_go K5 k6)
        clear hwd her hr0 hr1 k6
        go_simp
        refine hK _ _ ?_
        clear hK K
        refine wpAny_step (i := 7) (by kernel_rfl) rfl (by kernel_rfl) (fun K hK => ?_)
        unfold Oper.wp
        go_simp
        refine hK _ _ ?_
        clear hK K
        refine wpAny_two (i := 8) (j := 9) (by kernel_rfl) rfl rfl (by kernel_rfl) (by kernel_rfl) (fun K hK => ?oa) (fun K hK => ?ob)
        case' oa =>
          unfold Oper.wp
          go_simp
          refine hK _ _ ?_
          clear hK K
          refine wpAny_two (i := 9) (j := 10) (by kernel_rfl) rfl rfl (by kernel_rfl) (by kernel_rfl) (fun K hK => ?oc) (fun K hK => ?od)
        case' oc =>
          unfold Oper.wp
          go_simp
          refine hK _ _ ?_
          clear hK K
          refine wpAny_step (i := 10) (by kernel_rfl) rfl (by kernel_rfl) (fun K hK => ?_)
          unfold Oper.wp
          go_simp
          refine hK _ _ ?_
          clear hK K
          refine wpAny_step (i := 11) (by kernel_rfl) rfl (by kernel_rfl) (fun K hK => ?_)
          unfold Oper.wp
          go_simp
          refine hK _ _ ?_
          clear hK K
          refine wpAny_end (by kernel_rfl) ?_
        case' od =>
          unfold Oper.wp
          go_simp
          refine hK _ _ ?_
          clear hK K
          refine wpAny_step (i := 9) (by kernel_rfl) rfl (by kernel_rfl) (fun K hK => ?_)
          unfold Oper.wp
          go_simp
          refine hK _ _ ?_
          clear hK K
          refine wpAny_step (i := 11) (by kernel_rfl) rfl (by kernel_rfl) (fun K hK => ?_)
          unfold Oper.wp
          go_simp
          refine hK _ _ ?_
          clear hK K
          refine wpAny_end (by kernel_rfl) ?_
        case' ob =>
          unfold Oper.wp
          go_simp
          refine hK _ _ ?_
          clear hK K
          refine wpAny_step (i := 8) (by kernel_rfl) rfl (by kernel_rfl) (fun K hK => ?_)
          unfold Oper.wp
          go_simp
          refine hK _ _ ?_
          clear hK K
          refine wpAny_step (i := 10) (by kernel_rfl) rfl (by kernel_rfl) (fun K hK => ?_)
          unfold Oper.wp
          go_simp
          refine hK _ _ ?_
          clear hK K
          refine wpAny_step (i := 11) (by kernel_rfl) rfl (by kernel_rfl) (fun K hK => ?_)
          unfold Oper.wp
          go_simp
          refine hK _ _ ?_
          clear hK K
          refine wpAny_end (by kernel_rfl) ?_
        all_goals
          go_wp2_with fail
          go_meet
          exact ⟨_, _, rfl, rfl, HR6, HB6⟩
      obtain ⟨r, er, rfl, rfl, HR, HB2⟩ := hcut
      have hre := reachOf_any ((unhideR HP1).below (unhideR HB2)) hl s share
      unfold sxV at hre
      have HB3 := hideR (below_go (unhideR HB1) (unhideR HB2))
      have q9 := unhideR HQ wc (unhideR HB2)
      have y0 : wc.cell? ⟨G, 0, none⟩ = some (.int .i64 s.le) := q9.c0
      have y1 : wc.cell? ⟨G, 1, none⟩ = some (.int .i64 s.tp) := q9.c1
      have y2 : wc.cell? ⟨G, 2, none⟩ = some (.int .i64 s.ri) := q9.c2
      have y3 : wc.cell? ⟨G, 3, none⟩ = some (.int .i64 s.lo) := q9.c3
      have y4 : wc.cell? ⟨G, 4, none⟩ = some (.int .i64 s.px) := q9.c4
      have y5 : wc.cell? ⟨G, 5, none⟩ = some (.int .i64 s.li) := q9.c5
      have y6 : wc.cell? ⟨G, 6, none⟩ = some (.int .i64 s.x) := q9.c6
      have y7 : wc.cell? ⟨G, 7, none⟩ = some (.int .i64 s.y) := q9.c7
      have y8 : wc.cell? ⟨G, 8, none⟩ = some (.int .i64 s.lt) := q9.c8
      clear q9 hspo HWd
      go_wp2_with fail
      refine hre.mono ?_
      rintro e w5 ⟨r', rfl, hz, hi, k5⟩
      obtain rfl : r = r' := by
        obtain ⟨_, h2, h3⟩ := unhideR HR
        by_cases e0 : reachE p s share = 0
        · exact reach_one (h3 e0) (hi e0)
        · rw [h2 e0, hz e0]
      have k5' := below_go (unhideR HB3) k5
      have hcd := coded_err (unhideR HS w5 k5') (unhideR HR).1
      have HB5 := hideR k5'
      have tr : (r == r) = true := by simp
      clear hre hz hi k5 k5' y0 y1 y2 y3 y4 y5 y6 y7 y8
      go_wp2_with fail
      refine hcd.mono ?_
      rintro e w6 ⟨rfl, k6⟩
      have HB6 := hideR (below_go (unhideR HB5) k6)
      clear hcd k6
      go_wp2
      go_ret
      exact ⟨rfl, unhideR HB6⟩
end Go.Proofs.YtmgnobeaacjdjajGreatDoor
