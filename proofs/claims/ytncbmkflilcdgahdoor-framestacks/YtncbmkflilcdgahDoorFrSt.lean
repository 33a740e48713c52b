/-
  The law FrameStacks: its walk, out of the program's calls by contracts.
-/
import Derived.Test.YtncbmkflilcdgahDoorFrLw
import Derived.Deep.CutRange
namespace Go.Proofs.YtncbmkflilcdgahDoor
open Go Go.RowKit

theorem stack_some {Ls : List Pic} (h : stackE Ls = 0) : 0 < Ls.length := by
  unfold stackE at h
  split at h
  · cases h
  · split at h
    · cases h
    · omega
set_option maxRecDepth 100000 in
set_option maxHeartbeats 6400000 in
theorem stacks_walk {a : Nat → Addr} (hF : FrOK a) (hK : StackOK a) (x y : Int) {ad : Option Addr} {cap : Nat} {Ls : List Pic} (w : World) (hcap : Ls.length ≤ cap) (hS : Sents w a) (hr : PCame w ad Ls) (hl : Ls.length * 40 ≤ 140737488355328) :
    Calls Tryd.prog 8 #[.slice ad Ls.length cap, .int .i64 x, .int .i64 y] w fun e w' => e = .returned (.bool true) ∧ Below w.heap.size w w' := by
  have HS := hideR hS
  have HR := hideR hr
  clear hS hr
  have hfr := framed_any hF.one w (unhideR HS)
  go_enter Tryd.func8, Tryd.ntmps8
  go_wp2_with fail
  refine hfr.mono ?_
  rintro e w1 ⟨rfl, k1⟩
  have HW := hideR k1
  have hsm := smallAll_any (cap := cap) ((unhideR HR).below k1) hl
  clear k1 hfr
  go_wp2_with fail
  refine hsm.mono ?_
  rintro e w2 ⟨q, rfl, hq, rfl⟩
  clear hsm
  cases q
  · go_wp2
    go_ret
    exact ⟨rfl, unhideR HW⟩
  · have h7 := hq rfl
    have hst := hK (cap := cap) ((unhideR HS).below (unhideR HW) (Nat.le_refl _)) ((unhideR HR).below (unhideR HW)) hl h7 hcap
    clear hq
    go_wp2_with fail
    refine hst.mono ?_
    rintro e w3 ⟨X, adx, capx, er, Wd, Hg, rfl, her, hX0, hX1, hIx, k3⟩
    replace HW := hideR (below_go (unhideR HW) k3)
    have kA := below_a w3 (.cells #[.int .i64 Wd, .int .i64 Hg, .slice adx X.length capx] 94)
    have HB := hideR (alloc_last w3 (.cells #[.int .i64 Wd, .int .i64 Hg, .slice adx X.length capx] 94))
    replace HW := hideR (below_go (unhideR HW) kA)
    have HIx := hideR (hIx.below kA)
    have hso := stackOf_any (cap := cap) ((unhideR HR).below (unhideR HW)) hl
    clear kA k3 hst hIx
    go_wp2_with fail
    generalize hpb : w3.heap.size = pb at *
    generalize w3.alloc (.cells #[.int .i64 Wd, .int .i64 Hg, .slice adx X.length capx] 94) = W3 at *
    clear hpb
    refine hso.mono ?_
    rintro e w4 ⟨Y, ady, capy, rfl, hY0, hY1, hIy, k4⟩
    obtain rfl : X = Y := by
      by_cases h0 : stackE Ls = 0
      · rw [(hX0 h0).1, hY0 h0]
      · rw [hX1 h0, hY1 h0]
    have hWH : stackE Ls = 0 → Wd = (Ls.getD 0 pic0).wide ∧ Hg = (Ls.getD 0 pic0).high ∧ 0 < Ls.length := fun h0 => ⟨(hX0 h0).2.1, (hX0 h0).2.2, stack_some h0⟩
    have hXl : X.length ≤ 65536 := by
      by_cases h0 : stackE Ls = 0
      · rw [hY0 h0, ← stk_all, stkK_length]
        refine (pic_ok ?_ : PicOk (Ls.getD 0 pic0)).few
        have hs := stack_some h0
        unfold stackE at h0
        rw [if_neg (by intro k; rw [if_pos k] at h0; cases h0)] at h0
        rw [if_neg (by omega)] at h0
        by_cases hf : firstE Ls ≠ 0
        · rw [if_pos hf] at h0
          exact absurd h0 hf
        · by_cases hz : picE (Ls.getD 0 pic0) = 0
          · exact hz
          · exact absurd (fun k => hz ((firstE_at (i := 0) (fun j hj => absurd hj (Nat.not_lt_zero j)) hs hz).symm.trans k)) hf
      · rw [hY1 h0]
        exact Nat.zero_le _
    replace HW := hideR (below_go (unhideR HW) k4)
    replace HB := hideR (keepB (unhideR HB) k4)
    replace HIx := hideR ((unhideR HIx).below k4)
    have HIy := hideR hIy
    have HWH := hideR hWH
    have hcd := coded_err ((unhideR HS).below (unhideR HW) (Nat.le_refl _)) her
    generalize stackE Ls = E at *
    clear hX0 hX1 hY0 hY1 hWH k4 hIy hso her
    go_wp2_with fail
    refine hcd.mono ?_
    rintro e w5 ⟨rfl, k5⟩
    replace HW := hideR (below_go (unhideR HW) k5)
    replace HB := hideR (keepB (unhideR HB) k5)
    obtain ⟨p0, p1, p2⟩ := pic_three (unhideR HB)
    have hsi := sameInts_any (c1 := capx) (c2 := capy) ((unhideR HIx).below k5) ((unhideR HIy).below k5) (by omega)
    clear k5 hcd HIx HIy
    go_wp2_with fail
    refine hsi.mono ?_
    rintro e w6 ⟨rfl, k6⟩
    replace HW := hideR (below_go (unhideR HW) k6)
    replace HB := hideR (keepB (unhideR HB) k6)
    clear k6 hsi p0 p1 p2
    obtain ⟨p0, p1, p2⟩ := pic_three (unhideR HB)
    go_wp2_with fail
    go_cut [73] from 54 to 72 (fun s73 wx => s73 = .bool false ∧ HeldR (Below w.heap.size w wx))
    case' first =>
      by_cases hE : E = 0
      · obtain ⟨rfl, rfl, hn⟩ := unhideR HWH hE
        subst hE
        obtain ⟨b, off, adk, capk, rfl, hp, _⟩ := ((unhideR HR).below (unhideR HW)).at_ 0 hn
        obtain ⟨_, d0, d1, _, _⟩ := hp
        rw [Nat.zero_mul, Nat.add_zero] at d0 d1
        generalize (Ls.getD 0 pic0).wide = Wd at *
        generalize (Ls.getD 0 pic0).high = Hg at *
        have t1 : (Wd != Wd) = false := by simp
        have t2 : (Hg != Hg) = false := by simp
        refine wp_region_lets [(· = .int .i64 0),
          (· = .bool true),
          (· = .bool true),
          (· = .pointer (some ⟨pb, 0, none⟩)),
          (· = .int .i64 Wd),
          (· = .slice (some ⟨b, off, none⟩) Ls.length cap),
          (· = .pointer (some ⟨b, off, none⟩)),
          (· = .pointer (some ⟨b, off, none⟩)),
          (· = .int .i64 Wd),
          (· = .bool false),
          (· = .bool false),
          (· = .pointer (some ⟨pb, 1, none⟩)),
          (· = .int .i64 Hg),
          (· = .slice (some ⟨b, off, none⟩) Ls.length cap),
          (· = .pointer (some ⟨b, off, none⟩)),
          (· = .pointer (some ⟨b, off + 1, none⟩)),
          (· = .int .i64 Hg),
          (· = .bool false),
          (· = .bool false),
          (· = .bool false)] (by kernel_rfl) (by kernel_rfl) ?_
        refine lexL_step (fun K hK => ⟨by kernel_rfl, ⟨_, rfl⟩, fun n => ?_, fun v hv => ?_⟩)
        · go_simp
          exact lUpon_one
        subst hv
        go_simp
        refine hK _ ?_
        clear hK K
        refine lexL_step (fun K hK => ⟨by kernel_rfl, ⟨_, rfl⟩, fun n => ?_, fun v hv => ?_⟩)
        · go_simp
          exact lUpon_one
        subst hv
        go_simp
        refine hK _ ?_
        clear hK K
        refine lexL_step (fun K hK => ⟨by kernel_rfl, ⟨_, rfl⟩, fun n => ?_, fun v hv => ?_⟩)
        · go_simp
          exact lUpon_one
        subst hv
        go_simp
        refine hK _ ?_
        clear hK K
        refine lexL_step (fun K hK => ⟨by kernel_rfl, ⟨_, rfl⟩, fun n => ?_, fun v hv => ?_⟩)
        · go_simp
          exact lUpon_one
        subst hv
        go_simp
        refine hK _ ?_
        clear hK K
        refine lexL_step (fun K hK => ⟨by kernel_rfl, ⟨_, rfl⟩, fun n => ?_, fun v hv => ?_⟩)
        · go_simp
          exact lUpon_one
        subst hv
        go_simp
        refine hK _ ?_
        clear hK K
        refine lexL_step (fun K hK => ⟨by kernel_rfl, ⟨_, rfl⟩, fun n => ?_, fun v hv => ?_⟩)
        · go_simp
          exact lUpon_one
        subst hv
        go_simp
        refine hK _ ?_
        clear hK K
        refine lexL_step (fun K hK => ⟨by kernel_rfl, ⟨_, rfl⟩, fun n => ?_, fun v hv => ?_⟩)
        · go_simp
          exact lUpon_one
        subst hv
        go_simp
        refine hK _ ?_
        clear hK K
        refine lexL_step (fun K hK => ⟨by kernel_rfl, ⟨_, rfl⟩, fun n => ?_, fun v hv => ?_⟩)
        · go_simp
          exact lUpon_one
        subst hv
        go_simp
        refine hK _ ?_
        clear hK K
        refine lexL_step (fun K hK => ⟨by kernel_rfl, ⟨_, rfl⟩, fun n => ?_, fun v hv => ?_⟩)
        · go_simp
          exact lUpon_one
        subst hv
        go_simp
        refine hK _ ?_
        clear hK K
        refine lexL_step (fun K hK => ⟨by kernel_rfl, ⟨_, rfl⟩, fun n => ?_, fun v hv => ?_⟩)
        · go_simp
          exact lUpon_one
        subst hv
        go_simp
        refine hK _ ?_
        clear hK K
        refine lexL_step (fun K hK => ⟨by kernel_rfl, ⟨_, rfl⟩, fun n => ?_, fun v hv => ?_⟩)
        · go_simp
          exact lUpon_one
        subst hv
        go_simp
        refine hK _ ?_
        clear hK K
        refine lexL_step (fun K hK => ⟨by kernel_rfl, ⟨_, rfl⟩, fun n => ?_, fun v hv => ?_⟩)
        · go_simp
          exact lUpon_one
        subst hv
        go_simp
        refine hK _ ?_
        clear hK K
        refine lexL_step (fun K hK => ⟨by kernel_rfl, ⟨_, rfl⟩, fun n => ?_, fun v hv => ?_⟩)
        · go_simp
          exact lUpon_one
        subst hv
        go_simp
        refine hK _ ?_
        clear hK K
        refine lexL_step (fun K hK => ⟨by kernel_rfl, ⟨_, rfl⟩, fun n => ?_, fun v hv => ?_⟩)
        · go_simp
          exact lUpon_one
        subst hv
        go_simp
        refine hK _ ?_
        clear hK K
        refine lexL_step (fun K hK => ⟨by kernel_rfl, ⟨_, rfl⟩, fun n => ?_, fun v hv => ?_⟩)
        · go_simp
          exact lUpon_one
        subst hv
        go_simp
        refine hK _ ?_
        clear hK K
        refine lexL_step (fun K hK => ⟨by kernel_rfl, ⟨_, rfl⟩, fun n => ?_, fun v hv => ?_⟩)
        · go_simp
          exact lUpon_one
        subst hv
        go_simp
        refine hK _ ?_
        clear hK K
        refine lexL_step (fun K hK => ⟨by kernel_rfl, ⟨_, rfl⟩, fun n => ?_, fun v hv => ?_⟩)
        · go_simp
          exact lUpon_one
        subst hv
        go_simp
        refine hK _ ?_
        clear hK K
        refine lexL_step (fun K hK => ⟨by kernel_rfl, ⟨_, rfl⟩, fun n => ?_, fun v hv => ?_⟩)
        · go_simp
          exact lUpon_one
        subst hv
        go_simp
        refine hK _ ?_
        clear hK K
        refine lexL_step (fun K hK => ⟨by kernel_rfl, ⟨_, rfl⟩, fun n => ?_, fun v hv => ?_⟩)
        · go_simp
          exact lUpon_one
        subst hv
        go_simp
        refine hK _ ?_
        clear hK K
        refine lexL_step (fun K hK => ⟨by kernel_rfl, ⟨_, rfl⟩, fun n => ?_, fun v hv => ?_⟩)
        · go_simp
          exact lUpon_one
        subst hv
        go_simp
        refine hK _ ?_
        clear hK K
        refine lexL_end ?_
        intro n9
        replace HW := hideR (below_go (unhideR HW) (drawn_below w6 n9))
        go_wp2_with fail
        go_meet
        exact ⟨rfl, HW⟩
      · have t1 : (E == 0) = false := by rw [beq_eq_false_iff_ne]; exact hE
        refine wp_region_lets [(· = .int .i64 E),
          (· = .bool false),
          (· = .bool false),
          (· = undef),
          (· = undef),
          (· = undef),
          (· = undef),
          (· = undef),
          (· = undef),
          (· = undef),
          (· = undef),
          (· = undef),
          (· = undef),
          (· = undef),
          (· = undef),
          (· = undef),
          (· = undef),
          (· = undef),
          (· = undef),
          (· = .bool false)] (by kernel_rfl) (by kernel_rfl) ?_
        refine lexL_step (fun K hK => ⟨by kernel_rfl, ⟨_, rfl⟩, fun n => ?_, fun v hv => ?_⟩)
        · go_simp
          exact lUpon_one
        subst hv
        go_simp
        refine hK _ ?_
        clear hK K
        refine lexL_step (fun K hK => ⟨by kernel_rfl, ⟨_, rfl⟩, fun n => ?_, fun v hv => ?_⟩)
        · go_simp
          exact lUpon_one
        subst hv
        go_simp
        refine hK _ ?_
        clear hK K
        refine lexL_step (fun K hK => ⟨by kernel_rfl, ⟨_, rfl⟩, fun n => ?_, fun v hv => ?_⟩)
        · go_simp
          exact lUpon_one
        subst hv
        go_simp
        refine hK _ ?_
        clear hK K
        refine lexL_skip (fun K hK => ⟨by kernel_rfl, ?_⟩)
        go_simp
        refine hK _ ?_
        clear hK K
        refine lexL_skip (fun K hK => ⟨by kernel_rfl, ?_⟩)
        go_simp
        refine hK _ ?_
        clear hK K
        refine lexL_skip (fun K hK => ⟨by kernel_rfl, ?_⟩)
        go_simp
        refine hK _ ?_
        clear hK K
        refine lexL_skip (fun K hK => ⟨by kernel_rfl, ?_⟩)
        go_simp
        refine hK _ ?_
        clear hK K
        refine lexL_skip (fun K hK => ⟨by kernel_rfl, ?_⟩)
        go_simp
        refine hK _ ?_
        clear hK K
        refine lexL_skip (fun K hK => ⟨by kernel_rfl, ?_⟩)
        go_simp
        refine hK _ ?_
        clear hK K
        refine lexL_skip (fun K hK => ⟨by kernel_rfl, ?_⟩)
        go_simp
        refine hK _ ?_
        clear hK K
        refine lexL_skip (fun K hK => ⟨by kernel_rfl, ?_⟩)
        go_simp
        refine hK _ ?_
        clear hK K
        refine lexL_skip (fun K hK => ⟨by kernel_rfl, ?_⟩)
        go_simp
        refine hK _ ?_
        clear hK K
        refine lexL_skip (fun K hK => ⟨by kernel_rfl, ?_⟩)
        go_simp
        refine hK _ ?_
        clear hK K
        refine lexL_skip (fun K hK => ⟨by kernel_rfl, ?_⟩)
        go_simp
        refine hK _ ?_
        clear hK K
        refine lexL_skip (fun K hK => ⟨by kernel_rfl, ?_⟩)
        go_simp
        refine hK _ ?_
        clear hK K
        refine lexL_skip (fun K hK => ⟨by kernel_rfl, ?_⟩)
        go_simp
        refine hK _ ?_
        clear hK K
        refine lexL_skip (fun K hK => ⟨by kernel_rfl, ?_⟩)
        go_simp
        refine hK _ ?_
        clear hK K
        refine lexL_skip (fun K hK => ⟨by kernel_rfl, ?_⟩)
        go_simp
        refine hK _ ?_
        clear hK K
        refine lexL_skip (fun K hK => ⟨by kernel_rfl, ?_⟩)
        go_simp
        refine hK _ ?_
        clear hK K
        refine lexL_step (fun K hK => ⟨by kernel_rfl, ⟨_, rfl⟩, fun n => ?_, fun v hv => ?_⟩)
        · go_simp
          exact lUpon_one
        subst hv
        go_simp
        refine hK _ ?_
        clear hK K
        refine lexL_end ?_
        intro n9
        replace HW := hideR (below_go (unhideR HW) (drawn_below w6 n9))
        go_wp2_with fail
        go_meet
        exact ⟨rfl, HW⟩
    clear HW HB p0 p1 p2 HWH
    obtain ⟨rfl, HW⟩ := hcut
    go_wp2_with fail
    go_loopw [15] (fun iv wl => ∃ i : Nat, i ≤ Ls.length ∧ iv = .int .i64 (i : Nat) ∧ HeldR (Below w.heap.size w wl)) (fun iv _ => Ls.length + 1 - (intOf iv).toNat)
    case atStart => exact ⟨0, by omega, rfl, HW⟩
    case round =>
      clear HW
      obtain ⟨i, hi, rfl, HW⟩ := hrel
      by_cases hlt : i < Ls.length
      · obtain ⟨b, off, adk, capk, rfl, hp, hpl⟩ := ((unhideR HR).below (unhideR HW)).at_ i hlt
        generalize Ls.getD i pic0 = p at hp hpl
        have hpe := pictureError_any hp hpl
        have HPA := hideR hp
        clear hp
        go_wp2_with fail
        refine hpe.mono ?_
        rintro e v1 ⟨rfl, k1⟩
        replace HW := hideR (below_go (unhideR HW) k1)
        replace HPA := hideR ((unhideR HPA).below k1)
        obtain ⟨_, c0, c1, c2, _⟩ := unhideR HPA
        have hva := hF.valid ((unhideR HS).below (unhideR HW) (Nat.le_refl _)) ((unhideR HPA).val hpl)
        clear k1 hpe
        go_wp2_with fail
        refine hva.mono ?_
        rintro e v2 ⟨er2, rfl, her2, k2⟩
        replace HW := hideR (below_go (unhideR HW) k2)
        replace HPA := hideR ((unhideR HPA).below k2)
        have hcd := coded_err ((unhideR HS).below (unhideR HW) (Nat.le_refl _)) her2
        clear k2 hva her2 c0 c1 c2
        go_wp2_with fail
        refine hcd.mono ?_
        rintro e v3 ⟨rfl, k3⟩
        replace HW := hideR (below_go (unhideR HW) k3)
        replace HPA := hideR ((unhideR HPA).below k3)
        obtain ⟨_, c0, c1, c2, _⟩ := unhideR HPA
        have hat := hF.at_ x y ((unhideR HS).below (unhideR HW) (Nat.le_refl _)) ((unhideR HPA).val hpl)
        clear k3 hcd
        go_wp2_with fail
        refine hat.mono ?_
        rintro e v4 ⟨rfl, k4⟩
        replace HW := hideR (below_go (unhideR HW) k4)
        replace HPA := hideR ((unhideR HPA).below k4)
        clear k4 hat c0 c1 c2
        obtain ⟨_, c0, c1, c2, hrow⟩ := unhideR HPA
        have HAB : HeldR (atB p x y = (decide (picE p = 0) && (decide (0 ≤ x) && decide (0 ≤ y) && (decide (x < p.wide) && decide (y < p.high))))) := rfl
        have HAI := hideR (fun h => at_in (p := p) (x := x) (y := y) h)
        have HAV : HeldR (atV p x y = if atB p x y = true then p.L.getD (y * p.wide + x).toNat 0 else 0) := rfl
        generalize atV p x y = n at *
        generalize atB p x y = inn at *
        generalize picE p = Ep at *
        have HRow := hideR hrow
        clear hrow
        go_upto_region 19 with fail
        go_cut [20] from 74 to 166 (fun s20 wx => v4 = wx ∧ s20 = .bool inn)
        case' first =>
          by_cases y0 : Ep = 0
          · subst y0
            by_cases y1 : 0 ≤ x
            · by_cases y2 : 0 ≤ y
              · by_cases y3 : x < p.wide
                · by_cases y4 : y < p.high
                  · obtain rfl : inn = true := by rw [unhideR HAB]; simp [y1, y2, y3, y4]
                    go_wp2_with fail
                    go_meet
                    exact ⟨rfl, rfl⟩
                  · obtain rfl : inn = false := by rw [unhideR HAB]; simp [y4]
                    go_wp2_with fail
                    go_meet
                    exact ⟨rfl, rfl⟩
                · obtain rfl : inn = false := by rw [unhideR HAB]; simp [y3]
                  go_wp2_with fail
                  go_meet
                  exact ⟨rfl, rfl⟩
              · obtain rfl : inn = false := by rw [unhideR HAB]; simp [y2]
                go_wp2_with fail
                go_meet
                exact ⟨rfl, rfl⟩
            · obtain rfl : inn = false := by rw [unhideR HAB]; simp [y1]
              go_wp2_with fail
              go_meet
              exact ⟨rfl, rfl⟩
          · have t0 : (Ep == 0) = false := by rw [beq_eq_false_iff_ne]; exact y0
            obtain rfl : inn = false := by rw [unhideR HAB]; simp [y0]
            go_wp2_with fail
            go_meet
            exact ⟨rfl, rfl⟩
        obtain ⟨rfl, rfl⟩ := hcut
        clear HAB
        cases inn
        · obtain rfl : n = 0 := by rw [unhideR HAV]; simp
          go_wp2_with fail
          refine wp_region_lets [(· = .bool true),
            (· = .bool false),
            (· = .bool false),
            (· = .bool false),
            (· = .bool false),
            (· = .bool false),
            (· = .bool false),
            (· = .bool false),
            (· = .bool false),
            (· = .bool false),
            (· = undef),
            (· = undef),
            (· = undef),
            (· = undef),
            (· = undef),
            (· = undef),
            (· = undef),
            (· = undef),
            (· = undef),
            (· = undef),
            (· = undef),
            (· = undef),
            (· = undef),
            (· = undef),
            (· = undef),
            (· = undef),
            (· = undef),
            (· = undef),
            (· = .bool false),
            (· = .bool false),
            (· = .bool false),
            (· = .bool false),
            (· = .bool true),
            (· = .bool true),
            (· = .int .i64 0),
            (· = .bool false),
            (· = .bool false),
            (· = .bool false)] (by kernel_rfl) (by kernel_rfl) ?_
          refine lexL_step (fun K hK => ⟨by kernel_rfl, ⟨_, rfl⟩, fun n => ?_, fun v hv => ?_⟩)
          · go_simp
            exact lUpon_one
          subst hv
          go_simp
          refine hK _ ?_
          clear hK K
          refine lexL_step (fun K hK => ⟨by kernel_rfl, ⟨_, rfl⟩, fun n => ?_, fun v hv => ?_⟩)
          · go_simp
            exact lUpon_one
          subst hv
          go_simp
          refine hK _ ?_
          clear hK K
          refine lexL_step (fun K hK => ⟨by kernel_rfl, ⟨_, rfl⟩, fun n => ?_, fun v hv => ?_⟩)
          · go_simp
            exact lUpon_one
          subst hv
          go_simp
          refine hK _ ?_
          clear hK K
          refine lexL_step (fun K hK => ⟨by kernel_rfl, ⟨_, rfl⟩, fun n => ?_, fun v hv => ?_⟩)
          · go_simp
            exact lUpon_one
          subst hv
          go_simp
          refine hK _ ?_
          clear hK K
          refine lexL_step (fun K hK => ⟨by kernel_rfl, ⟨_, rfl⟩, fun n => ?_, fun v hv => ?_⟩)
          · go_simp
            exact lUpon_one
          subst hv
          go_simp
          refine hK _ ?_
          clear hK K
          refine lexL_step (fun K hK => ⟨by kernel_rfl, ⟨_, rfl⟩, fun n => ?_, fun v hv => ?_⟩)
          · go_simp
            exact lUpon_one
          subst hv
          go_simp
          refine hK _ ?_
          clear hK K
          refine lexL_step (fun K hK => ⟨by kernel_rfl, ⟨_, rfl⟩, fun n => ?_, fun v hv => ?_⟩)
          · go_simp
            exact lUpon_one
          subst hv
          go_simp
          refine hK _ ?_
          clear hK K
          refine lexL_step (fun K hK => ⟨by kernel_rfl, ⟨_, rfl⟩, fun n => ?_, fun v hv => ?_⟩)
          · go_simp
            exact lUpon_one
          subst hv
          go_simp
          refine hK _ ?_
          clear hK K
          refine lexL_step (fun K hK => ⟨by kernel_rfl, ⟨_, rfl⟩, fun n => ?_, fun v hv => ?_⟩)
          · go_simp
            exact lUpon_one
          subst hv
          go_simp
          refine hK _ ?_
          clear hK K
          refine lexL_step (fun K hK => ⟨by kernel_rfl, ⟨_, rfl⟩, fun n => ?_, fun v hv => ?_⟩)
          · go_simp
            exact lUpon_one
          subst hv
          go_simp
          refine hK _ ?_
          clear hK K
          refine lexL_skip (fun K hK => ⟨by kernel_rfl, ?_⟩)
          go_simp
          refine hK _ ?_
          clear hK K
          refine lexL_skip (fun K hK => ⟨by kernel_rfl, ?_⟩)
          go_simp
          refine hK _ ?_
          clear hK K
          refine lexL_skip (fun K hK => ⟨by kernel_rfl, ?_⟩)
          go_simp
          refine hK _ ?_
          clear hK K
          refine lexL_skip (fun K hK => ⟨by kernel_rfl, ?_⟩)
          go_simp
          refine hK _ ?_
          clear hK K
          refine lexL_skip (fun K hK => ⟨by kernel_rfl, ?_⟩)
          go_simp
          refine hK _ ?_
          clear hK K
          refine lexL_skip (fun K hK => ⟨by kernel_rfl, ?_⟩)
          go_simp
          refine hK _ ?_
          clear hK K
          refine lexL_skip (fun K hK => ⟨by kernel_rfl, ?_⟩)
          go_simp
          refine hK _ ?_
          clear hK K
          refine lexL_skip (fun K hK => ⟨by kernel_rfl, ?_⟩)
          go_simp
          refine hK _ ?_
          clear hK K
          refine lexL_skip (fun K hK => ⟨by kernel_rfl, ?_⟩)
          go_simp
          refine hK _ ?_
          clear hK K
          refine lexL_skip (fun K hK => ⟨by kernel_rfl, ?_⟩)
          go_simp
          refine hK _ ?_
          clear hK K
          refine lexL_skip (fun K hK => ⟨by kernel_rfl, ?_⟩)
          go_simp
          refine hK _ ?_
          clear hK K
          refine lexL_skip (fun K hK => ⟨by kernel_rfl, ?_⟩)
          go_simp
          refine hK _ ?_
          clear hK K
          refine lexL_skip (fun K hK => ⟨by kernel_rfl, ?_⟩)
          go_simp
          refine hK _ ?_
          clear hK K
          refine lexL_skip (fun K hK => ⟨by kernel_rfl, ?_⟩)
          go_simp
          refine hK _ ?_
          clear hK K
          refine lexL_skip (fun K hK => ⟨by kernel_rfl, ?_⟩)
          go_simp
          refine hK _ ?_
          clear hK K
          refine lexL_skip (fun K hK => ⟨by kernel_rfl, ?_⟩)
          go_simp
          refine hK _ ?_
          clear hK K
          refine lexL_skip (fun K hK => ⟨by kernel_rfl, ?_⟩)
          go_simp
          refine hK _ ?_
          clear hK K
          refine lexL_skip (fun K hK => ⟨by kernel_rfl, ?_⟩)
          go_simp
          refine hK _ ?_
          clear hK K
          refine lexL_step (fun K hK => ⟨by kernel_rfl, ⟨_, rfl⟩, fun n => ?_, fun v hv => ?_⟩)
          · go_simp
            exact lUpon_one
          subst hv
          go_simp
          refine hK _ ?_
          clear hK K
          refine lexL_step (fun K hK => ⟨by kernel_rfl, ⟨_, rfl⟩, fun n => ?_, fun v hv => ?_⟩)
          · go_simp
            exact lUpon_one
          subst hv
          go_simp
          refine hK _ ?_
          clear hK K
          refine lexL_step (fun K hK => ⟨by kernel_rfl, ⟨_, rfl⟩, fun n => ?_, fun v hv => ?_⟩)
          · go_simp
            exact lUpon_one
          subst hv
          go_simp
          refine hK _ ?_
          clear hK K
          refine lexL_step (fun K hK => ⟨by kernel_rfl, ⟨_, rfl⟩, fun n => ?_, fun v hv => ?_⟩)
          · go_simp
            exact lUpon_one
          subst hv
          go_simp
          refine hK _ ?_
          clear hK K
          refine lexL_step (fun K hK => ⟨by kernel_rfl, ⟨_, rfl⟩, fun n => ?_, fun v hv => ?_⟩)
          · go_simp
            exact lUpon_one
          subst hv
          go_simp
          refine hK _ ?_
          clear hK K
          refine lexL_step (fun K hK => ⟨by kernel_rfl, ⟨_, rfl⟩, fun n => ?_, fun v hv => ?_⟩)
          · go_simp
            exact lUpon_one
          subst hv
          go_simp
          refine hK _ ?_
          clear hK K
          refine lexL_step (fun K hK => ⟨by kernel_rfl, ⟨_, rfl⟩, fun n => ?_, fun v hv => ?_⟩)
          · go_simp
            exact lUpon_one
          subst hv
          go_simp
          refine hK _ ?_
          clear hK K
          refine lexL_step (fun K hK => ⟨by kernel_rfl, ⟨_, rfl⟩, fun n => ?_, fun v hv => ?_⟩)
          · go_simp
            exact lUpon_one
          subst hv
          go_simp
          refine hK _ ?_
          clear hK K
          refine lexL_step (fun K hK => ⟨by kernel_rfl, ⟨_, rfl⟩, fun n => ?_, fun v hv => ?_⟩)
          · go_simp
            exact lUpon_one
          subst hv
          go_simp
          refine hK _ ?_
          clear hK K
          refine lexL_step (fun K hK => ⟨by kernel_rfl, ⟨_, rfl⟩, fun n => ?_, fun v hv => ?_⟩)
          · go_simp
            exact lUpon_one
          subst hv
          go_simp
          refine hK _ ?_
          clear hK K
          refine lexL_end ?_
          intro n9
          replace HW := hideR (below_go (unhideR HW) (drawn_below v4 n9))
          clear c0 c1 c2
          go_wp2
          exact ⟨⟨i + 1, by omega, by go_num, HW⟩, by simp [intOf]; omega⟩
        · obtain ⟨hok, b1, b2, b3, b4, b5, b6, b7⟩ := unhideR HAI rfl
          obtain ⟨ix, hix⟩ : ∃ ix : Nat, ix = (y * p.wide + x).toNat := ⟨_, rfl⟩
          have hn : n = p.L.getD ix 0 := by rw [unhideR HAV, hix]; simp
          rw [← hix] at b7
          have w1 : IntKind.i64.wrap (y * p.wide) = y * p.wide := iwrap (by omega) (by omega)
          have w2' : IntKind.i64.wrap (y * p.wide + x) = (ix : Int) := by
            have := hok.w2
            rw [show y * p.wide + x = (ix : Int) by omega]
            exact iwrap (by omega) (by omega)
          obtain ⟨bl, ol, rfl, _, cl⟩ := (unhideR HRow).at_ ix b7
          rw [← hn] at cl
          have tn : (n != n) = false := by simp
          clear hix hn HAI HAV hok b1 b2 b3 b4 b5 b6
          go_wp2_with fail
          refine wp_region_lets [(· = .bool true),
            (· = .bool false),
            (· = .bool false),
            (· = .bool true),
            (· = .bool true),
            (· = .bool false),
            (· = .bool false),
            (· = .bool false),
            (· = .bool true),
            (· = .bool true),
            (· = .int .i64 n),
            (· = .slice (some ⟨b, off, none⟩) Ls.length cap),
            (· = .int .i64 (i : Nat)),
            (· = .pointer (some ⟨b, off + i * 3, none⟩)),
            (· = .pointer (some ⟨b, off + i * 3 + 2, none⟩)),
            (· = .slice (some ⟨bl, ol, none⟩) p.L.length capk),
            (· = .int .i64 y),
            (· = .slice (some ⟨b, off, none⟩) Ls.length cap),
            (· = .int .i64 (i : Nat)),
            (· = .pointer (some ⟨b, off + i * 3, none⟩)),
            (· = .pointer (some ⟨b, off + i * 3, none⟩)),
            (· = .int .i64 p.wide),
            (· = .int .i64 (y * p.wide)),
            (· = .int .i64 x),
            (· = .int .i64 (ix : Nat)),
            (· = .pointer (some ⟨bl, ol + ix, none⟩)),
            (· = .int .i64 n),
            (· = .bool false),
            (· = .bool false),
            (· = .bool false),
            (· = .bool false),
            (· = .bool true),
            (· = .bool false),
            (· = .bool false),
            (· = undef),
            (· = undef),
            (· = .bool false),
            (· = .bool false)] (by kernel_rfl) (by kernel_rfl) ?_
          refine lexL_step (fun K hK => ⟨by kernel_rfl, ⟨_, rfl⟩, fun n => ?_, fun v hv => ?_⟩)
          · go_simp
            exact lUpon_one
          subst hv
          go_simp
          refine hK _ ?_
          clear hK K
          refine lexL_step (fun K hK => ⟨by kernel_rfl, ⟨_, rfl⟩, fun n => ?_, fun v hv => ?_⟩)
          · go_simp
            exact lUpon_one
          subst hv
          go_simp
          refine hK _ ?_
          clear hK K
          refine lexL_step (fun K hK => ⟨by kernel_rfl, ⟨_, rfl⟩, fun n => ?_, fun v hv => ?_⟩)
          · go_simp
            exact lUpon_one
          subst hv
          go_simp
          refine hK _ ?_
          clear hK K
          refine lexL_step (fun K hK => ⟨by kernel_rfl, ⟨_, rfl⟩, fun n => ?_, fun v hv => ?_⟩)
          · go_simp
            exact lUpon_one
          subst hv
          go_simp
          refine hK _ ?_
          clear hK K
          refine lexL_step (fun K hK => ⟨by kernel_rfl, ⟨_, rfl⟩, fun n => ?_, fun v hv => ?_⟩)
          · go_simp
            exact lUpon_one
          subst hv
          go_simp
          refine hK _ ?_
          clear hK K
          refine lexL_step (fun K hK => ⟨by kernel_rfl, ⟨_, rfl⟩, fun n => ?_, fun v hv => ?_⟩)
          · go_simp
            exact lUpon_one
          subst hv
          go_simp
          refine hK _ ?_
          clear hK K
          refine lexL_step (fun K hK => ⟨by kernel_rfl, ⟨_, rfl⟩, fun n => ?_, fun v hv => ?_⟩)
          · go_simp
            exact lUpon_one
          subst hv
          go_simp
          refine hK _ ?_
          clear hK K
          refine lexL_step (fun K hK => ⟨by kernel_rfl, ⟨_, rfl⟩, fun n => ?_, fun v hv => ?_⟩)
          · go_simp
            exact lUpon_one
          subst hv
          go_simp
          refine hK _ ?_
          clear hK K
          refine lexL_step (fun K hK => ⟨by kernel_rfl, ⟨_, rfl⟩, fun n => ?_, fun v hv => ?_⟩)
          · go_simp
            exact lUpon_one
          subst hv
          go_simp
          refine hK _ ?_
          clear hK K
          refine lexL_step (fun K hK => ⟨by kernel_rfl, ⟨_, rfl⟩, fun n => ?_, fun v hv => ?_⟩)
          · go_simp
            exact lUpon_one
          subst hv
          go_simp
          refine hK _ ?_
          clear hK K
          refine lexL_step (fun K hK => ⟨by kernel_rfl, ⟨_, rfl⟩, fun n => ?_, fun v hv => ?_⟩)
          · go_simp
            exact lUpon_one
          subst hv
          go_simp
          refine hK _ ?_
          clear hK K
          refine lexL_step (fun K hK => ⟨by kernel_rfl, ⟨_, rfl⟩, fun n => ?_, fun v hv => ?_⟩)
          · go_simp
            exact lUpon_one
          subst hv
          go_simp
          refine hK _ ?_
          clear hK K
          refine lexL_step (fun K hK => ⟨by kernel_rfl, ⟨_, rfl⟩, fun n => ?_, fun v hv => ?_⟩)
          · go_simp
            exact lUpon_one
          subst hv
          go_simp
          refine hK _ ?_
          clear hK K
          refine lexL_step (fun K hK => ⟨by kernel_rfl, ⟨_, rfl⟩, fun n => ?_, fun v hv => ?_⟩)
          · go_simp
            exact lUpon_one
          subst hv
          go_simp
          refine hK _ ?_
          clear hK K
          refine lexL_step (fun K hK => ⟨by kernel_rfl, ⟨_, rfl⟩, fun n => ?_, fun v hv => ?_⟩)
          · go_simp
            exact lUpon_one
          subst hv
          go_simp
          refine hK _ ?_
          clear hK K
          refine lexL_step (fun K hK => ⟨by kernel_rfl, ⟨_, rfl⟩, fun n => ?_, fun v hv => ?_⟩)
          · go_simp
            exact lUpon_one
          subst hv
          go_simp
          refine hK _ ?_
          clear hK K
          refine lexL_step (fun K hK => ⟨by kernel_rfl, ⟨_, rfl⟩, fun n => ?_, fun v hv => ?_⟩)
          · go_simp
            exact lUpon_one
          subst hv
          go_simp
          refine hK _ ?_
          clear hK K
          refine lexL_step (fun K hK => ⟨by kernel_rfl, ⟨_, rfl⟩, fun n => ?_, fun v hv => ?_⟩)
          · go_simp
            exact lUpon_one
          subst hv
          go_simp
          refine hK _ ?_
          clear hK K
          refine lexL_step (fun K hK => ⟨by kernel_rfl, ⟨_, rfl⟩, fun n => ?_, fun v hv => ?_⟩)
          · go_simp
            exact lUpon_one
          subst hv
          go_simp
          refine hK _ ?_
          clear hK K
          refine lexL_step (fun K hK => ⟨by kernel_rfl, ⟨_, rfl⟩, fun n => ?_, fun v hv => ?_⟩)
          · go_simp
            exact lUpon_one
          subst hv
          go_simp
          refine hK _ ?_
          clear hK K
          refine lexL_step (fun K hK => ⟨by kernel_rfl, ⟨_, rfl⟩, fun n => ?_, fun v hv => ?_⟩)
          · go_simp
            exact lUpon_one
          subst hv
          go_simp
          refine hK _ ?_
          clear hK K
          refine lexL_step (fun K hK => ⟨by kernel_rfl, ⟨_, rfl⟩, fun n => ?_, fun v hv => ?_⟩)
          · go_simp
            exact lUpon_one
          subst hv
          go_simp
          refine hK _ ?_
          clear hK K
          refine lexL_step (fun K hK => ⟨by kernel_rfl, ⟨_, rfl⟩, fun n => ?_, fun v hv => ?_⟩)
          · go_simp
            exact lUpon_one
          subst hv
          go_simp
          refine hK _ ?_
          clear hK K
          refine lexL_step (fun K hK => ⟨by kernel_rfl, ⟨_, rfl⟩, fun n => ?_, fun v hv => ?_⟩)
          · go_simp
            exact lUpon_one
          subst hv
          go_simp
          refine hK _ ?_
          clear hK K
          refine lexL_step (fun K hK => ⟨by kernel_rfl, ⟨_, rfl⟩, fun n => ?_, fun v hv => ?_⟩)
          · go_simp
            exact lUpon_one
          subst hv
          go_simp
          refine hK _ ?_
          clear hK K
          refine lexL_step (fun K hK => ⟨by kernel_rfl, ⟨_, rfl⟩, fun n => ?_, fun v hv => ?_⟩)
          · go_simp
            exact lUpon_one
          subst hv
          go_simp
          refine hK _ ?_
          clear hK K
          refine lexL_step (fun K hK => ⟨by kernel_rfl, ⟨_, rfl⟩, fun n => ?_, fun v hv => ?_⟩)
          · go_simp
            exact lUpon_one
          subst hv
          go_simp
          refine hK _ ?_
          clear hK K
          refine lexL_step (fun K hK => ⟨by kernel_rfl, ⟨_, rfl⟩, fun n => ?_, fun v hv => ?_⟩)
          · go_simp
            exact lUpon_one
          subst hv
          go_simp
          refine hK _ ?_
          clear hK K
          refine lexL_step (fun K hK => ⟨by kernel_rfl, ⟨_, rfl⟩, fun n => ?_, fun v hv => ?_⟩)
          · go_simp
            exact lUpon_one
          subst hv
          go_simp
          refine hK _ ?_
          clear hK K
          refine lexL_step (fun K hK => ⟨by kernel_rfl, ⟨_, rfl⟩, fun n => ?_, fun v hv => ?_⟩)
          · go_simp
            exact lUpon_one
          subst hv
          go_simp
          refine hK _ ?_
          clear hK K
          refine lexL_step (fun K hK => ⟨by kernel_rfl, ⟨_, rfl⟩, fun n => ?_, fun v hv => ?_⟩)
          · go_simp
            exact lUpon_one
          subst hv
          go_simp
          refine hK _ ?_
          clear hK K
          refine lexL_step (fun K hK => ⟨by kernel_rfl, ⟨_, rfl⟩, fun n => ?_, fun v hv => ?_⟩)
          · go_simp
            exact lUpon_one
          subst hv
          go_simp
          refine hK _ ?_
          clear hK K
          refine lexL_step (fun K hK => ⟨by kernel_rfl, ⟨_, rfl⟩, fun n => ?_, fun v hv => ?_⟩)
          · go_simp
            exact lUpon_one
          subst hv
          go_simp
          refine hK _ ?_
          clear hK K
          refine lexL_step (fun K hK => ⟨by kernel_rfl, ⟨_, rfl⟩, fun n => ?_, fun v hv => ?_⟩)
          · go_simp
            exact lUpon_one
          subst hv
          go_simp
          refine hK _ ?_
          clear hK K
          refine lexL_skip (fun K hK => ⟨by kernel_rfl, ?_⟩)
          go_simp
          refine hK _ ?_
          clear hK K
          refine lexL_skip (fun K hK => ⟨by kernel_rfl, ?_⟩)
          go_simp
          refine hK _ ?_
          clear hK K
          refine lexL_step (fun K hK => ⟨by kernel_rfl, ⟨_, rfl⟩, fun n => ?_, fun v hv => ?_⟩)
          · go_simp
            exact lUpon_one
          subst hv
          go_simp
          refine hK _ ?_
          clear hK K
          refine lexL_step (fun K hK => ⟨by kernel_rfl, ⟨_, rfl⟩, fun n => ?_, fun v hv => ?_⟩)
          · go_simp
            exact lUpon_one
          subst hv
          go_simp
          refine hK _ ?_
          clear hK K
          refine lexL_end ?_
          intro n9
          replace HW := hideR (below_go (unhideR HW) (drawn_below v4 n9))
          clear c0 c1 c2 cl
          go_wp2
          exact ⟨⟨i + 1, by omega, by go_num, HW⟩, by simp [intOf]; omega⟩
      · obtain rfl : i = Ls.length := by omega
        go_wp2
        go_ret
        exact ⟨rfl, unhideR HW⟩
end Go.Proofs.YtncbmkflilcdgahDoor
