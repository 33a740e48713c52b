/-
  The law MountTakes: its walk, out of the program's mount by contracts.
-/
import Derived.Test.YteoappoijihomahDoorMtW0
import Derived.Test.YteoappoijihomahDoorLoose7
namespace Go.Proofs.YteoappoijihomahDoor
open Go Go.RowKit

set_option maxRecDepth 100000 in
set_option maxHeartbeats 6400000 in
theorem takes_walk {a : Nat → Addr} {Rep : World → Nat → Mt → Prop} (hP : MtProg (fun w => Sents w a) a Rep) (x y : Lim) (pat : Int) {ad : Option Addr} {cap : Nat} {L : List OpS} (w : World) (hS : Sents w a) (hO : OpCame w w.heap.size ad L) (hl : L.length * 48 ≤ 140737488355328) :
    Calls Tryd.prog 5 #[x.val, y.val, .int .i64 pat, .slice ad L.length cap] w fun e w' => e = .returned (.bool true) ∧ Below w.heap.size w w' := by
  have HS := hideR hS
  have HO := hideR hO
  have hm := mounted_any hP ((w.alloc (.cells #[.int .i64 x.lo, .int .i64 x.hi, .int .i64 x.fast, .int .i64 x.home] 53)).alloc (.cells #[.int .i64 y.lo, .int .i64 y.hi, .int .i64 y.fast, .int .i64 y.home] 53)) (hS.below (below_al2 w _ _) (Nat.le_refl _))
  unfold Lim.val
  clear hS hO
  by_cases hbig : 300 < L.length
  · go_enter Tryd.func5, Tryd.ntmps5
    go_wp2_with fail
    refine hm.mono ?_
    rintro e w1 ⟨rfl, k1⟩
    obtain ⟨_, _, k2⟩ := two_blocks k1
    have HW := hideR k2
    clear k1 k2 hm
    go_wp2
    go_ret
    exact ⟨rfl, unhideR HW⟩
  · go_enter Tryd.func5, Tryd.ntmps5
    go_wp2_with fail
    refine hm.mono ?_
    rintro e w1 ⟨rfl, k1⟩
    obtain ⟨hA, hB, k2⟩ := two_blocks k1
    have HA := hideR hA
    have HB := hideR hB
    have HW := hideR k2
    clear k1 k2 hm hA hB
    go_wp2_with fail
    refine wp_region_made 5 #[true, true, true, true, true, false, false, false, false, false, false] [.lets (· = .agg #[.int .i64 x.lo, .int .i64 x.hi, .int .i64 x.fast, .int .i64 x.home]),
      .lets (· = .agg #[.int .i64 x.lo, .int .i64 x.hi, .int .i64 x.fast, .int .i64 x.home]),
      .lets (· = .agg #[.int .i64 y.lo, .int .i64 y.hi, .int .i64 y.fast, .int .i64 y.home]),
      .lets (· = .agg #[.int .i64 y.lo, .int .i64 y.hi, .int .i64 y.fast, .int .i64 y.home]),
      .lets (· = .int .i64 pat)] [] [] (by kernel_rfl) (by kernel_rfl) rfl ?kinds (by kernel_rfl) (by kernel_rfl) (by kernel_rfl) ?_
    case kinds =>
      constructor
      · intro i h
        rcases i with _ | _ | _ | _ | _ | i <;> simp [Kx.isMade] at h
      · intro i h
        rcases i with _ | _ | _ | _ | _ | i <;> simp [Kx.isUse] at h
    refine lexX_step (fun K hK => ⟨by kernel_rfl, ⟨_, rfl⟩, fun v hv => ?_, fun v hv => ?_⟩)
    · obtain ⟨e0, e1, e2, e3⟩ := four_cells (keepB (unhideR HA) hv)
      go_simp
      exact mUpon_b
    subst hv
    go_simp
    refine hK _ ?_
    clear hK K
    refine lexX_step (fun K hK => ⟨by kernel_rfl, ⟨_, rfl⟩, fun v hv => ?_, fun v hv => ?_⟩)
    · go_simp
      refine (limits_any x _).mono ?_
      rintro e w9 ⟨rfl, k⟩
      exact ⟨_, rfl, rfl, k⟩
    subst hv
    go_simp
    refine hK _ ?_
    clear hK K
    refine lexX_step (fun K hK => ⟨by kernel_rfl, ⟨_, rfl⟩, fun v hv => ?_, fun v hv => ?_⟩)
    · obtain ⟨e0, e1, e2, e3⟩ := four_cells (keepB (unhideR HB) hv)
      go_simp
      exact mUpon_b
    subst hv
    go_simp
    refine hK _ ?_
    clear hK K
    refine lexX_step (fun K hK => ⟨by kernel_rfl, ⟨_, rfl⟩, fun v hv => ?_, fun v hv => ?_⟩)
    · go_simp
      refine (limits_any y _).mono ?_
      rintro e w9 ⟨rfl, k⟩
      exact ⟨_, rfl, rfl, k⟩
    subst hv
    go_simp
    refine hK _ ?_
    clear hK K
    refine lexX_step (fun K hK => ⟨by kernel_rfl, ⟨_, rfl⟩, fun v hv => ?_, fun v hv => ?_⟩)
    · go_simp
      exact mUpon_b
    subst hv
    go_simp
    refine hK _ ?_
    clear hK K
    refine lexX_end (fun v5 hv => ?_)
    replace HA := hideR (keepB (unhideR HA) hv.low)
    replace HB := hideR (keepB (unhideR HB) hv.low)
    replace HW := hideR (below_go (unhideR HW) hv.low)
    clear hv
    have hnew := hP.new x y pat v5 ((unhideR HS).below (unhideR HW) (Nat.le_refl _))
    unfold Lim.val at hnew
    refine wpAny_step (i := 5) (by kernel_rfl) rfl (by kernel_rfl) (fun K hK => ?_)
    unfold Oper.wp
    go_simp
    refine hnew.mono ?_
    rintro e w2 ⟨k2, ⟨h0, g, rfl, hg, hR⟩ | ⟨h0, er, her, rfl⟩⟩
    all_goals
      replace HA := hideR (keepB (unhideR HA) k2)
      replace HB := hideR (keepB (unhideR HB) k2)
    · replace hg : w.heap.size ≤ g := Nat.le_trans (unhideR HW).size hg
      have HP := hideR hR
      replace HW := hideR (below_go (unhideR HW) k2)
      clear hnew hR k2
      go_simp
      refine hK _ _ ?_
      clear hK K
      refine wpAny_step (i := 6) (by kernel_rfl) rfl (by kernel_rfl) (fun K hK => ?_)
      unfold Oper.wp
      go_simp
      refine hK _ _ ?_
      clear hK K
      refine wpAny_two (i := 7) (j := 8) (by kernel_rfl) rfl rfl (by kernel_rfl) (by kernel_rfl) (fun K hK => ?oa) (fun K hK => ?ob)
      case' oa =>
        unfold Oper.wp
        go_simp
        refine hK _ _ ?_
        clear hK K
        refine wpAny_two (i := 8) (j := 9) (by kernel_rfl) rfl rfl (by kernel_rfl) (by kernel_rfl) (fun K hK => ?oc) (fun K hK => ?od)
      case' oc =>
        unfold Oper.wp
        go_simp
        refine hK _ _ ?_
        clear hK K
        refine wpAny_step (i := 9) (by kernel_rfl) rfl (by kernel_rfl) (fun K hK => ?_)
        unfold Oper.wp
        go_simp
        refine hK _ _ ?_
        clear hK K
        refine wpAny_step (i := 10) (by kernel_rfl) rfl (by kernel_rfl) (fun K hK => ?_)
        unfold Oper.wp
        go_simp
        refine hK _ _ ?_
        clear hK K
        refine wpAny_end (by kernel_rfl) ?_
      case' od =>
        unfold Oper.wp
        go_simp
        refine hK _ _ ?_
        clear hK K
        refine wpAny_step (i := 8) (by kernel_rfl) rfl (by kernel_rfl) (fun K hK => ?_)
        unfold Oper.wp
        go_simp
        refine hK _ _ ?_
        clear hK K
        refine wpAny_step (i := 10) (by kernel_rfl) rfl (by kernel_rfl) (fun K hK => ?_)
        unfold Oper.wp
        go_simp
        refine hK _ _ ?_
        clear hK K
        refine wpAny_end (by kernel_rfl) ?_
      case' ob =>
        unfold Oper.wp
        go_simp
        refine hK _ _ ?_
        clear hK K
        refine wpAny_step (i := 7) (by kernel_rfl) rfl (by kernel_rfl) (fun K hK => ?_)
        unfold Oper.wp
        go_simp
        refine hK _ _ ?_
        clear hK K
        refine wpAny_step (i := 9) (by kernel_rfl) rfl (by kernel_rfl) (fun K hK => ?_)
        unfold Oper.wp
        go_simp
        refine hK _ _ ?_
        clear hK K
        refine wpAny_step (i := 10) (by kernel_rfl) rfl (by kernel_rfl) (fun K hK => ?_)
        unfold Oper.wp
        go_simp
        refine hK _ _ ?_
        clear hK K
        refine wpAny_end (by kernel_rfl) ?_
      all_goals
        obtain ⟨e0, e1, e2, e3⟩ := four_cells (unhideR HA)
        obtain ⟨q0, q1, q2, q3⟩ := four_cells (unhideR HB)
        go_wp2_with fail
        refine (mountOf_any x y pat _).mono ?_
        rintro e w3 ⟨p, rfl, hq1, hq2, k3⟩
        rw [h0]
        obtain ⟨r, rfl, hr, hRef⟩ := hq2 h0
        have hgr : g ≠ r := by have := hP.low (unhideR HP); omega
        have hwr : w.heap.size ≤ r := Nat.le_trans (unhideR HW).size hr
        have HR := hideR hRef
        replace HP := hideR (hP.go (unhideR HP) k3)
        replace HW := hideR (below_go (unhideR HW) k3)
        have hcd := coded_err ((unhideR HS).below (unhideR HW) (Nat.le_refl _)) (show ErrIs a 0 .nilIface from .inl ⟨rfl, rfl⟩)
        clear hq1 hq2 k3 hr hRef e0 e1 e2 e3 q0 q1 q2 q3
        go_wp2_with fail
        refine hcd.mono ?_
        rintro e w4 ⟨rfl, k4⟩
        replace HP := hideR (hP.go (unhideR HP) k4)
        replace HR := hideR ((unhideR HR).keep k4)
        replace HW := hideR (below_go (unhideR HW) k4)
        clear k4 hcd HA HB
        have HF0 := hideR (new_fine h0)
        have HQ0 : HeldR ((newV x y pat).quiet ≤ ((0 : Nat) : Int)) := Int.le_refl _
        generalize newV x y pat = m0 at *
        clear h0
        go_wp2_with fail
        go_loopw [15] (fun iv wl => ∃ (i : Nat) (m : Mt), i ≤ L.length ∧ iv = .int .i64 (i : Nat) ∧ HeldR (Fine m) ∧ HeldR (m.quiet ≤ (i : Int)) ∧ HeldR (Rep wl g m) ∧ HeldR (Ref wl r m) ∧ HeldR (Below w.heap.size w wl)) (fun iv _ => L.length + 1 - (intOf iv).toNat)
        case atStart => exact ⟨0, m0, by omega, rfl, HF0, HQ0, HP, HR, HW⟩
        case round =>
          clear HF0 HQ0 HP HR HW
          obtain ⟨i, m, hi, rfl, HF, HQ, HP, HR, HW⟩ := hrel
          by_cases hlt : i < L.length
          · obtain ⟨b, off, rfl, hB, hb, hat⟩ := ((unhideR HO).keep (unhideR HW)).at_ i hlt
            have HAt := hideR hat
            obtain ⟨c0, c1, c2, c3, c4⟩ := hat
            generalize L.getD i op0 = o at *
            obtain ⟨tk, c⟩ := o
            simp only at c0 c1 c2 c3 c4
            have hqi : m.quiet ≤ 1000000 := by have := unhideR HQ; omega
            cases tk with
            | true =>
              have hF1 := tick_fine (unhideR HF)
              have HF1 := hideR hF1.1
              have HQ1 : HeldR ((tickV m).quiet ≤ ((i + 1 : Nat) : Int)) := by
                unfold HeldR
                rw [hF1.2.2.2.2.2.2]
                have := unhideR HQ
                omega
              have ht := hP.tick (unhideR HP) (unhideR HF) hqi ((unhideR HS).below (unhideR HW) (Nat.le_refl _))
              clear hF1
              go_wp2_with fail
              refine ht.mono ?_
              rintro e w5 ⟨rfl, h5, k5⟩
              have ht2 := rtick_any ((unhideR HR).chg k5 (Ne.symm hgr)) (unhideR HF) hqi
              replace HW := hideR (Chg.into (unhideR HW) k5 hg rfl)
              clear k5 ht HP HR c0 c1 c2 c3 c4
              go_wp2_with fail
              refine ht2.mono ?_
              rintro e w6 ⟨rfl, h6, k6⟩
              have HP := hideR (hP.keep h5 k6 hgr)
              have HR := hideR h6
              replace HW := hideR (Chg.into (unhideR HW) k6 hwr rfl)
              clear h5 h6 k6 ht2 HF HQ
              generalize tickV m = m1 at *
              have c8 : w6.cell? ⟨r, 8, none⟩ = some (.int .i64 m1.X) := ((unhideR HR).cell 8 (by decide)).1
              have c9 : w6.cell? ⟨r, 9, none⟩ = some (.int .i64 m1.Y) := ((unhideR HR).cell 9 (by decide)).1
              have tX := bne_no m1.X
              have tY := bne_no m1.Y
              have tS := bne_no m1.st
              go_wp2_with fail
              refine (hP.at_ (unhideR HP)).mono ?_
              rintro e w7 ⟨rfl, k7⟩
              replace HP := hideR (hP.go (unhideR HP) k7)
              replace HR := hideR ((unhideR HR).keep k7)
              replace HW := hideR (below_go (unhideR HW) k7)
              clear k7
              go_wp2_with fail
              refine wp_region_made 0 #[true, true, true, true, true, true, true, true, true, true, true, true, true, true, true, true, true, true, true, true, true, true, false] [.lets (· = .int .i64 m1.X),
                .lets (· = .pointer (some ⟨r, 0, none⟩)),
                .lets (· = .pointer (some ⟨r, 0, none⟩)),
                .lets (· = .pointer (some ⟨r, 8, none⟩)),
                .lets (· = .int .i64 m1.X),
                .lets (· = .bool false),
                .lets (· = .bool false),
                .lets (· = .int .i64 m1.Y),
                .lets (· = .pointer (some ⟨r, 0, none⟩)),
                .lets (· = .pointer (some ⟨r, 0, none⟩)),
                .lets (· = .pointer (some ⟨r, 9, none⟩)),
                .lets (· = .int .i64 m1.Y),
                .lets (· = .bool false),
                .lets (· = .bool false),
                .lets (· = .bool false),
                .lets (· = .pointer (some ⟨g, 0, none⟩)),
                .lets (· = .int .i64 m1.st),
                .lets (· = .pointer (some ⟨r, 0, none⟩)),
                .lets (· = .pointer (some ⟨r, 0, none⟩)),
                .lets (· = .pointer (some ⟨r, 12, none⟩)),
                .lets (· = .int .i64 m1.st),
                .lets (· = .bool false)] [] [] (by kernel_rfl) (by kernel_rfl) rfl ?kinds (by kernel_rfl) (by kernel_rfl) (by kernel_rfl) ?_
              case kinds =>
                constructor
                · intro i h
                  rcases i with _ | _ | _ | _ | _ | _ | _ | _ | _ | _ | _ | _ | _ | _ | _ | _ | _ | _ | _ | _ | _ | _ | i <;> simp [Kx.isMade] at h
                · intro i h
                  rcases i with _ | _ | _ | _ | _ | _ | _ | _ | _ | _ | _ | _ | _ | _ | _ | _ | _ | _ | _ | _ | _ | _ | i <;> simp [Kx.isUse] at h
              refine lexX_step (fun K hK => ⟨by kernel_rfl, ⟨_, rfl⟩, fun v hv => ?_, fun v hv => ?_⟩)
              · go_simp
                exact mUpon_b
              subst hv
              go_simp
              refine hK _ ?_
              clear hK K
              refine lexX_step (fun K hK => ⟨by kernel_rfl, ⟨_, rfl⟩, fun v hv => ?_, fun v hv => ?_⟩)
              · go_simp
                exact mUpon_b
              subst hv
              go_simp
              refine hK _ ?_
              clear hK K
              refine lexX_step (fun K hK => ⟨by kernel_rfl, ⟨_, rfl⟩, fun v hv => ?_, fun v hv => ?_⟩)
              · go_simp
                exact mUpon_b
              subst hv
              go_simp
              refine hK _ ?_
              clear hK K
              refine lexX_step (fun K hK => ⟨by kernel_rfl, ⟨_, rfl⟩, fun v hv => ?_, fun v hv => ?_⟩)
              · go_simp
                exact mUpon_b
              subst hv
              go_simp
              refine hK _ ?_
              clear hK K
              refine lexX_step (fun K hK => ⟨by kernel_rfl, ⟨_, rfl⟩, fun v hv => ?_, fun v hv => ?_⟩)
              · have c : v.cell? ⟨r, 8, none⟩ = some (.int .i64 m1.X) := (((unhideR HR).keep hv).cell 8 (by decide)).1
                go_simp
                exact mUpon_b
              subst hv
              go_simp
              refine hK _ ?_
              clear hK K
              refine lexX_step (fun K hK => ⟨by kernel_rfl, ⟨_, rfl⟩, fun v hv => ?_, fun v hv => ?_⟩)
              · go_simp
                exact mUpon_b
              subst hv
              go_simp
              refine hK _ ?_
              clear hK K
              refine lexX_step (fun K hK => ⟨by kernel_rfl, ⟨_, rfl⟩, fun v hv => ?_, fun v hv => ?_⟩)
              · go_simp
                exact mUpon_b
              subst hv
              go_simp
              refine hK _ ?_
              clear hK K
              refine lexX_step (fun K hK => ⟨by kernel_rfl, ⟨_, rfl⟩, fun v hv => ?_, fun v hv => ?_⟩)
              · go_simp
                exact mUpon_b
              subst hv
              go_simp
              refine hK _ ?_
              clear hK K
              refine lexX_step (fun K hK => ⟨by kernel_rfl, ⟨_, rfl⟩, fun v hv => ?_, fun v hv => ?_⟩)
              · go_simp
                exact mUpon_b
              subst hv
              go_simp
              refine hK _ ?_
              clear hK K
              refine lexX_step (fun K hK => ⟨by kernel_rfl, ⟨_, rfl⟩, fun v hv => ?_, fun v hv => ?_⟩)
              · go_simp
                exact mUpon_b
              subst hv
              go_simp
              refine hK _ ?_
              clear hK K
              refine lexX_step (fun K hK => ⟨by kernel_rfl, ⟨_, rfl⟩, fun v hv => ?_, fun v hv => ?_⟩)
              · go_simp
                exact mUpon_b
              subst hv
              go_simp
              refine hK _ ?_
              clear hK K
              refine lexX_step (fun K hK => ⟨by kernel_rfl, ⟨_, rfl⟩, fun v hv => ?_, fun v hv => ?_⟩)
              · have c : v.cell? ⟨r, 9, none⟩ = some (.int .i64 m1.Y) := (((unhideR HR).keep hv).cell 9 (by decide)).1
                go_simp
                exact mUpon_b
              subst hv
              go_simp
              refine hK _ ?_
              clear hK K
              refine lexX_step (fun K hK => ⟨by kernel_rfl, ⟨_, rfl⟩, fun v hv => ?_, fun v hv => ?_⟩)
              · go_simp
                exact mUpon_b
              subst hv
              go_simp
              refine hK _ ?_
              clear hK K
              refine lexX_step (fun K hK => ⟨by kernel_rfl, ⟨_, rfl⟩, fun v hv => ?_, fun v hv => ?_⟩)
              · go_simp
                exact mUpon_b
              subst hv
              go_simp
              refine hK _ ?_
              clear hK K
              refine lexX_step (fun K hK => ⟨by kernel_rfl, ⟨_, rfl⟩, fun v hv => ?_, fun v hv => ?_⟩)
              · go_simp
                exact mUpon_b
              subst hv
              go_simp
              refine hK _ ?_
              clear hK K
              refine lexX_step (fun K hK => ⟨by kernel_rfl, ⟨_, rfl⟩, fun v hv => ?_, fun v hv => ?_⟩)
              · go_simp
                exact mUpon_b
              subst hv
              go_simp
              refine hK _ ?_
              clear hK K
              refine lexX_step (fun K hK => ⟨by kernel_rfl, ⟨_, rfl⟩, fun v hv => ?_, fun v hv => ?_⟩)
              · go_simp
                refine (hP.state (hP.go (unhideR HP) hv)).mono ?_
                rintro e w9 ⟨rfl, k⟩
                exact ⟨_, rfl, rfl, k⟩
              subst hv
              go_simp
              refine hK _ ?_
              clear hK K
              refine lexX_step (fun K hK => ⟨by kernel_rfl, ⟨_, rfl⟩, fun v hv => ?_, fun v hv => ?_⟩)
              · go_simp
                exact mUpon_b
              subst hv
              go_simp
              refine hK _ ?_
              clear hK K
              refine lexX_step (fun K hK => ⟨by kernel_rfl, ⟨_, rfl⟩, fun v hv => ?_, fun v hv => ?_⟩)
              · go_simp
                exact mUpon_b
              subst hv
              go_simp
              refine hK _ ?_
              clear hK K
              refine lexX_step (fun K hK => ⟨by kernel_rfl, ⟨_, rfl⟩, fun v hv => ?_, fun v hv => ?_⟩)
              · go_simp
                exact mUpon_b
              subst hv
              go_simp
              refine hK _ ?_
              clear hK K
              refine lexX_step (fun K hK => ⟨by kernel_rfl, ⟨_, rfl⟩, fun v hv => ?_, fun v hv => ?_⟩)
              · have c : v.cell? ⟨r, 12, none⟩ = some (.int .i64 m1.st) := (((unhideR HR).keep hv).cell 12 (by decide)).1
                go_simp
                exact mUpon_b
              subst hv
              go_simp
              refine hK _ ?_
              clear hK K
              refine lexX_step (fun K hK => ⟨by kernel_rfl, ⟨_, rfl⟩, fun v hv => ?_, fun v hv => ?_⟩)
              · go_simp
                exact mUpon_b
              subst hv
              go_simp
              refine hK _ ?_
              clear hK K
              refine lexX_end (fun v9 hv => ?_)
              replace HP := hideR (hP.go (unhideR HP) hv.low)
              replace HR := hideR ((unhideR HR).keep hv.low)
              replace HW := hideR (below_go (unhideR HW) hv.low)
              clear hv
              refine wpAny_step (i := 22) (by kernel_rfl) rfl (by kernel_rfl) (fun K hK => ?_)
              unfold Oper.wp
              go_simp
              refine hK _ _ ?_
              clear hK K
              refine wpAny_end (by kernel_rfl) ?_
              go_wp2
              exact ⟨⟨i + 1, m1, by omega, by go_num, HF1, HQ1, HP, HR, HW⟩, by simp [intOf]; omega⟩
            | false =>
              obtain ⟨m1, cd, hmc⟩ : ∃ m1 cd, takeV m c.cmd = (m1, cd) := ⟨_, _, rfl⟩
              have HF1 : HeldR (Fine m1) := by
                have := (take_fine (unhideR HF) c.cmd).1
                rw [hmc] at this
                exact this
              have HQ1 : HeldR (m1.quiet ≤ ((i + 1 : Nat) : Int)) := by
                have h := take_quiet (unhideR HF) c.cmd
                rw [hmc] at h
                have := unhideR HQ
                unfold HeldR
                rcases h with h | h
                all_goals
                  replace h : m1.quiet = _ := h
                  omega
              have htk : ∀ u, Rep u g m → Sents u a → Calls Tryd.prog 30 #[.pointer (some ⟨g, 0, none⟩), .agg #[.int .i64 c.num, .string c.s, .int .i64 c.a, .int .i64 c.b]] u (fun e w' => ∃ er, ErrIs a cd er ∧ e = .returned (.agg #[.int .i64 c.num, er, .int .i64 m1.X, .int .i64 m1.Y, .int .i64 m1.st]) ∧ Rep w' g m1 ∧ Chg g u w') := fun u h1 h2 => by
                have h := hP.take c h1 (unhideR HF) h2
                rw [hmc] at h
                exact h
              have hrt : ∀ u, Ref u r m → Calls Tryd.prog 32 #[.pointer (some ⟨r, 0, none⟩), .agg #[.int .i64 c.num, .string c.s, .int .i64 c.a, .int .i64 c.b]] u (fun e w' => e = .returned (.agg #[.int .i64 c.num, .int .i64 cd, .int .i64 m1.X, .int .i64 m1.Y, .int .i64 m1.st]) ∧ Ref w' r m1 ∧ Chg r u w') := fun u h1 => by
                have h := rtake_any h1 c (unhideR HF)
                unfold TakePost at h
                rw [hmc] at h
                exact h
              have hcm : ∀ u, Calls Tryd.prog 31 #[.agg #[.int .i64 c.num, .string c.s, .int .i64 c.a, .int .i64 c.b]] u (fun e w' => e = .returned (.agg #[.int .i64 c.num, .string c.s, .int .i64 c.a, .int .i64 c.b]) ∧ Below u.heap.size u w') := fun u => command_any c u
              clear hmc HF HQ hqi
              go_wp2_with fail
              refine (hcm _).mono ?_
              rintro e w5 ⟨rfl, k5⟩
              replace HP := hideR (hP.go (unhideR HP) k5)
              replace HR := hideR ((unhideR HR).keep k5)
              replace HW := hideR (below_go (unhideR HW) k5)
              replace HAt := hideR ((unhideR HAt).chg (Chg.of (g := r) k5) hb (by omega))
              replace hb : b < w5.heap.size := Nat.lt_of_lt_of_le hb k5.size
              have hk := htk _ (unhideR HP) ((unhideR HS).below (unhideR HW) (Nat.le_refl _))
              clear k5 c0 c1 c2 c3 c4 htk hcm
              go_wp2_with fail
              refine hk.mono ?_
              rintro e w6 ⟨er, her, rfl, h6, k6⟩
              replace HP := hideR (hP.go h6 (below_a w6 (.cells #[.int .i64 c.num, er, .int .i64 m1.X, .int .i64 m1.Y, .int .i64 m1.st] 72)))
              replace HR := hideR (((unhideR HR).chg k6 (Ne.symm hgr)).keep (below_a w6 (.cells #[.int .i64 c.num, er, .int .i64 m1.X, .int .i64 m1.Y, .int .i64 m1.st] 72)))
              replace HW := hideR (below_go (Chg.into (unhideR HW) k6 hg rfl) (below_a w6 (.cells #[.int .i64 c.num, er, .int .i64 m1.X, .int .i64 m1.Y, .int .i64 m1.st] 72)))
              replace HAt := hideR ((unhideR HAt).chg (k6.go (below_a w6 (.cells #[.int .i64 c.num, er, .int .i64 m1.X, .int .i64 m1.Y, .int .i64 m1.st] 72))) hb (by omega))
              replace hb : b < (w6.alloc (.cells #[.int .i64 c.num, er, .int .i64 m1.X, .int .i64 m1.Y, .int .i64 m1.st] 72)).heap.size := Nat.lt_of_lt_of_le hb (k6.go (below_a w6 (.cells #[.int .i64 c.num, er, .int .i64 m1.X, .int .i64 m1.Y, .int .i64 m1.st] 72))).size
              have HB1 := hideR (alloc_last w6 (.cells #[.int .i64 c.num, er, .int .i64 m1.X, .int .i64 m1.Y, .int .i64 m1.st] 72))
              have hr6 : w6.heap.size ≠ r := by
                have h1 := ltB (unhideR HR).blk
                have h2 := ltB ((unhideR HR).blk)
                intro e
                have h3 := (unhideR HR).blk
                rw [← e, alloc_last] at h3
                injection h3 with h3
                injection h3 with _ h3
                exact absurd h3 (by decide)
              obtain ⟨_, d1, d2, d3, d4⟩ := unhideR HAt
              simp only at d1 d2 d3 d4
              have hk2 := hrt _ (unhideR HR)
              have hst := fun (u : World) (ad : Addr) (md : Mode) => run_store Tryd.prog u ad er md (err_one her)
              clear h6 k6 hk hrt
              go_wp2_with fail
              clear hst
              clear d1 d2 d3 d4
              refine hk2.mono ?_
              rintro e w7 ⟨rfl, h7, k7⟩
              replace HP := hideR (hP.go (hP.keep (unhideR HP) k7 hgr) (below_a w7 (.cells #[.int .i64 c.num, .int .i64 cd, .int .i64 m1.X, .int .i64 m1.Y, .int .i64 m1.st] 77)))
              replace HR := hideR (h7.keep (below_a w7 (.cells #[.int .i64 c.num, .int .i64 cd, .int .i64 m1.X, .int .i64 m1.Y, .int .i64 m1.st] 77)))
              replace HW := hideR (below_go (Chg.into (unhideR HW) k7 hwr rfl) (below_a w7 (.cells #[.int .i64 c.num, .int .i64 cd, .int .i64 m1.X, .int .i64 m1.Y, .int .i64 m1.st] 77)))
              replace HB1 := hideR (keepA (o' := .cells #[.int .i64 c.num, .int .i64 cd, .int .i64 m1.X, .int .i64 m1.Y, .int .i64 m1.st] 77) (k7.blk (unhideR HB1) hr6))
              have HB2 := hideR (alloc_last w7 (.cells #[.int .i64 c.num, .int .i64 cd, .int .i64 m1.X, .int .i64 m1.Y, .int .i64 m1.st] 77))
              have hcd := coded_err ((unhideR HS).below (unhideR HW) (Nat.le_refl _)) her
              obtain ⟨⟨_, z1, _, _, _⟩, _⟩ := five_cells (unhideR HB1)
              clear h7 k7 hk2 HAt hb her
              go_wp2_with fail
              clear z1
              generalize w7.alloc (.cells #[.int .i64 c.num, .int .i64 cd, .int .i64 m1.X, .int .i64 m1.Y, .int .i64 m1.st] 77) = W7 at *
              refine hcd.mono ?_
              rintro e w8 ⟨rfl, k8⟩
              replace HP := hideR (hP.go (unhideR HP) k8)
              replace HR := hideR ((unhideR HR).keep k8)
              replace HW := hideR (below_go (unhideR HW) k8)
              obtain ⟨⟨z0, z1, z2, z3, z4⟩, _⟩ := five_cells (keepB (unhideR HB1) k8)
              obtain ⟨⟨y0, y1, y2, y3, y4⟩, _⟩ := five_cells (keepB (unhideR HB2) k8)
              clear k8 hcd HB1 HB2
              have tN := bne_no c.num
              have tX := bne_no m1.X
              have tY := bne_no m1.Y
              have tS := bne_no m1.st
              go_wp2_with fail
              refine (hP.at_ (unhideR HP)).mono ?_
              rintro e w7 ⟨rfl, k7⟩
              replace HP := hideR (hP.go (unhideR HP) k7)
              replace HR := hideR ((unhideR HR).keep k7)
              replace HW := hideR (below_go (unhideR HW) k7)
              clear k7
              go_wp2_with fail
              refine wp_region_made 0 #[true, true, true, true, true, true, true, true, true, true, true, true, true, true, true, true, true, true, true, true, true, true, false] [.lets (· = .int .i64 m1.X),
                .lets (· = .pointer (some ⟨r, 0, none⟩)),
                .lets (· = .pointer (some ⟨r, 0, none⟩)),
                .lets (· = .pointer (some ⟨r, 8, none⟩)),
                .lets (· = .int .i64 m1.X),
                .lets (· = .bool false),
                .lets (· = .bool false),
                .lets (· = .int .i64 m1.Y),
                .lets (· = .pointer (some ⟨r, 0, none⟩)),
                .lets (· = .pointer (some ⟨r, 0, none⟩)),
                .lets (· = .pointer (some ⟨r, 9, none⟩)),
                .lets (· = .int .i64 m1.Y),
                .lets (· = .bool false),
                .lets (· = .bool false),
                .lets (· = .bool false),
                .lets (· = .pointer (some ⟨g, 0, none⟩)),
                .lets (· = .int .i64 m1.st),
                .lets (· = .pointer (some ⟨r, 0, none⟩)),
                .lets (· = .pointer (some ⟨r, 0, none⟩)),
                .lets (· = .pointer (some ⟨r, 12, none⟩)),
                .lets (· = .int .i64 m1.st),
                .lets (· = .bool false)] [] [] (by kernel_rfl) (by kernel_rfl) rfl ?kinds (by kernel_rfl) (by kernel_rfl) (by kernel_rfl) ?_
              case kinds =>
                constructor
                · intro i h
                  rcases i with _ | _ | _ | _ | _ | _ | _ | _ | _ | _ | _ | _ | _ | _ | _ | _ | _ | _ | _ | _ | _ | _ | i <;> simp [Kx.isMade] at h
                · intro i h
                  rcases i with _ | _ | _ | _ | _ | _ | _ | _ | _ | _ | _ | _ | _ | _ | _ | _ | _ | _ | _ | _ | _ | _ | i <;> simp [Kx.isUse] at h
              refine lexX_step (fun K hK => ⟨by kernel_rfl, ⟨_, rfl⟩, fun v hv => ?_, fun v hv => ?_⟩)
              · go_simp
                exact mUpon_b
              subst hv
              go_simp
              refine hK _ ?_
              clear hK K
              refine lexX_step (fun K hK => ⟨by kernel_rfl, ⟨_, rfl⟩, fun v hv => ?_, fun v hv => ?_⟩)
              · go_simp
                exact mUpon_b
              subst hv
              go_simp
              refine hK _ ?_
              clear hK K
              refine lexX_step (fun K hK => ⟨by kernel_rfl, ⟨_, rfl⟩, fun v hv => ?_, fun v hv => ?_⟩)
              · go_simp
                exact mUpon_b
              subst hv
              go_simp
              refine hK _ ?_
              clear hK K
              refine lexX_step (fun K hK => ⟨by kernel_rfl, ⟨_, rfl⟩, fun v hv => ?_, fun v hv => ?_⟩)
              · go_simp
                exact mUpon_b
              subst hv
              go_simp
              refine hK _ ?_
              clear hK K
              refine lexX_step (fun K hK => ⟨by kernel_rfl, ⟨_, rfl⟩, fun v hv => ?_, fun v hv => ?_⟩)
              · have c : v.cell? ⟨r, 8, none⟩ = some (.int .i64 m1.X) := (((unhideR HR).keep hv).cell 8 (by decide)).1
                go_simp
                exact mUpon_b
              subst hv
              go_simp
              refine hK _ ?_
              clear hK K
              refine lexX_step (fun K hK => ⟨by kernel_rfl, ⟨_, rfl⟩, fun v hv => ?_, fun v hv => ?_⟩)
              · go_simp
                exact mUpon_b
              subst hv
              go_simp
              refine hK _ ?_
              clear hK K
              refine lexX_step (fun K hK => ⟨by kernel_rfl, ⟨_, rfl⟩, fun v hv => ?_, fun v hv => ?_⟩)
              · go_simp
                exact mUpon_b
              subst hv
              go_simp
              refine hK _ ?_
              clear hK K
              refine lexX_step (fun K hK => ⟨by kernel_rfl, ⟨_, rfl⟩, fun v hv => ?_, fun v hv => ?_⟩)
              · go_simp
                exact mUpon_b
              subst hv
              go_simp
              refine hK _ ?_
              clear hK K
              refine lexX_step (fun K hK => ⟨by kernel_rfl, ⟨_, rfl⟩, fun v hv => ?_, fun v hv => ?_⟩)
              · go_simp
                exact mUpon_b
              subst hv
              go_simp
              refine hK _ ?_
              clear hK K
              refine lexX_step (fun K hK => ⟨by kernel_rfl, ⟨_, rfl⟩, fun v hv => ?_, fun v hv => ?_⟩)
              · go_simp
                exact mUpon_b
              subst hv
              go_simp
              refine hK _ ?_
              clear hK K
              refine lexX_step (fun K hK => ⟨by kernel_rfl, ⟨_, rfl⟩, fun v hv => ?_, fun v hv => ?_⟩)
              · go_simp
                exact mUpon_b
              subst hv
              go_simp
              refine hK _ ?_
              clear hK K
              refine lexX_step (fun K hK => ⟨by kernel_rfl, ⟨_, rfl⟩, fun v hv => ?_, fun v hv => ?_⟩)
              · have c : v.cell? ⟨r, 9, none⟩ = some (.int .i64 m1.Y) := (((unhideR HR).keep hv).cell 9 (by decide)).1
                go_simp
                exact mUpon_b
              subst hv
              go_simp
              refine hK _ ?_
              clear hK K
              refine lexX_step (fun K hK => ⟨by kernel_rfl, ⟨_, rfl⟩, fun v hv => ?_, fun v hv => ?_⟩)
              · go_simp
                exact mUpon_b
              subst hv
              go_simp
              refine hK _ ?_
              clear hK K
              refine lexX_step (fun K hK => ⟨by kernel_rfl, ⟨_, rfl⟩, fun v hv => ?_, fun v hv => ?_⟩)
              · go_simp
                exact mUpon_b
              subst hv
              go_simp
              refine hK _ ?_
              clear hK K
              refine lexX_step (fun K hK => ⟨by kernel_rfl, ⟨_, rfl⟩, fun v hv => ?_, fun v hv => ?_⟩)
              · go_simp
                exact mUpon_b
              subst hv
              go_simp
              refine hK _ ?_
              clear hK K
              refine lexX_step (fun K hK => ⟨by kernel_rfl, ⟨_, rfl⟩, fun v hv => ?_, fun v hv => ?_⟩)
              · go_simp
                exact mUpon_b
              subst hv
              go_simp
              refine hK _ ?_
              clear hK K
              refine lexX_step (fun K hK => ⟨by kernel_rfl, ⟨_, rfl⟩, fun v hv => ?_, fun v hv => ?_⟩)
              · go_simp
                refine (hP.state (hP.go (unhideR HP) hv)).mono ?_
                rintro e w9 ⟨rfl, k⟩
                exact ⟨_, rfl, rfl, k⟩
              subst hv
              go_simp
              refine hK _ ?_
              clear hK K
              refine lexX_step (fun K hK => ⟨by kernel_rfl, ⟨_, rfl⟩, fun v hv => ?_, fun v hv => ?_⟩)
              · go_simp
                exact mUpon_b
              subst hv
              go_simp
              refine hK _ ?_
              clear hK K
              refine lexX_step (fun K hK => ⟨by kernel_rfl, ⟨_, rfl⟩, fun v hv => ?_, fun v hv => ?_⟩)
              · go_simp
                exact mUpon_b
              subst hv
              go_simp
              refine hK _ ?_
              clear hK K
              refine lexX_step (fun K hK => ⟨by kernel_rfl, ⟨_, rfl⟩, fun v hv => ?_, fun v hv => ?_⟩)
              · go_simp
                exact mUpon_b
              subst hv
              go_simp
              refine hK _ ?_
              clear hK K
              refine lexX_step (fun K hK => ⟨by kernel_rfl, ⟨_, rfl⟩, fun v hv => ?_, fun v hv => ?_⟩)
              · have c : v.cell? ⟨r, 12, none⟩ = some (.int .i64 m1.st) := (((unhideR HR).keep hv).cell 12 (by decide)).1
                go_simp
                exact mUpon_b
              subst hv
              go_simp
              refine hK _ ?_
              clear hK K
              refine lexX_step (fun K hK => ⟨by kernel_rfl, ⟨_, rfl⟩, fun v hv => ?_, fun v hv => ?_⟩)
              · go_simp
                exact mUpon_b
              subst hv
              go_simp
              refine hK _ ?_
              clear hK K
              refine lexX_end (fun v9 hv => ?_)
              replace HP := hideR (hP.go (unhideR HP) hv.low)
              replace HR := hideR ((unhideR HR).keep hv.low)
              replace HW := hideR (below_go (unhideR HW) hv.low)
              clear hv
              refine wpAny_step (i := 22) (by kernel_rfl) rfl (by kernel_rfl) (fun K hK => ?_)
              unfold Oper.wp
              go_simp
              refine hK _ _ ?_
              clear hK K
              refine wpAny_end (by kernel_rfl) ?_
              go_wp2
              exact ⟨⟨i + 1, m1, by omega, by go_num, HF1, HQ1, HP, HR, HW⟩, by simp [intOf]; omega⟩
          · go_wp2
            go_ret
            exact ⟨rfl, unhideR HW⟩
    · replace HW := hideR (below_go (unhideR HW) k2)
      obtain ⟨E, hE⟩ : ∃ E, newE x y pat = E := ⟨_, rfl⟩
      have hpos : 0 < E := by
        rw [← hE]
        rcases her with ⟨k, _⟩ | ⟨k, _, k2, _⟩
        · exact absurd k h0
        · omega
      clear hnew k2
      go_simp
      refine hK _ _ ?_
      clear hK K
      refine wpAny_step (i := 6) (by kernel_rfl) rfl (by kernel_rfl) (fun K hK => ?_)
      unfold Oper.wp
      go_simp
      refine hK _ _ ?_
      clear hK K
      refine wpAny_two (i := 7) (j := 8) (by kernel_rfl) rfl rfl (by kernel_rfl) (by kernel_rfl) (fun K hK => ?pa) (fun K hK => ?pb)
      case' pa =>
        unfold Oper.wp
        go_simp
        refine hK _ _ ?_
        clear hK K
        refine wpAny_two (i := 8) (j := 9) (by kernel_rfl) rfl rfl (by kernel_rfl) (by kernel_rfl) (fun K hK => ?pc) (fun K hK => ?pd)
      case' pc =>
        unfold Oper.wp
        go_simp
        refine hK _ _ ?_
        clear hK K
        refine wpAny_step (i := 9) (by kernel_rfl) rfl (by kernel_rfl) (fun K hK => ?_)
        unfold Oper.wp
        go_simp
        refine hK _ _ ?_
        clear hK K
        refine wpAny_step (i := 10) (by kernel_rfl) rfl (by kernel_rfl) (fun K hK => ?_)
        unfold Oper.wp
        go_simp
        refine hK _ _ ?_
        clear hK K
        refine wpAny_end (by kernel_rfl) ?_
      case' pd =>
        unfold Oper.wp
        go_simp
        refine hK _ _ ?_
        clear hK K
        refine wpAny_step (i := 8) (by kernel_rfl) rfl (by kernel_rfl) (fun K hK => ?_)
        unfold Oper.wp
        go_simp
        refine hK _ _ ?_
        clear hK K
        refine wpAny_step (i := 10) (by kernel_rfl) rfl (by kernel_rfl) (fun K hK => ?_)
        unfold Oper.wp
        go_simp
        refine hK _ _ ?_
        clear hK K
        refine wpAny_end (by kernel_rfl) ?_
      case' pb =>
        unfold Oper.wp
        go_simp
        refine hK _ _ ?_
        clear hK K
        refine wpAny_step (i := 7) (by kernel_rfl) rfl (by kernel_rfl) (fun K hK => ?_)
        unfold Oper.wp
        go_simp
        refine hK _ _ ?_
        clear hK K
        refine wpAny_step (i := 9) (by kernel_rfl) rfl (by kernel_rfl) (fun K hK => ?_)
        unfold Oper.wp
        go_simp
        refine hK _ _ ?_
        clear hK K
        refine wpAny_step (i := 10) (by kernel_rfl) rfl (by kernel_rfl) (fun K hK => ?_)
        unfold Oper.wp
        go_simp
        refine hK _ _ ?_
        clear hK K
        refine wpAny_end (by kernel_rfl) ?_
      all_goals
        obtain ⟨e0, e1, e2, e3⟩ := four_cells (unhideR HA)
        obtain ⟨q0, q1, q2, q3⟩ := four_cells (unhideR HB)
        go_wp2_with fail
        refine (mountOf_any x y pat _).mono ?_
        rintro e w3 ⟨p, rfl, hq1, hq2, k3⟩
        obtain rfl := hq1 h0
        replace HW := hideR (below_go (unhideR HW) k3)
        have hcd := coded_err ((unhideR HS).below (unhideR HW) (Nat.le_refl _)) her
        rw [hE] at hcd ⊢
        clear hq1 hq2 k3 e0 e1 e2 e3 q0 q1 q2 q3 h0 her hE
        go_wp2_with fail
        refine hcd.mono ?_
        rintro e w4 ⟨rfl, k4⟩
        replace HW := hideR (below_go (unhideR HW) k4)
        clear k4 hcd HA HB
        go_wp2
        go_ret
        exact ⟨rfl, unhideR HW⟩
end Go.Proofs.YteoappoijihomahDoor
