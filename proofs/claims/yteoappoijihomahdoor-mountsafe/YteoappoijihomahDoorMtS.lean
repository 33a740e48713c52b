/-
  The law MountSafe: its walk, out of the program's mount by contracts.
-/
import Derived.Test.YteoappoijihomahDoorMtW
namespace Go.Proofs.YteoappoijihomahDoor
open Go Go.RowKit

theorem apart_le {a b f : Int} (h1 : a - b ≤ f) (h2 : b - a ≤ f) : decide (f < apart a b) = false := by
  unfold apart
  refine decide_eq_false ?_
  split <;> omega
set_option maxRecDepth 100000 in
set_option maxHeartbeats 6400000 in
theorem safe_walk {S : World → Prop} {a : Nat → Addr} {Rep : World → Nat → Mt → Prop} (hP : MtProg S a Rep) (x y : Lim) (pat : Int) {ad : Option Addr} {cap : Nat} {L : List OpS} (w : World) (hS : S w) (hO : OpCame w w.heap.size ad L) (hl : L.length * 48 ≤ 140737488355328) :
    Calls Tryd.prog 6 #[x.val, y.val, .int .i64 pat, .slice ad L.length cap] w fun e w' => e = .returned (.bool true) ∧ Below w.heap.size w w' := by
  have HS := hideR hS
  have HO := hideR hO
  have hm := mounted_any hP ((w.alloc (.cells #[.int .i64 x.lo, .int .i64 x.hi, .int .i64 x.fast, .int .i64 x.home] 53)).alloc (.cells #[.int .i64 y.lo, .int .i64 y.hi, .int .i64 y.fast, .int .i64 y.home] 53)) (hP.skeep hS (below_al2 w _ _))
  unfold Lim.val
  clear hS hO
  by_cases hbig : 300 < L.length
  · go_enter Tryd.func6, Tryd.ntmps6
    go_wp2_with fail
    refine hm.mono ?_
    rintro e w1 ⟨rfl, k1⟩
    obtain ⟨_, _, k2⟩ := two_blocks k1
    have HW := hideR k2
    clear k1 k2 hm
    go_wp2
    go_ret
    exact ⟨rfl, unhideR HW⟩
  · go_enter Tryd.func6, Tryd.ntmps6
    go_wp2_with fail
    refine hm.mono ?_
    rintro e w1 ⟨rfl, k1⟩
    obtain ⟨hA, hB, k2⟩ := two_blocks k1
    have HA := hideR hA
    have HB := hideR hB
    have HW := hideR k2
    clear k1 k2 hm hA hB
    go_wp2_with fail
    refine wp_region_made 5 #[true, true, true, true, true, false, false, false, false, false, false] [.lets (· = .agg #[.int .i64 x.lo, .int .i64 x.hi, .int .i64 x.fast, .int .i64 x.home]),
      .lets (· = .agg #[.int .i64 x.lo, .int .i64 x.hi, .int .i64 x.fast, .int .i64 x.home]),
      .lets (· = .agg #[.int .i64 y.lo, .int .i64 y.hi, .int .i64 y.fast, .int .i64 y.home]),
      .lets (· = .agg #[.int .i64 y.lo, .int .i64 y.hi, .int .i64 y.fast, .int .i64 y.home]),
      .lets (· = .int .i64 pat)] [] [] (by kernel_rfl) (by kernel_rfl) rfl ?kinds (by kernel_rfl) (by kernel_rfl) (by kernel_rfl) ?_
    case kinds =>
      constructor
      · intro i h
        rcases i with _ | _ | _ | _ | _ | i <;> simp [Kx.isMade] at h
      · intro i h
        rcases i with _ | _ | _ | _ | _ | i <;> simp [Kx.isUse] at h
    refine lexX_step (fun K hK => ⟨by kernel_rfl, ⟨_, rfl⟩, fun v hv => ?_, fun v hv => ?_⟩)
    · obtain ⟨e0, e1, e2, e3⟩ := four_cells (keepB (unhideR HA) hv)
      go_simp
      exact mUpon_b
    subst hv
    go_simp
    refine hK _ ?_
    clear hK K
    refine lexX_step (fun K hK => ⟨by kernel_rfl, ⟨_, rfl⟩, fun v hv => ?_, fun v hv => ?_⟩)
    · go_simp
      refine (limits_any x _).mono ?_
      rintro e w9 ⟨rfl, k⟩
      exact ⟨_, rfl, rfl, k⟩
    subst hv
    go_simp
    refine hK _ ?_
    clear hK K
    refine lexX_step (fun K hK => ⟨by kernel_rfl, ⟨_, rfl⟩, fun v hv => ?_, fun v hv => ?_⟩)
    · obtain ⟨e0, e1, e2, e3⟩ := four_cells (keepB (unhideR HB) hv)
      go_simp
      exact mUpon_b
    subst hv
    go_simp
    refine hK _ ?_
    clear hK K
    refine lexX_step (fun K hK => ⟨by kernel_rfl, ⟨_, rfl⟩, fun v hv => ?_, fun v hv => ?_⟩)
    · go_simp
      refine (limits_any y _).mono ?_
      rintro e w9 ⟨rfl, k⟩
      exact ⟨_, rfl, rfl, k⟩
    subst hv
    go_simp
    refine hK _ ?_
    clear hK K
    refine lexX_step (fun K hK => ⟨by kernel_rfl, ⟨_, rfl⟩, fun v hv => ?_, fun v hv => ?_⟩)
    · go_simp
      exact mUpon_b
    subst hv
    go_simp
    refine hK _ ?_
    clear hK K
    refine lexX_end (fun v5 hv => ?_)
    replace HA := hideR (keepB (unhideR HA) hv.low)
    replace HB := hideR (keepB (unhideR HB) hv.low)
    replace HW := hideR (below_go (unhideR HW) hv.low)
    clear hv
    have hnew := hP.new x y pat v5 (hP.skeep (unhideR HS) (unhideR HW))
    unfold Lim.val at hnew
    refine wpAny_step (i := 5) (by kernel_rfl) rfl (by kernel_rfl) (fun K hK => ?_)
    unfold Oper.wp
    go_simp
    refine hnew.mono ?_
    rintro e w2 ⟨k2, ⟨h0, g, rfl, hg, hR⟩ | ⟨h0, er, her, rfl⟩⟩
    all_goals
      have hB5 := unhideR HB
      replace HA := hideR (keepB (unhideR HA) k2)
      replace HB := hideR (keepB (unhideR HB) k2)
    · have hg2 : w.heap.size + 2 ≤ g := Nat.le_trans (ltB hB5) hg
      clear hB5
      replace hg : w.heap.size ≤ g := Nat.le_trans (unhideR HW).size hg
      have HP := hideR hR
      replace HW := hideR (below_go (unhideR HW) k2)
      clear hnew hR k2
      go_simp
      refine hK _ _ ?_
      clear hK K
      refine wpAny_step (i := 6) (by kernel_rfl) rfl (by kernel_rfl) (fun K hK => ?_)
      unfold Oper.wp
      go_simp
      refine hK _ _ ?_
      clear hK K
      refine wpAny_two (i := 7) (j := 8) (by kernel_rfl) rfl rfl (by kernel_rfl) (by kernel_rfl) (fun K hK => ?oa) (fun K hK => ?ob)
      case' oa =>
        unfold Oper.wp
        go_simp
        refine hK _ _ ?_
        clear hK K
        refine wpAny_two (i := 8) (j := 9) (by kernel_rfl) rfl rfl (by kernel_rfl) (by kernel_rfl) (fun K hK => ?oc) (fun K hK => ?od)
      case' oc =>
        unfold Oper.wp
        go_simp
        refine hK _ _ ?_
        clear hK K
        refine wpAny_step (i := 9) (by kernel_rfl) rfl (by kernel_rfl) (fun K hK => ?_)
        unfold Oper.wp
        go_simp
        refine hK _ _ ?_
        clear hK K
        refine wpAny_step (i := 10) (by kernel_rfl) rfl (by kernel_rfl) (fun K hK => ?_)
        unfold Oper.wp
        go_simp
        refine hK _ _ ?_
        clear hK K
        refine wpAny_end (by kernel_rfl) ?_
      case' od =>
        unfold Oper.wp
        go_simp
        refine hK _ _ ?_
        clear hK K
        refine wpAny_step (i := 8) (by kernel_rfl) rfl (by kernel_rfl) (fun K hK => ?_)
        unfold Oper.wp
        go_simp
        refine hK _ _ ?_
        clear hK K
        refine wpAny_step (i := 10) (by kernel_rfl) rfl (by kernel_rfl) (fun K hK => ?_)
        unfold Oper.wp
        go_simp
        refine hK _ _ ?_
        clear hK K
        refine wpAny_end (by kernel_rfl) ?_
      case' ob =>
        unfold Oper.wp
        go_simp
        refine hK _ _ ?_
        clear hK K
        refine wpAny_step (i := 7) (by kernel_rfl) rfl (by kernel_rfl) (fun K hK => ?_)
        unfold Oper.wp
        go_simp
        refine hK _ _ ?_
        clear hK K
        refine wpAny_step (i := 9) (by kernel_rfl) rfl (by kernel_rfl) (fun K hK => ?_)
        unfold Oper.wp
        go_simp
        refine hK _ _ ?_
        clear hK K
        refine wpAny_step (i := 10) (by kernel_rfl) rfl (by kernel_rfl) (fun K hK => ?_)
        unfold Oper.wp
        go_simp
        refine hK _ _ ?_
        clear hK K
        refine wpAny_end (by kernel_rfl) ?_
      all_goals
        have hat0 := hP.at_ (unhideR HP)
        go_wp2_with fail
        refine hat0.mono ?_
        rintro e w4 ⟨rfl, k4⟩
        replace HP := hideR (hP.go (unhideR HP) k4)
        replace HA := hideR (keepB (unhideR HA) k4)
        replace HB := hideR (keepB (unhideR HB) k4)
        replace HW := hideR (below_go (unhideR HW) k4)
        clear k4 hat0
        have HF0 := hideR (new_fine h0)
        have HQ0 : HeldR ((newV x y pat).quiet ≤ ((0 : Nat) : Int)) := Int.le_refl _
        have HL0 : HeldR ((newV x y pat).A = x ∧ (newV x y pat).B = y ∧ (newV x y pat).pat = pat) := ⟨rfl, rfl, rfl⟩
        have hlim : (x.lo ≤ x.hi ∧ -1099511627776 ≤ x.lo ∧ x.hi ≤ 1099511627776 ∧ 1 ≤ x.fast) ∧ (y.lo ≤ y.hi ∧ -1099511627776 ≤ y.lo ∧ y.hi ≤ 1099511627776 ∧ 1 ≤ y.fast) ∧ (1 ≤ pat ∧ pat ≤ 1099511627776) := by
          have h := h0
          unfold newE at h
          split at h
          · exact absurd h (by decide)
          · split at h
            · exact absurd h (by decide)
            · rename_i q1 q2
              unfold Lim.shape at q1
              unfold Lim.large large at q2
              omega
        generalize newV x y pat = m0 at *
        clear h0
        go_wp2_with fail
        go_loopw [12, 13, 14] (fun xv yv iv wl => ∃ (i : Nat) (m : Mt), i ≤ L.length ∧ xv = .int .i64 m.X ∧ yv = .int .i64 m.Y ∧ iv = .int .i64 (i : Nat) ∧ HeldR (Fine m) ∧ HeldR (m.quiet ≤ (i : Int)) ∧ HeldR (m.A = x ∧ m.B = y ∧ m.pat = pat) ∧ HeldR (Rep wl g m) ∧ HeldR (wl.heap[w.heap.size]? = some (.cells #[.int .i64 x.lo, .int .i64 x.hi, .int .i64 x.fast, .int .i64 x.home] 53)) ∧ HeldR (wl.heap[w.heap.size + 1]? = some (.cells #[.int .i64 y.lo, .int .i64 y.hi, .int .i64 y.fast, .int .i64 y.home] 53)) ∧ HeldR (Below w.heap.size w wl)) (fun _ _ iv _ => L.length + 1 - (intOf iv).toNat)
        case atStart => exact ⟨0, m0, by omega, rfl, rfl, rfl, HF0, HQ0, HL0, HP, HA, HB, HW⟩
        case round =>
          clear HF0 HQ0 HL0 HP HW HA HB
          obtain ⟨i, m, hi, rfl, rfl, rfl, HF, HQ, HL, HP, HA, HB, HW⟩ := hrel
          by_cases hlt : i < L.length
          · obtain ⟨b, off, rfl, hB, hb, hat⟩ := ((unhideR HO).keep (unhideR HW)).at_ i hlt
            have HAt := hideR hat
            obtain ⟨c0, c1, c2, c3, c4⟩ := hat
            generalize L.getD i op0 = o at *
            obtain ⟨tk, c⟩ := o
            simp only at c0 c1 c2 c3 c4
            have hqi : m.quiet ≤ 1000000 := by have := unhideR HQ; omega
            cases tk with
            | true =>
              have hF1 := tick_fine (unhideR HF)
              have HF1 := hideR hF1.1
              have HQ1 : HeldR ((tickV m).quiet ≤ ((i + 1 : Nat) : Int)) := by
                unfold HeldR
                rw [hF1.2.2.2.2.2.2]
                have := unhideR HQ
                omega
              have HL1 : HeldR ((tickV m).A = x ∧ (tickV m).B = y ∧ (tickV m).pat = pat) := by
                unfold HeldR
                rw [hF1.2.2.2.1, hF1.2.2.2.2.1, hF1.2.2.2.2.2.1]
                exact unhideR HL
              have tA : decide (x.fast < apart (tickV m).X m.X) = false := by
                rw [← (unhideR HL).1]
                exact apart_le hF1.2.1.1 hF1.2.1.2
              have tB : decide (y.fast < apart (tickV m).Y m.Y) = false := by
                rw [← (unhideR HL).2.1]
                exact apart_le hF1.2.2.1.1 hF1.2.2.1.2
              have i1 := fine_in (unhideR HF)
              have i2 := fine_in hF1.1
              have ha1 := fun u => apart_any (a := (tickV m).X) (b := m.X) u (by omega) (by omega) (by omega) (by omega)
              have ha2 := fun u => apart_any (a := (tickV m).Y) (b := m.Y) u (by omega) (by omega) (by omega) (by omega)
              have ht := hP.tick (unhideR HP) (unhideR HF) hqi (hP.skeep (unhideR HS) (unhideR HW))
              clear hF1 i1 i2
              go_wp2_with fail
              refine ht.mono ?_
              rintro e w5 ⟨rfl, h5, k5⟩
              replace HW := hideR (Chg.into (unhideR HW) k5 hg rfl)
              replace HA := hideR (k5.blk (unhideR HA) (by omega))
              replace HB := hideR (k5.blk (unhideR HB) (by omega))
              replace HP := hideR h5
              clear k5 ht h5 c0 c1 c2 c3 c4 HF HQ hqi
              generalize tickV m = m1 at *
              generalize apart m1.X m.X = R1 at *
              generalize apart m1.Y m.Y = R2 at *
              have hb1 : ∀ u, Calls Tryd.prog 36 #[.agg #[.int .i64 x.lo, .int .i64 x.hi, .int .i64 x.fast, .int .i64 x.home], .int .i64 m1.X] u (fun e w' => e = .returned (.bool false) ∧ Below u.heap.size u w') := fun u => by
                have h := beyond_any x m1.X u
                rw [decide_eq_false (by rw [← (unhideR HL1).1]; exact (unhideR HF1).x)] at h
                exact h
              have hb2 : ∀ u, Calls Tryd.prog 36 #[.agg #[.int .i64 y.lo, .int .i64 y.hi, .int .i64 y.fast, .int .i64 y.home], .int .i64 m1.Y] u (fun e w' => e = .returned (.bool false) ∧ Below u.heap.size u w') := fun u => by
                have h := beyond_any y m1.Y u
                rw [decide_eq_false (by rw [← (unhideR HL1).2.1]; exact (unhideR HF1).y)] at h
                exact h
              go_wp2_with fail
              refine wp_region_made 0 #[true, true, true, true, true, true, true, true, true, true, true, true, true, false] [.lets (· = .int .i64 m1.X),
                .lets (· = .int .i64 m.X),
                .lets (· = .int .i64 R1),
                .lets (· = .pointer (some ⟨w.heap.size, 2, none⟩)),
                .lets (· = .int .i64 x.fast),
                .lets (· = .bool false),
                .lets (· = .bool false),
                .lets (· = .int .i64 m1.Y),
                .lets (· = .int .i64 m.Y),
                .lets (· = .int .i64 R2),
                .lets (· = .pointer (some ⟨w.heap.size + 1, 2, none⟩)),
                .lets (· = .int .i64 y.fast),
                .lets (· = .bool false)] [] [] (by kernel_rfl) (by kernel_rfl) rfl ?kinds (by kernel_rfl) (by kernel_rfl) (by kernel_rfl) ?_
              case kinds =>
                constructor
                · intro i h
                  rcases i with _ | _ | _ | _ | _ | _ | _ | _ | _ | _ | _ | _ | _ | i <;> simp [Kx.isMade] at h
                · intro i h
                  rcases i with _ | _ | _ | _ | _ | _ | _ | _ | _ | _ | _ | _ | _ | i <;> simp [Kx.isUse] at h
              refine lexX_step (fun K hK => ⟨by kernel_rfl, ⟨_, rfl⟩, fun v hv => ?_, fun v hv => ?_⟩)
              · go_simp
                exact mUpon_b
              subst hv
              go_simp
              refine hK _ ?_
              clear hK K
              refine lexX_step (fun K hK => ⟨by kernel_rfl, ⟨_, rfl⟩, fun v hv => ?_, fun v hv => ?_⟩)
              · go_simp
                exact mUpon_b
              subst hv
              go_simp
              refine hK _ ?_
              clear hK K
              refine lexX_step (fun K hK => ⟨by kernel_rfl, ⟨_, rfl⟩, fun v hv => ?_, fun v hv => ?_⟩)
              · go_simp
                refine (ha1 _).mono ?_
                rintro e w9 ⟨rfl, rfl⟩
                exact ⟨_, rfl, rfl, Below.refl _ _⟩
              subst hv
              go_simp
              refine hK _ ?_
              clear hK K
              refine lexX_step (fun K hK => ⟨by kernel_rfl, ⟨_, rfl⟩, fun v hv => ?_, fun v hv => ?_⟩)
              · go_simp
                exact mUpon_b
              subst hv
              go_simp
              refine hK _ ?_
              clear hK K
              refine lexX_step (fun K hK => ⟨by kernel_rfl, ⟨_, rfl⟩, fun v hv => ?_, fun v hv => ?_⟩)
              · have c : v.cell? ⟨w.heap.size, 2, none⟩ = some (.int .i64 x.fast) := (four_cells (keepB (unhideR HA) hv)).2.2.1
                go_simp
                exact mUpon_b
              subst hv
              go_simp
              refine hK _ ?_
              clear hK K
              refine lexX_step (fun K hK => ⟨by kernel_rfl, ⟨_, rfl⟩, fun v hv => ?_, fun v hv => ?_⟩)
              · go_simp
                exact mUpon_b
              subst hv
              go_simp
              refine hK _ ?_
              clear hK K
              refine lexX_step (fun K hK => ⟨by kernel_rfl, ⟨_, rfl⟩, fun v hv => ?_, fun v hv => ?_⟩)
              · go_simp
                exact mUpon_b
              subst hv
              go_simp
              refine hK _ ?_
              clear hK K
              refine lexX_step (fun K hK => ⟨by kernel_rfl, ⟨_, rfl⟩, fun v hv => ?_, fun v hv => ?_⟩)
              · go_simp
                exact mUpon_b
              subst hv
              go_simp
              refine hK _ ?_
              clear hK K
              refine lexX_step (fun K hK => ⟨by kernel_rfl, ⟨_, rfl⟩, fun v hv => ?_, fun v hv => ?_⟩)
              · go_simp
                exact mUpon_b
              subst hv
              go_simp
              refine hK _ ?_
              clear hK K
              refine lexX_step (fun K hK => ⟨by kernel_rfl, ⟨_, rfl⟩, fun v hv => ?_, fun v hv => ?_⟩)
              · go_simp
                refine (ha2 _).mono ?_
                rintro e w9 ⟨rfl, rfl⟩
                exact ⟨_, rfl, rfl, Below.refl _ _⟩
              subst hv
              go_simp
              refine hK _ ?_
              clear hK K
              refine lexX_step (fun K hK => ⟨by kernel_rfl, ⟨_, rfl⟩, fun v hv => ?_, fun v hv => ?_⟩)
              · go_simp
                exact mUpon_b
              subst hv
              go_simp
              refine hK _ ?_
              clear hK K
              refine lexX_step (fun K hK => ⟨by kernel_rfl, ⟨_, rfl⟩, fun v hv => ?_, fun v hv => ?_⟩)
              · have c : v.cell? ⟨w.heap.size + 1, 2, none⟩ = some (.int .i64 y.fast) := (four_cells (keepB (unhideR HB) hv)).2.2.1
                go_simp
                exact mUpon_b
              subst hv
              go_simp
              refine hK _ ?_
              clear hK K
              refine lexX_step (fun K hK => ⟨by kernel_rfl, ⟨_, rfl⟩, fun v hv => ?_, fun v hv => ?_⟩)
              · go_simp
                exact mUpon_b
              subst hv
              go_simp
              refine hK _ ?_
              clear hK K
              refine lexX_end (fun v9 hv => ?_)
              replace HP := hideR (hP.go (unhideR HP) hv.low)
              replace HA := hideR (keepB (unhideR HA) hv.low)
              replace HB := hideR (keepB (unhideR HB) hv.low)
              replace HW := hideR (below_go (unhideR HW) hv.low)
              clear hv ha1 ha2
              refine wpAny_step (i := 13) (by kernel_rfl) rfl (by kernel_rfl) (fun K hK => ?_)
              unfold Oper.wp
              go_simp
              refine hK _ _ ?_
              clear hK K
              refine wpAny_end (by kernel_rfl) ?_
              clear tA tB
              obtain ⟨e0, e1, e2, e3⟩ := four_cells (unhideR HA)
              go_wp2_with fail
              refine (hb1 _).mono ?_
              rintro e w7 ⟨rfl, k7⟩
              replace HP := hideR (hP.go (unhideR HP) k7)
              replace HA := hideR (keepB (unhideR HA) k7)
              replace HB := hideR (keepB (unhideR HB) k7)
              replace HW := hideR (below_go (unhideR HW) k7)
              clear k7 hb1 e0 e1 e2 e3
              obtain ⟨e0, e1, e2, e3⟩ := four_cells (unhideR HB)
              go_wp2_with fail
              refine (hb2 _).mono ?_
              rintro e w8 ⟨rfl, k8⟩
              replace HP := hideR (hP.go (unhideR HP) k8)
              replace HA := hideR (keepB (unhideR HA) k8)
              replace HB := hideR (keepB (unhideR HB) k8)
              replace HW := hideR (below_go (unhideR HW) k8)
              clear k8 hb2 e0 e1 e2 e3
              go_wp2
              exact ⟨⟨i + 1, m1, by omega, rfl, rfl, by go_num, HF1, HQ1, HL1, HP, HA, HB, HW⟩, by simp [intOf]; omega⟩
            | false =>
              obtain ⟨m1, cd, hmc⟩ : ∃ m1 cd, takeV m c.cmd = (m1, cd) := ⟨_, _, rfl⟩
              have hF1 := take_fine (unhideR HF) c.cmd
              rw [hmc] at hF1
              have HF1 : HeldR (Fine m1) := hF1.1
              have HQ1 : HeldR (m1.quiet ≤ ((i + 1 : Nat) : Int)) := by
                have h := take_quiet (unhideR HF) c.cmd
                rw [hmc] at h
                have := unhideR HQ
                unfold HeldR
                rcases h with h | h
                all_goals
                  replace h : m1.quiet = _ := h
                  omega
              have HL1 : HeldR (m1.A = x ∧ m1.B = y ∧ m1.pat = pat) := by
                have h := unhideR HL
                exact ⟨hF1.2.2.2.1.trans h.1, hF1.2.2.2.2.1.trans h.2.1, hF1.2.2.2.2.2.trans h.2.2⟩
              have tX : (m1.X != m.X) = false := by
                rw [show m1.X = m.X from hF1.2.1]
                exact bne_no _
              have tY : (m1.Y != m.Y) = false := by
                rw [show m1.Y = m.Y from hF1.2.2.1]
                exact bne_no _
              have htk : ∀ u, Rep u g m → S u → Calls Tryd.prog 30 #[.pointer (some ⟨g, 0, none⟩), .agg #[.int .i64 c.num, .string c.s, .int .i64 c.a, .int .i64 c.b]] u (fun e w' => ∃ er, ErrIs a cd er ∧ e = .returned (.agg #[.int .i64 c.num, er, .int .i64 m1.X, .int .i64 m1.Y, .int .i64 m1.st]) ∧ Rep w' g m1 ∧ Chg g u w') := fun u h1 h2 => by
                have h := hP.take c h1 (unhideR HF) h2
                rw [hmc] at h
                exact h
              have hcm : ∀ u, Calls Tryd.prog 31 #[.agg #[.int .i64 c.num, .string c.s, .int .i64 c.a, .int .i64 c.b]] u (fun e w' => e = .returned (.agg #[.int .i64 c.num, .string c.s, .int .i64 c.a, .int .i64 c.b]) ∧ Below u.heap.size u w') := fun u => command_any c u
              clear hmc HF HQ hqi hF1
              go_wp2_with fail
              refine (hcm _).mono ?_
              rintro e w5 ⟨rfl, k5⟩
              replace HP := hideR (hP.go (unhideR HP) k5)
              replace HA := hideR (keepB (unhideR HA) k5)
              replace HB := hideR (keepB (unhideR HB) k5)
              replace HW := hideR (below_go (unhideR HW) k5)
              have hk := htk _ (unhideR HP) (hP.skeep (unhideR HS) (unhideR HW))
              clear k5 c0 c1 c2 c3 c4 htk hcm
              go_wp2_with fail
              refine hk.mono ?_
              rintro e w6 ⟨er, her, rfl, h6, k6⟩
              replace HP := hideR (hP.go h6 (below_a w6 (.cells #[.int .i64 c.num, er, .int .i64 m1.X, .int .i64 m1.Y, .int .i64 m1.st] 72)))
              replace HA := hideR (keepA (o' := .cells #[.int .i64 c.num, er, .int .i64 m1.X, .int .i64 m1.Y, .int .i64 m1.st] 72) (k6.blk (unhideR HA) (by omega)))
              replace HB := hideR (keepA (o' := .cells #[.int .i64 c.num, er, .int .i64 m1.X, .int .i64 m1.Y, .int .i64 m1.st] 72) (k6.blk (unhideR HB) (by omega)))
              replace HW := hideR (below_go (Chg.into (unhideR HW) k6 hg rfl) (below_a w6 (.cells #[.int .i64 c.num, er, .int .i64 m1.X, .int .i64 m1.Y, .int .i64 m1.st] 72)))
              have HB1 := hideR (alloc_last w6 (.cells #[.int .i64 c.num, er, .int .i64 m1.X, .int .i64 m1.Y, .int .i64 m1.st] 72))
              have hst := fun (u : World) (ad : Addr) (md : Mode) => run_store Tryd.prog u ad er md (err_one her)
              have hat1 := hP.at_ (unhideR HP)
              clear h6 k6 hk HAt her
              go_wp2_with fail
              clear hst
              refine hat1.mono ?_
              rintro e w6' ⟨rfl, k7⟩
              replace HP := hideR (hP.go (unhideR HP) k7)
              replace HA := hideR (keepB (unhideR HA) k7)
              replace HB := hideR (keepB (unhideR HB) k7)
              replace HW := hideR (below_go (unhideR HW) k7)
              obtain ⟨⟨z0, z1, z2, z3, z4⟩, _⟩ := five_cells (keepB (unhideR HB1) k7)
              clear k7 hat1 HB1
              have tX1 := bne_no m1.X
              have tY1 := bne_no m1.Y
              have hb1 : ∀ u, Calls Tryd.prog 36 #[.agg #[.int .i64 x.lo, .int .i64 x.hi, .int .i64 x.fast, .int .i64 x.home], .int .i64 m1.X] u (fun e w' => e = .returned (.bool false) ∧ Below u.heap.size u w') := fun u => by
                have h := beyond_any x m1.X u
                rw [decide_eq_false (by rw [← (unhideR HL1).1]; exact (unhideR HF1).x)] at h
                exact h
              have hb2 : ∀ u, Calls Tryd.prog 36 #[.agg #[.int .i64 y.lo, .int .i64 y.hi, .int .i64 y.fast, .int .i64 y.home], .int .i64 m1.Y] u (fun e w' => e = .returned (.bool false) ∧ Below u.heap.size u w') := fun u => by
                have h := beyond_any y m1.Y u
                rw [decide_eq_false (by rw [← (unhideR HL1).2.1]; exact (unhideR HF1).y)] at h
                exact h
              obtain ⟨e0, e1, e2, e3⟩ := four_cells (unhideR HA)
              go_wp2_with fail
              refine (hb1 _).mono ?_
              rintro e w7 ⟨rfl, k7⟩
              replace HP := hideR (hP.go (unhideR HP) k7)
              replace HA := hideR (keepB (unhideR HA) k7)
              replace HB := hideR (keepB (unhideR HB) k7)
              replace HW := hideR (below_go (unhideR HW) k7)
              clear k7 hb1 e0 e1 e2 e3
              obtain ⟨e0, e1, e2, e3⟩ := four_cells (unhideR HB)
              go_wp2_with fail
              refine (hb2 _).mono ?_
              rintro e w8 ⟨rfl, k8⟩
              replace HP := hideR (hP.go (unhideR HP) k8)
              replace HA := hideR (keepB (unhideR HA) k8)
              replace HB := hideR (keepB (unhideR HB) k8)
              replace HW := hideR (below_go (unhideR HW) k8)
              clear k8 hb2 e0 e1 e2 e3
              go_wp2
              exact ⟨⟨i + 1, m1, by omega, rfl, rfl, by go_num, HF1, HQ1, HL1, HP, HA, HB, HW⟩, by simp [intOf]; omega⟩
          · skip
            have HE : HeldR (∀ n : Nat, (x.hi - x.lo) / x.fast + (y.hi - y.lo) / y.fast + 4 + pat ≤ (n : Int) → (ticks n m).st = 4 ∧ (ticks n m).X = x.home ∧ (ticks n m).Y = y.home) := fun n hn => by
              obtain ⟨hl1, hl2, hl3⟩ := unhideR HL
              have h := parked_last (unhideR HF) (far := n) (by rw [hl1, hl2, hl3]; omega)
              rw [hl1, hl2] at h
              exact h
            have HT : HeldR (∀ n : Nat, Fine (ticks n m) ∧ (ticks n m).quiet ≤ 300 + (n : Int)) := fun n => by
              have h := ticks_fine (unhideR HF) n
              refine ⟨h.1, ?_⟩
              rw [h.2.2.2.2]
              have := unhideR HQ
              omega
            obtain ⟨⟨x1, x2, x3, x4⟩, ⟨y1, y2, y3, y4⟩, p1, p2⟩ := hlim
            have eA : (x.hi - x.lo).tdiv x.fast = (x.hi - x.lo) / x.fast := Int.tdiv_eq_ediv_of_nonneg (by omega)
            have eB : (y.hi - y.lo).tdiv y.fast = (y.hi - y.lo) / y.fast := Int.tdiv_eq_ediv_of_nonneg (by omega)
            have a1 : 0 ≤ (x.hi - x.lo) / x.fast := Int.ediv_nonneg (by omega) (by omega)
            have a2 : (x.hi - x.lo) / x.fast ≤ x.hi - x.lo := Int.ediv_le_self _ (by omega)
            have b1 : 0 ≤ (y.hi - y.lo) / y.fast := Int.ediv_nonneg (by omega) (by omega)
            have b2 : (y.hi - y.lo) / y.fast ≤ y.hi - y.lo := Int.ediv_le_self _ (by omega)
            generalize (x.hi - x.lo) / x.fast = QA at *
            generalize (y.hi - y.lo) / y.fast = QB at *
            have z1 : x.fast ≠ 0 := by omega
            have z2 : y.fast ≠ 0 := by omega
            have v1 : IntKind.i64.wrap (x.hi - x.lo) = x.hi - x.lo := iwrap (by omega) (by omega)
            have v2 : IntKind.i64.wrap (y.hi - y.lo) = y.hi - y.lo := iwrap (by omega) (by omega)
            have v3 : IntKind.i64.wrap QA = QA := iwrap (by omega) (by omega)
            have v4 : IntKind.i64.wrap QB = QB := iwrap (by omega) (by omega)
            have v5' : IntKind.i64.wrap (QA + QB) = QA + QB := iwrap (by omega) (by omega)
            have v6 : IntKind.i64.wrap (QA + QB + 4) = QA + QB + 4 := iwrap (by omega) (by omega)
            have v7 : IntKind.i64.wrap (QA + QB + 4 + pat) = QA + QB + 4 + pat := iwrap (by omega) (by omega)
            clear HO HF HQ HL
            go_wp2_with fail
            refine wp_region_made 0 #[true, true, true, true, true, true, true, true, true, true, true, true, true, true, true, true, true, true, true, true, false] [.lets (· = .pointer (some ⟨w.heap.size, 1, none⟩)),
              .lets (· = .int .i64 x.hi),
              .lets (· = .pointer (some ⟨w.heap.size, 0, none⟩)),
              .lets (· = .int .i64 x.lo),
              .lets (· = .int .i64 (x.hi - x.lo)),
              .lets (· = .pointer (some ⟨w.heap.size, 2, none⟩)),
              .lets (· = .int .i64 x.fast),
              .lets (· = .int .i64 QA),
              .lets (· = .pointer (some ⟨w.heap.size + 1, 1, none⟩)),
              .lets (· = .int .i64 y.hi),
              .lets (· = .pointer (some ⟨w.heap.size + 1, 0, none⟩)),
              .lets (· = .int .i64 y.lo),
              .lets (· = .int .i64 (y.hi - y.lo)),
              .lets (· = .pointer (some ⟨w.heap.size + 1, 2, none⟩)),
              .lets (· = .int .i64 y.fast),
              .lets (· = .int .i64 QB),
              .lets (· = .int .i64 (QA + QB)),
              .lets (· = .int .i64 (QA + QB + 4)),
              .lets (· = .int .i64 pat),
              .lets (· = .int .i64 (QA + QB + 4 + pat))] [] [] (by kernel_rfl) (by kernel_rfl) rfl ?kinds (by kernel_rfl) (by kernel_rfl) (by kernel_rfl) ?_
            case kinds =>
              constructor
              · intro i h
                rcases i with _ | _ | _ | _ | _ | _ | _ | _ | _ | _ | _ | _ | _ | _ | _ | _ | _ | _ | _ | _ | i <;> simp [Kx.isMade] at h
              · intro i h
                rcases i with _ | _ | _ | _ | _ | _ | _ | _ | _ | _ | _ | _ | _ | _ | _ | _ | _ | _ | _ | _ | i <;> simp [Kx.isUse] at h
            refine lexX_step (fun K hK => ⟨by kernel_rfl, ⟨_, rfl⟩, fun v hv => ?_, fun v hv => ?_⟩)
            · go_simp
              exact mUpon_b
            subst hv
            go_simp
            refine hK _ ?_
            clear hK K
            refine lexX_step (fun K hK => ⟨by kernel_rfl, ⟨_, rfl⟩, fun v hv => ?_, fun v hv => ?_⟩)
            · have c : v.cell? ⟨w.heap.size, 1, none⟩ = some (.int .i64 x.hi) := (four_cells (keepB (unhideR HA) hv)).2.1
              go_simp
              exact mUpon_b
            subst hv
            go_simp
            refine hK _ ?_
            clear hK K
            refine lexX_step (fun K hK => ⟨by kernel_rfl, ⟨_, rfl⟩, fun v hv => ?_, fun v hv => ?_⟩)
            · go_simp
              exact mUpon_b
            subst hv
            go_simp
            refine hK _ ?_
            clear hK K
            refine lexX_step (fun K hK => ⟨by kernel_rfl, ⟨_, rfl⟩, fun v hv => ?_, fun v hv => ?_⟩)
            · have c : v.cell? ⟨w.heap.size, 0, none⟩ = some (.int .i64 x.lo) := (four_cells (keepB (unhideR HA) hv)).1
              go_simp
              exact mUpon_b
            subst hv
            go_simp
            refine hK _ ?_
            clear hK K
            refine lexX_step (fun K hK => ⟨by kernel_rfl, ⟨_, rfl⟩, fun v hv => ?_, fun v hv => ?_⟩)
            · go_simp
              exact mUpon_b
            subst hv
            go_simp
            refine hK _ ?_
            clear hK K
            refine lexX_step (fun K hK => ⟨by kernel_rfl, ⟨_, rfl⟩, fun v hv => ?_, fun v hv => ?_⟩)
            · go_simp
              exact mUpon_b
            subst hv
            go_simp
            refine hK _ ?_
            clear hK K
            refine lexX_step (fun K hK => ⟨by kernel_rfl, ⟨_, rfl⟩, fun v hv => ?_, fun v hv => ?_⟩)
            · have c : v.cell? ⟨w.heap.size, 2, none⟩ = some (.int .i64 x.fast) := (four_cells (keepB (unhideR HA) hv)).2.2.1
              go_simp
              exact mUpon_b
            subst hv
            go_simp
            refine hK _ ?_
            clear hK K
            refine lexX_step (fun K hK => ⟨by kernel_rfl, ⟨_, rfl⟩, fun v hv => ?_, fun v hv => ?_⟩)
            · go_simp
              exact mUpon_b
            subst hv
            go_simp
            refine hK _ ?_
            clear hK K
            refine lexX_step (fun K hK => ⟨by kernel_rfl, ⟨_, rfl⟩, fun v hv => ?_, fun v hv => ?_⟩)
            · go_simp
              exact mUpon_b
            subst hv
            go_simp
            refine hK _ ?_
            clear hK K
            refine lexX_step (fun K hK => ⟨by kernel_rfl, ⟨_, rfl⟩, fun v hv => ?_, fun v hv => ?_⟩)
            · have c : v.cell? ⟨w.heap.size + 1, 1, none⟩ = some (.int .i64 y.hi) := (four_cells (keepB (unhideR HB) hv)).2.1
              go_simp
              exact mUpon_b
            subst hv
            go_simp
            refine hK _ ?_
            clear hK K
            refine lexX_step (fun K hK => ⟨by kernel_rfl, ⟨_, rfl⟩, fun v hv => ?_, fun v hv => ?_⟩)
            · go_simp
              exact mUpon_b
            subst hv
            go_simp
            refine hK _ ?_
            clear hK K
            refine lexX_step (fun K hK => ⟨by kernel_rfl, ⟨_, rfl⟩, fun v hv => ?_, fun v hv => ?_⟩)
            · have c : v.cell? ⟨w.heap.size + 1, 0, none⟩ = some (.int .i64 y.lo) := (four_cells (keepB (unhideR HB) hv)).1
              go_simp
              exact mUpon_b
            subst hv
            go_simp
            refine hK _ ?_
            clear hK K
            refine lexX_step (fun K hK => ⟨by kernel_rfl, ⟨_, rfl⟩, fun v hv => ?_, fun v hv => ?_⟩)
            · go_simp
              exact mUpon_b
            subst hv
            go_simp
            refine hK _ ?_
            clear hK K
            refine lexX_step (fun K hK => ⟨by kernel_rfl, ⟨_, rfl⟩, fun v hv => ?_, fun v hv => ?_⟩)
            · go_simp
              exact mUpon_b
            subst hv
            go_simp
            refine hK _ ?_
            clear hK K
            refine lexX_step (fun K hK => ⟨by kernel_rfl, ⟨_, rfl⟩, fun v hv => ?_, fun v hv => ?_⟩)
            · have c : v.cell? ⟨w.heap.size + 1, 2, none⟩ = some (.int .i64 y.fast) := (four_cells (keepB (unhideR HB) hv)).2.2.1
              go_simp
              exact mUpon_b
            subst hv
            go_simp
            refine hK _ ?_
            clear hK K
            refine lexX_step (fun K hK => ⟨by kernel_rfl, ⟨_, rfl⟩, fun v hv => ?_, fun v hv => ?_⟩)
            · go_simp
              exact mUpon_b
            subst hv
            go_simp
            refine hK _ ?_
            clear hK K
            refine lexX_step (fun K hK => ⟨by kernel_rfl, ⟨_, rfl⟩, fun v hv => ?_, fun v hv => ?_⟩)
            · go_simp
              exact mUpon_b
            subst hv
            go_simp
            refine hK _ ?_
            clear hK K
            refine lexX_step (fun K hK => ⟨by kernel_rfl, ⟨_, rfl⟩, fun v hv => ?_, fun v hv => ?_⟩)
            · go_simp
              exact mUpon_b
            subst hv
            go_simp
            refine hK _ ?_
            clear hK K
            refine lexX_step (fun K hK => ⟨by kernel_rfl, ⟨_, rfl⟩, fun v hv => ?_, fun v hv => ?_⟩)
            · go_simp
              exact mUpon_b
            subst hv
            go_simp
            refine hK _ ?_
            clear hK K
            refine lexX_step (fun K hK => ⟨by kernel_rfl, ⟨_, rfl⟩, fun v hv => ?_, fun v hv => ?_⟩)
            · go_simp
              exact mUpon_b
            subst hv
            go_simp
            refine hK _ ?_
            clear hK K
            refine lexX_end (fun v9 hv => ?_)
            replace HP := hideR (hP.go (unhideR HP) hv.low)
            replace HA := hideR (keepB (unhideR HA) hv.low)
            replace HB := hideR (keepB (unhideR HB) hv.low)
            replace HW := hideR (below_go (unhideR HW) hv.low)
            clear hv
            refine wpAny_step (i := 20) (by kernel_rfl) rfl (by kernel_rfl) (fun K hK => ?_)
            unfold Oper.wp
            go_simp
            refine hK _ _ ?_
            clear hK K
            refine wpAny_end (by kernel_rfl) ?_
            have f0 : 0 ≤ QA + QB + 4 + pat := by omega
            clear eA eB a1 a2 b1 b2 z1 z2 v1 v2 v3 v4 v5' v6 v7 x1 x2 x3 x4 y1 y2 y3 y4
            generalize QA + QB + 4 + pat = far at *
            clear p1 p2 hi hlt
            by_cases h3 : 3000 < far
            · go_wp2
              go_ret
              exact ⟨rfl, unhideR HW⟩
            · go_wp2_with fail
              go_loopw [21] (fun kv wl => ∃ n : Nat, (n : Int) ≤ far ∧ kv = .int .i64 (n : Nat) ∧ HeldR (Rep wl g (ticks n m)) ∧ HeldR (wl.heap[w.heap.size]? = some (.cells #[.int .i64 x.lo, .int .i64 x.hi, .int .i64 x.fast, .int .i64 x.home] 53)) ∧ HeldR (wl.heap[w.heap.size + 1]? = some (.cells #[.int .i64 y.lo, .int .i64 y.hi, .int .i64 y.fast, .int .i64 y.home] 53)) ∧ HeldR (Below w.heap.size w wl)) (fun kv _ => far.toNat + 1 - (intOf kv).toNat)
              case atStart => exact ⟨0, by omega, rfl, HP, HA, HB, HW⟩
              case round =>
                clear HP HA HB HW
                obtain ⟨n, hn, rfl, HP, HA, HB, HW⟩ := hrel
                by_cases hlt : (n : Int) < far
                · have ht := hP.tick (unhideR HP) (unhideR HT n).1 (by have := (unhideR HT n).2; omega) (hP.skeep (unhideR HS) (unhideR HW))
                  rw [← ticks_more] at ht
                  go_wp2_with fail
                  refine ht.mono ?_
                  rintro e w5 ⟨rfl, h5, k5⟩
                  replace HW := hideR (Chg.into (unhideR HW) k5 hg rfl)
                  replace HA := hideR (k5.blk (unhideR HA) (by omega))
                  replace HB := hideR (k5.blk (unhideR HB) (by omega))
                  have HP2 := hideR h5
                  clear k5 ht h5 HP
                  go_wp2
                  exact ⟨⟨n + 1, by omega, by go_num, HP2, HA, HB, HW⟩, by simp [intOf]; omega⟩
                · obtain ⟨s1, s2, s3⟩ := unhideR HE n (by omega)
                  clear HE HT
                  generalize ticks n m = m1 at *
                  have hat := hP.at_ (unhideR HP)
                  rw [s2, s3] at hat
                  go_wp2_with fail
                  refine hat.mono ?_
                  rintro e w5 ⟨rfl, k5⟩
                  replace HP := hideR (hP.go (unhideR HP) k5)
                  replace HA := hideR (keepB (unhideR HA) k5)
                  replace HB := hideR (keepB (unhideR HB) k5)
                  replace HW := hideR (below_go (unhideR HW) k5)
                  have hst := hP.state (unhideR HP)
                  rw [s1] at hst
                  clear k5 hat s1 s2 s3
                  go_wp2_with fail
                  refine hst.mono ?_
                  rintro e w6 ⟨rfl, k6⟩
                  replace HA := hideR (keepB (unhideR HA) k6)
                  replace HB := hideR (keepB (unhideR HB) k6)
                  replace HW := hideR (below_go (unhideR HW) k6)
                  obtain ⟨_, _, _, e3⟩ := four_cells (unhideR HA)
                  obtain ⟨_, _, _, q3⟩ := four_cells (unhideR HB)
                  have tX : (x.home == x.home) = true := beq_self_eq_true _
                  have tY : (y.home == y.home) = true := beq_self_eq_true _
                  clear k6 hst HP
                  go_wp2
                  go_ret
                  exact ⟨rfl, unhideR HW⟩
    · replace HW := hideR (below_go (unhideR HW) k2)
      have her2 : er = .nilIface → False := by
        rcases her with ⟨k, _⟩ | ⟨k, _, _, k2⟩
        · exact absurd k h0
        · rw [k2]
          exact fun k => by cases k
      rcases her with ⟨k, _⟩ | ⟨kk, _, _, rfl⟩
      · exact absurd k h0
      clear her2 hB5
      clear hnew k2
      go_simp
      refine hK _ _ ?_
      clear hK K
      refine wpAny_step (i := 6) (by kernel_rfl) rfl (by kernel_rfl) (fun K hK => ?_)
      unfold Oper.wp
      go_simp
      refine hK _ _ ?_
      clear hK K
      refine wpAny_two (i := 7) (j := 8) (by kernel_rfl) rfl rfl (by kernel_rfl) (by kernel_rfl) (fun K hK => ?pa) (fun K hK => ?pb)
      case' pa =>
        unfold Oper.wp
        go_simp
        refine hK _ _ ?_
        clear hK K
        refine wpAny_two (i := 8) (j := 9) (by kernel_rfl) rfl rfl (by kernel_rfl) (by kernel_rfl) (fun K hK => ?pc) (fun K hK => ?pd)
      case' pc =>
        unfold Oper.wp
        go_simp
        refine hK _ _ ?_
        clear hK K
        refine wpAny_step (i := 9) (by kernel_rfl) rfl (by kernel_rfl) (fun K hK => ?_)
        unfold Oper.wp
        go_simp
        refine hK _ _ ?_
        clear hK K
        refine wpAny_step (i := 10) (by kernel_rfl) rfl (by kernel_rfl) (fun K hK => ?_)
        unfold Oper.wp
        go_simp
        refine hK _ _ ?_
        clear hK K
        refine wpAny_end (by kernel_rfl) ?_
      case' pd =>
        unfold Oper.wp
        go_simp
        refine hK _ _ ?_
        clear hK K
        refine wpAny_step (i := 8) (by kernel_rfl) rfl (by kernel_rfl) (fun K hK => ?_)
        unfold Oper.wp
        go_simp
        refine hK _ _ ?_
        clear hK K
        refine wpAny_step (i := 10) (by kernel_rfl) rfl (by kernel_rfl) (fun K hK => ?_)
        unfold Oper.wp
        go_simp
        refine hK _ _ ?_
        clear hK K
        refine wpAny_end (by kernel_rfl) ?_
      case' pb =>
        unfold Oper.wp
        go_simp
        refine hK _ _ ?_
        clear hK K
        refine wpAny_step (i := 7) (by kernel_rfl) rfl (by kernel_rfl) (fun K hK => ?_)
        unfold Oper.wp
        go_simp
        refine hK _ _ ?_
        clear hK K
        refine wpAny_step (i := 9) (by kernel_rfl) rfl (by kernel_rfl) (fun K hK => ?_)
        unfold Oper.wp
        go_simp
        refine hK _ _ ?_
        clear hK K
        refine wpAny_step (i := 10) (by kernel_rfl) rfl (by kernel_rfl) (fun K hK => ?_)
        unfold Oper.wp
        go_simp
        refine hK _ _ ?_
        clear hK K
        refine wpAny_end (by kernel_rfl) ?_
      all_goals
        go_wp2
        go_ret
        exact ⟨rfl, unhideR HW⟩
end Go.Proofs.YteoappoijihomahDoor
