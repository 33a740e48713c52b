/-
  Where a track is above a level: the document's, by contract.
-/
import Derived.Test.YtlhjmmcimhceeahDoorEvRef
import Derived.Test.YtlhjmmcimhceeahDoorEvFl0
import Derived.Test.YtlhjmmcimhceeahDoorLoose7
namespace Go.Proofs.YtlhjmmcimhceeahDoor
open Go Go.RowKit

def abB (a p b q : Int) : Bool := if p = 0 then decide (0 < b) && decide (0 < q) else if q = 0 ∨ a = b then decide (0 < a) else if 0 < a then decide (q < p) else decide (p < q)
theorem ab_is {A B s d : Int} (hs : 0 < s) (hd : 0 ≤ d) : abB (sgnI A * sgnI s) (absI A * absI s) (sgnI B * sgnI d) (absI B * absI d) = decide (0 < A * s + B * d) := by
  rw [sgnI_pos (a := s) (by omega), sgnI_pos (a := d) (by omega), absI_pos (a := s) (by omega), absI_pos (a := d) (by omega), Int.mul_one, Int.mul_one]
  have eA := sgn_abs A
  have eB := sgn_abs B
  have nA := absI_nonneg A
  have nB := absI_nonneg B
  have tA := sgnI_two A
  have tB := sgnI_two B
  have e1 : A * s = sgnI A * (absI A * s) := by
    rw [← Int.mul_assoc, ← eA]
  have e2 : B * d = sgnI B * (absI B * d) := by
    rw [← Int.mul_assoc, ← eB]
  have p0 : 0 ≤ absI A * s := Int.mul_nonneg nA (by omega)
  have q0 : 0 ≤ absI B * d := Int.mul_nonneg nB hd
  rw [e1, e2]
  generalize absI A * s = p at *
  generalize absI B * d = q at *
  generalize sgnI A = a at *
  generalize sgnI B = b at *
  clear e1 e2 eA eB nA nB hs hd
  unfold abB
  rcases tA with rfl | rfl <;> rcases tB with rfl | rfl
  all_goals
    by_cases k1 : p = 0
    · subst k1
      rw [if_pos rfl]
      by_cases k2 : 0 < q
      · simp [k2]
        try omega
      · have : q = 0 := by omega
        subst this
        simp
    · rw [if_neg k1]
      by_cases k2 : q = 0
      · subst k2
        simp
        try omega
      · simp [k2]
        try omega
set_option maxRecDepth 100000 in
set_option maxHeartbeats 1600000 in
theorem aboveAt_any {w : World} {b off cap : Nat} {ad : Option Addr} {t : Tr} (h : TrP w b off ad cap t) (hO : TrOk t) (lev x : Int) (hv1 : -1099511627776 ≤ lev) (hv2 : lev ≤ 1099511627776) (hx1 : t.fr ≤ x) (hx2 : x ≤ t.last) :
    Calls Tryd.prog 13 #[.pointer (some ⟨b, off, none⟩), .int .i64 lev, .int .i64 x] w fun e w' => e = .returned (.bool (aboveV t lev x)) ∧ Below w.heap.size w w' := by
  have HT := hideR h
  obtain ⟨hlt, cf, cs, cl, hrow⟩ := h
  have HR := hideR hrow
  clear hrow
  have n1 := hO.n1
  have n2 := hO.n2
  have s1 := hO.s1
  have s2 := hO.step
  have f1 := hO.f1
  have f2 := hO.f2
  have l2 := hO.l2
  obtain ⟨i1, i2, r1, r2⟩ := idx_is hO (x := x) hx1 hx2
  have hw4 : IntKind.i64.wrap (x - t.fr) = x - t.fr := iwrap (by omega) (by omega)
  have hq : (x - t.fr).tdiv t.st = (idx t x : Int) := by
    rw [Int.tdiv_eq_ediv_of_nonneg (by omega)]
    exact i1
  have hw5 : IntKind.i64.wrap ((idx t x : Int)) = (idx t x : Int) := iwrap (by omega) (by omega)
  have hst0 : t.st ≠ 0 := by omega
  have hAV : aboveV t lev x = if t.L.length ≤ idx t x + 1 then decide (lev < t.h (t.L.length - 1)) else decide (0 < (t.h (idx t x) - lev) * (t.st - rest t x) + (t.h (idx t x + 1) - lev) * rest t x) := rfl
  have hrs : rest t x = x - t.fr - (idx t x : Int) * t.st := rfl
  have ha := hO.at_ i2
  have sp := hO.span
  have HFL := hideR (flat_at hO.hs)
  clear hO i1
  generalize aboveV t lev x = AV at *
  generalize rest t x = R at *
  generalize idx t x = i at *
  generalize t.last = La at *
  obtain ⟨b1, o1, rfl, hb1, ci⟩ := (unhideR HR).at_ i i2
  by_cases hend : t.L.length ≤ i + 1
  · rw [if_pos hend] at hAV
    have en : t.L.length - 1 = i := by omega
    have hv : t.h (t.L.length - 1) = t.L.getD i 0 := by rw [en]; rfl
    rw [hv] at hAV
    generalize t.L.getD i 0 = hi at *
    have hni : (t.L.length : Int) - 1 = (i : Int) := by omega
    have HH := hideR hAV
    clear hAV hv hend hrs en
    go_enter Tryd.func13, Tryd.ntmps13
    go_wp2
    go_quiet (fail)
    go_wp2
    go_ret
    rw [unhideR HH]
    exact ⟨rfl, drawn_below _ _⟩
  · rw [if_neg hend] at hAV
    obtain ⟨b2, o2, e2, hb2, cj⟩ := (unhideR HR).at_ (i + 1) (by omega)
    cases e2
    have hf1 := unhideR HFL i
    have hf2 := unhideR HFL (i + 1)
    have hv1' : t.h i = t.L.getD i 0 := rfl
    have hv2' : t.h (i + 1) = t.L.getD (i + 1) 0 := rfl
    rw [hv1', hv2'] at hAV
    generalize t.L.getD i 0 = hi at *
    generalize t.L.getD (i + 1) 0 = hj at *
    have hab := ab_is (A := hi - lev) (B := hj - lev) (s := t.st - R) (d := R) (by omega) r1
    rw [← hAV] at hab
    have hp1 := fun u => productV (hi - lev) (t.st - R) u (by omega) (by omega) (by omega) (by omega)
    have hp2 := fun u => productV (hj - lev) R u (by omega) (by omega) (by omega) (by omega)
    have tA := sgn_mul_two (hi - lev) (t.st - R)
    have tB := sgn_mul_two (hj - lev) R
    have nA : 0 ≤ absI (hi - lev) * absI (t.st - R) := Int.mul_nonneg (absI_nonneg _) (absI_nonneg _)
    have nB : 0 ≤ absI (hj - lev) * absI R := Int.mul_nonneg (absI_nonneg _) (absI_nonneg _)
    generalize absI (hi - lev) * absI (t.st - R) = p at *
    generalize absI (hj - lev) * absI R = q at *
    generalize sgnI (hi - lev) * sgnI (t.st - R) = sa at *
    generalize sgnI (hj - lev) * sgnI R = sb at *
    have hw6 : IntKind.i64.wrap ((i : Int) * t.st) = (i : Int) * t.st := iwrap (by omega) (by omega)
    have hw7 : IntKind.i64.wrap (x - t.fr - (i : Int) * t.st) = R := by rw [← hrs]; exact iwrap (by omega) (by omega)
    have hw8 : IntKind.i64.wrap (hi - lev) = hi - lev := iwrap (by omega) (by omega)
    have hw9 : IntKind.i64.wrap (t.st - R) = t.st - R := iwrap (by omega) (by omega)
    have HH := hideR hab
    have HCI := hideR ci
    have HCJ := hideR cj
    have hi1 : i + 1 < t.L.length := by omega
    have hi2 : (i : Int) + 1 < (t.L.length : Int) := by omega
    have hi3 : 0 ≤ (i : Int) + 1 := by omega
    clear hAV hab hv1' hv2' hend hrs
    go_enter Tryd.func13, Tryd.ntmps13
    go_wp2
    go_quiet (fail)
    go_wp2
    go_quiet (fail)
    go_wp2_with fail
    generalize hW : (w.drewN _).drewN _ = W
    have hbW : Below w.heap.size w W := hW ▸ below_go (drawn_below w _) (drawn_below (w.drewN _) _)
    have HT2 := hideR ((unhideR HT).below hbW)
    have HCI2 : ∀ v, Below W.heap.size W v → HeldR (v.cell? ⟨b1, o1 + i, none⟩ = some (.int .i64 hi)) := fun v hv => ((below_go hbW hv).cell (p := ⟨b1, o1 + i, none⟩) hb1).trans (unhideR HCI)
    have HCJ2 : ∀ v, Below w.heap.size w v → HeldR (v.cell? ⟨b1, o1 + (i + 1), none⟩ = some (.int .i64 hj)) := fun v hv => (hv.cell (p := ⟨b1, o1 + (i + 1), none⟩) hb1).trans (unhideR HCJ)
    have HBW := hideR hbW
    clear hW hbW ci cj cf cs cl
    refine wp_region_made 5 #[true, true, true, true, true, true, true, true, true, true, true, true, true, true, true, false, false, false, false, false, false] [.lets (· = .pointer (some ⟨b, off, none⟩)),
      .lets (· = .pointer (some ⟨b, off, none⟩)),
      .lets (· = .pointer (some ⟨b, off + 2, none⟩)),
      .lets (· = .slice (some ⟨b1, o1, none⟩) t.L.length cap),
      .lets (· = .int .i64 (i : Nat)),
      .lets (· = .pointer (some ⟨b1, o1 + i, none⟩)),
      .lets (· = .int .i64 hi),
      .lets (· = .int .i64 lev),
      .lets (· = .int .i64 (hi - lev)),
      .lets (· = .pointer (some ⟨b, off, none⟩)),
      .lets (· = .pointer (some ⟨b, off, none⟩)),
      .lets (· = .pointer (some ⟨b, off + 1, none⟩)),
      .lets (· = .int .i64 t.st),
      .lets (· = .int .i64 R),
      .lets (· = .int .i64 (t.st - R))] [] [] (by kernel_rfl) (by kernel_rfl) rfl ?kinds (by kernel_rfl) (by kernel_rfl) (by kernel_rfl) ?_
    case kinds =>
      constructor
      · intro i h
        rcases i with _ | _ | _ | _ | _ | _ | _ | _ | _ | _ | _ | _ | _ | _ | _ | i <;> simp [Kx.isMade] at h
      · intro i h
        rcases i with _ | _ | _ | _ | _ | _ | _ | _ | _ | _ | _ | _ | _ | _ | _ | i <;> simp [Kx.isUse] at h
    refine lexX_step (fun K hK => ⟨by kernel_rfl, ⟨_, rfl⟩, fun v hv => ?_, fun v hv => ?_⟩)
    · go_simp
      exact mUpon_b
    subst hv
    go_simp
    refine hK _ ?_
    clear hK K
    refine lexX_step (fun K hK => ⟨by kernel_rfl, ⟨_, rfl⟩, fun v hv => ?_, fun v hv => ?_⟩)
    · go_simp
      exact mUpon_b
    subst hv
    go_simp
    refine hK _ ?_
    clear hK K
    refine lexX_step (fun K hK => ⟨by kernel_rfl, ⟨_, rfl⟩, fun v hv => ?_, fun v hv => ?_⟩)
    · go_simp
      exact mUpon_b
    subst hv
    go_simp
    refine hK _ ?_
    clear hK K
    refine lexX_step (fun K hK => ⟨by kernel_rfl, ⟨_, rfl⟩, fun v hv => ?_, fun v hv => ?_⟩)
    · obtain ⟨_, c0, c1, c2, _⟩ := (unhideR HT2).below hv
      go_simp
      exact mUpon_b
    subst hv
    go_simp
    refine hK _ ?_
    clear hK K
    refine lexX_step (fun K hK => ⟨by kernel_rfl, ⟨_, rfl⟩, fun v hv => ?_, fun v hv => ?_⟩)
    · go_simp
      exact mUpon_b
    subst hv
    go_simp
    refine hK _ ?_
    clear hK K
    refine lexX_step (fun K hK => ⟨by kernel_rfl, ⟨_, rfl⟩, fun v hv => ?_, fun v hv => ?_⟩)
    · go_simp
      exact mUpon_b
    subst hv
    go_simp
    refine hK _ ?_
    clear hK K
    refine lexX_step (fun K hK => ⟨by kernel_rfl, ⟨_, rfl⟩, fun v hv => ?_, fun v hv => ?_⟩)
    · have c0 := unhideR (HCI2 _ hv)
      go_simp
      exact mUpon_b
    subst hv
    go_simp
    refine hK _ ?_
    clear hK K
    refine lexX_step (fun K hK => ⟨by kernel_rfl, ⟨_, rfl⟩, fun v hv => ?_, fun v hv => ?_⟩)
    · go_simp
      exact mUpon_b
    subst hv
    go_simp
    refine hK _ ?_
    clear hK K
    refine lexX_step (fun K hK => ⟨by kernel_rfl, ⟨_, rfl⟩, fun v hv => ?_, fun v hv => ?_⟩)
    · go_simp
      exact mUpon_b
    subst hv
    go_simp
    refine hK _ ?_
    clear hK K
    refine lexX_step (fun K hK => ⟨by kernel_rfl, ⟨_, rfl⟩, fun v hv => ?_, fun v hv => ?_⟩)
    · go_simp
      exact mUpon_b
    subst hv
    go_simp
    refine hK _ ?_
    clear hK K
    refine lexX_step (fun K hK => ⟨by kernel_rfl, ⟨_, rfl⟩, fun v hv => ?_, fun v hv => ?_⟩)
    · go_simp
      exact mUpon_b
    subst hv
    go_simp
    refine hK _ ?_
    clear hK K
    refine lexX_step (fun K hK => ⟨by kernel_rfl, ⟨_, rfl⟩, fun v hv => ?_, fun v hv => ?_⟩)
    · go_simp
      exact mUpon_b
    subst hv
    go_simp
    refine hK _ ?_
    clear hK K
    refine lexX_step (fun K hK => ⟨by kernel_rfl, ⟨_, rfl⟩, fun v hv => ?_, fun v hv => ?_⟩)
    · obtain ⟨_, c0, c1, c2, _⟩ := (unhideR HT2).below hv
      go_simp
      exact mUpon_b
    subst hv
    go_simp
    refine hK _ ?_
    clear hK K
    refine lexX_step (fun K hK => ⟨by kernel_rfl, ⟨_, rfl⟩, fun v hv => ?_, fun v hv => ?_⟩)
    · go_simp
      exact mUpon_b
    subst hv
    go_simp
    refine hK _ ?_
    clear hK K
    refine lexX_step (fun K hK => ⟨by kernel_rfl, ⟨_, rfl⟩, fun v hv => ?_, fun v hv => ?_⟩)
    · go_simp
      exact mUpon_b
    subst hv
    go_simp
    refine hK _ ?_
    clear hK K
    refine lexX_end (fun v hv => ?_)
    have HW := hideR (below_go (unhideR HBW) hv.low)
    clear hv HT2 HCI2 HBW
    refine wpAny_step (i := 15) (by kernel_rfl) rfl (by kernel_rfl) (fun K hK => ?_)
    unfold Oper.wp
    go_simp
    refine (hp1 _).mono ?_
    rintro e w3 ⟨ad3, c3, P, rfl, hP, hvP, hlP, k3⟩
    replace HW := hideR (below_go (unhideR HW) k3)
    have HP := hideR hP
    have HvP := hideR hvP
    have HlP := hideR (val_nil_iff hP.dg hP.tp)
    clear k3 hP hvP hp1
    go_simp
    refine hK _ _ ?_
    clear hK K
    refine wpAny_step (i := 16) (by kernel_rfl) rfl (by kernel_rfl) (fun K hK => ?_)
    unfold Oper.wp
    go_simp
    refine hK _ _ ?_
    clear hK K
    refine wpAny_two (i := 17) (j := 18) (by kernel_rfl) rfl rfl (by kernel_rfl) (by kernel_rfl) (fun K hK => ?oa) (fun K hK => ?ob)
    case' oa =>
      unfold Oper.wp
      go_simp
      refine hK _ _ ?_
      clear hK K
      refine wpAny_two (i := 18) (j := 19) (by kernel_rfl) rfl rfl (by kernel_rfl) (by kernel_rfl) (fun K hK => ?oc) (fun K hK => ?od)
    case' oc =>
      unfold Oper.wp
      go_simp
      refine hK _ _ ?_
      clear hK K
      refine wpAny_step (i := 19) (by kernel_rfl) rfl (by kernel_rfl) (fun K hK => ?_)
      unfold Oper.wp
      go_simp
      refine hK _ _ ?_
      clear hK K
      refine wpAny_step (i := 20) (by kernel_rfl) rfl (by kernel_rfl) (fun K hK => ?_)
      unfold Oper.wp
      go_simp
      refine hK _ _ ?_
      clear hK K
      refine wpAny_end (by kernel_rfl) ?_
    case' od =>
      unfold Oper.wp
      go_simp
      refine hK _ _ ?_
      clear hK K
      refine wpAny_step (i := 18) (by kernel_rfl) rfl (by kernel_rfl) (fun K hK => ?_)
      unfold Oper.wp
      go_simp
      refine hK _ _ ?_
      clear hK K
      refine wpAny_step (i := 20) (by kernel_rfl) rfl (by kernel_rfl) (fun K hK => ?_)
      unfold Oper.wp
      go_simp
      refine hK _ _ ?_
      clear hK K
      refine wpAny_end (by kernel_rfl) ?_
    case' ob =>
      unfold Oper.wp
      go_simp
      refine hK _ _ ?_
      clear hK K
      refine wpAny_step (i := 17) (by kernel_rfl) rfl (by kernel_rfl) (fun K hK => ?_)
      unfold Oper.wp
      go_simp
      refine hK _ _ ?_
      clear hK K
      refine wpAny_step (i := 19) (by kernel_rfl) rfl (by kernel_rfl) (fun K hK => ?_)
      unfold Oper.wp
      go_simp
      refine hK _ _ ?_
      clear hK K
      refine wpAny_step (i := 20) (by kernel_rfl) rfl (by kernel_rfl) (fun K hK => ?_)
      unfold Oper.wp
      go_simp
      refine hK _ _ ?_
      clear hK K
      refine wpAny_end (by kernel_rfl) ?_
    all_goals
      obtain ⟨_, cf, cs, cl, _⟩ := (unhideR HT).below (unhideR HW)
      have cj := unhideR (HCJ2 _ (unhideR HW))
      go_wp2_with fail
      refine (hp2 _).mono ?_
      rintro e w4 ⟨ad4, c4, Q, rfl, hQ, hvQ, hlQ, k4⟩
      replace HW := hideR (below_go (unhideR HW) k4)
      replace HP := hideR ((unhideR HP).below k4)
      have HQ := hideR hQ
      have HvQ := hideR hvQ
      have HlQ := hideR (val_nil_iff hQ.dg hQ.tp)
      clear k4 hQ hvQ hp2 cf cs cl cj HCJ2
      have hcm := bigCmpV ad3 ad4 c3 c4 P Q _ (by omega) (unhideR HP) (unhideR HQ)
      rw [unhideR HvP, unhideR HvQ] at hcm
      have hpz : P.length = 0 ↔ p = 0 := by rw [← unhideR HvP]; exact unhideR HlP
      have hqz : Q.length = 0 ↔ q = 0 := by rw [← unhideR HvQ]; exact unhideR HlQ
      have hAV := unhideR HH
      clear HP HQ HvP HvQ HlP HlQ HH
      by_cases p0 : P.length = 0
      · have hp : p = 0 := hpz.1 p0
        have b1 : ((P.length : Int) == 0) = true := by simp [p0]
        unfold abB at hAV
        rw [if_pos hp] at hAV
        have hq : decide (0 < q) = decide (0 < Q.length) := by
          by_cases q0 : Q.length = 0
          · rw [decide_eq_false (show ¬ 0 < q by have := hqz.1 q0; omega), decide_eq_false (by omega)]
          · rw [decide_eq_true (show 0 < q by have : q ≠ 0 := fun k => q0 (hqz.2 k); omega), decide_eq_true (by omega)]
        rw [hq] at hAV
        have HAV := hideR hAV
        clear hAV hq hp hpz hqz hcm p0
        rcases tB with rfl | rfl
        · go_wp2
          go_ret
          rw [← unhideR HAV]
          exact ⟨rfl, unhideR HW⟩
        · go_wp2
          go_ret
          rw [← unhideR HAV]
          exact ⟨rfl, unhideR HW⟩
      · have hp : ¬ p = 0 := fun k => p0 (hpz.2 k)
        have b1 : ((P.length : Int) == 0) = false := by simp [p0]
        unfold abB at hAV
        rw [if_neg hp] at hAV
        by_cases q0 : Q.length = 0
        · have hq : q = 0 := hqz.1 q0
          have b2 : ((Q.length : Int) == 0) = true := by simp [q0]
          rw [if_pos (.inl hq)] at hAV
          have HAV := hideR hAV
          clear hAV hq hp hpz hqz hcm p0 q0
          go_wp2
          go_ret
          rw [← unhideR HAV]
          exact ⟨rfl, unhideR HW⟩
        · have hq : ¬ q = 0 := fun k => q0 (hqz.2 k)
          have b2 : ((Q.length : Int) == 0) = false := by simp [q0]
          by_cases hs : sa = sb
          · rw [if_pos (.inr hs)] at hAV
            have b3 : (sa == sb) = true := by simp [hs]
            have HAV := hideR hAV
            clear hAV hq hp hpz hqz hcm p0 q0 hs
            go_wp2
            go_ret
            rw [← unhideR HAV]
            exact ⟨rfl, unhideR HW⟩
          · rw [if_neg (by rintro (k | k); exact hq k; exact hs k)] at hAV
            have b3 : (sa == sb) = false := by simp [hs]
            have e1 : decide (0 < cmp3 p q) = decide (q < p) := by
              unfold cmp3
              by_cases k1 : p < q
              · rw [if_pos k1, decide_eq_false (show ¬ q < p by omega)]
                rfl
              · rw [if_neg k1]
                by_cases k2 : q < p
                · rw [if_pos k2, decide_eq_true k2]
                  rfl
                · rw [if_neg k2, decide_eq_false k2]
                  rfl
            have e2 : decide (cmp3 p q < 0) = decide (p < q) := by
              unfold cmp3
              by_cases k1 : p < q
              · rw [if_pos k1, decide_eq_true k1]
                rfl
              · rw [if_neg k1, decide_eq_false k1]
                by_cases k2 : q < p
                · rw [if_pos k2]
                  rfl
                · rw [if_neg k2]
                  rfl
            rw [← e1, ← e2] at hAV
            clear e1 e2 hq hp hpz hqz p0 q0 hs
            generalize cmp3 p q = k at *
            have HAV := hideR hAV
            clear hAV
            go_wp2_with fail
            refine hcm.mono ?_
            rintro e w5 ⟨rfl, k5⟩
            replace HW := hideR (below_go (unhideR HW) k5)
            clear k5 hcm
            have hAV := unhideR HAV
            clear HAV
            by_cases ha : 0 < sa
            · rw [if_pos ha] at hAV
              have HAV := hideR hAV
              clear hAV
              go_wp2
              go_ret
              rw [← unhideR HAV]
              exact ⟨rfl, unhideR HW⟩
            · rw [if_neg ha] at hAV
              have HAV := hideR hAV
              clear hAV
              go_wp2
              go_ret
              rw [← unhideR HAV]
              exact ⟨rfl, unhideR HW⟩
end Go.Proofs.YtlhjmmcimhceeahDoor
