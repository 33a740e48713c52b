/-
  The program's Run, by contract.
-/
import Derived.Test.YtdngkmobkbiflagDoorDMv4
namespace Go.Proofs.YtdngkmobkbiflagDoor
open Go Go.RowKit

theorem OSl.came' {w : World} {g n : Nat} {ad : Option Addr} {X : List Bd} (h : OSl w g ad n (fun j => X.getD j bd0)) (hn : X.length = n) : BCame w ad X := by
  subst hn
  exact h.came
theorem OSl.sl {w : World} {g n cap : Nat} {ad : Option Addr} {X : List Bd} (h : OSl w g ad n (fun j => X.getD j bd0)) (hn : X.length = n) (hc : ad = none → cap = 0) : BSl w (.slice ad n cap) X := by
  subst hn
  rcases h with ⟨rfl, h0⟩ | ⟨rfl, hF⟩
  · rw [hc rfl, h0, List.length_eq_zero_iff.1 h0]
    exact .nil
  · exact .row ⟨fun k hk => ⟨g, 0, rfl, hF.lt, by rw [Nat.zero_add]; exact hF.at_ k hk⟩⟩
theorem lim_any {w : World} {n cap : Nat} {ad : Option Addr} {X : List Bd} (h : BCame w ad X) (hn : X.length = n) (hl : n ≤ 14) : Calls Tryd.prog 26 #[.slice ad n cap] w fun e w' => e = .returned (.bool (ats X && sps X)) ∧ Below w.heap.size w w' := by
  subst hn
  exact inLimits_any ad cap X w h (by omega)
theorem stp_any {g n cap : Nat} {ad : Option Addr} {X : List Bd} {s : Int} {w : World} (h : OSl w g ad n (fun j => X.getD j bd0)) (hn : X.length = n) (hG : Good X) (hs : s = 1 ∨ s = -1) :
    Calls Tryd.prog 25 #[.slice ad n cap, .int .i64 s] w fun e w' => e = .returned (.tuple #[]) ∧ OSl w' g ad n (fun j => (stepV s X).getD j bd0) ∧ Chg g w w' := by
  subst hn
  exact step_any h hG hs
theorem stepR_is (s : Int) (l : List Bd) : stepR s l = if (ats (stepV s l) && sps (stepV s l)) = true then some (stepV s l) else none := by
  have e : ats (stepV s l) = ats (drift s (kick s l)) := by
    unfold stepV
    rw [ats_kick]
  unfold stepR
  rw [e]
theorem cmp_times {steps : Int} : cmpV steps * steps = (steps.natAbs : Int) := by
  unfold cmpV
  split
  · omega
  · split <;> omega
theorem cmp_sg {steps : Int} (h : steps ≠ 0) : cmpV steps = sg steps := by
  unfold cmpV sg
  split
  · rfl
  · split
    · rfl
    · omega
set_option maxRecDepth 100000 in
set_option maxHeartbeats 1600000 in
theorem run_ok (a : Nat → Addr) : RunOK a := by
  intro v L steps w hS h hl
  have hv := fun u (hu : Errs u a) (hb : BSl u v L) => valid_ok a v L u hu hb hl
  by_cases hE0 : errV L = 0
  · have hG := good_of hE0
    by_cases hst : 2000 < steps ∨ steps < -2000
    · have hR : runE L steps = 2 := by unfold runE; rw [if_neg (by rw [hE0]; decide), if_pos hst]
      have HX : HeldR (∀ u, RunP a u L steps (.slice none 0 0) (.iface 105 (.pointer (some (a 1))))) := fun u => by
        unfold RunP
        rw [hR]
        exact ⟨err_at 1 (by decide), .inr ⟨by decide, .nil⟩⟩
      have hv1 := hv w hS h
      rw [hE0] at hv1
      have HS := hideR hS
      clear hR hE0 hG hv h hS
      go_enter Tryd.func9, Tryd.ntmps9
      go_wp2_with fail
      refine hv1.mono ?_
      rintro e w1 ⟨x, rfl, hx, k1⟩
      obtain rfl : x = .nilIface := by
        rcases hx with ⟨_, hx⟩ | ⟨k, _, hx, _⟩
        · exact hx
        · omega
      have HW := hideR k1
      have g1 := ((unhideR HS).below k1).e1
      clear k1 hx hv1
      go_wp2
      all_goals
        go_quiet (fail)
        go_wp2
        go_ret2
        exact ⟨_, _, rfl, unhideR HX _, below_go (unhideR HW) (drawn_below _ _)⟩
    · have hE : runE L steps = match runN (sg steps) steps.natAbs L with | some _ => 0 | none => 6 := by
        unfold runE
        rw [if_neg (by rw [hE0]; decide), if_neg hst]
        cases runN (sg steps) steps.natAbs L <;> rfl
      have HOk : HeldR (∀ u y X, runN (sg steps) steps.natAbs L = some X → BSl u y X → RunP a u L steps y .nilIface) := fun u y X h1 h2 => by
        have e : runE L steps = 0 := by rw [hE, h1]
        exact ⟨.inl ⟨e, rfl⟩, .inl ⟨e, X, h1, h2⟩⟩
      have HNo : HeldR (∀ u, runN (sg steps) steps.natAbs L = none → RunP a u L steps (.slice none 0 0) (.iface 105 (.pointer (some (a 5))))) := fun u h1 => by
        have e : runE L steps = 6 := by rw [hE, h1]
        unfold RunP
        rw [e]
        exact ⟨err_at 5 (by decide), .inr ⟨by decide, .nil⟩⟩
      have hv1 := hv w hS h
      rw [hE0] at hv1
      have HS := hideR hS
      have HSl := hideR h
      have HG := hideR hG
      have hsg : sg steps = 1 ∨ sg steps = -1 := by unfold sg; split <;> simp
      have HC : HeldR (steps.natAbs ≠ 0 → cmpV steps = sg steps) := fun e => cmp_sg (by omega)
      have hct := cmp_times (steps := steps)
      have hcmp := fun u => compare_any steps u
      have hNs : steps.natAbs ≤ 2000 := by omega
      have hcr : -1 ≤ cmpV steps ∧ cmpV steps ≤ 1 := by
        unfold cmpV
        split
        · decide
        · split <;> decide
      have hcw : IntKind.i64.wrap (cmpV steps * steps) = (steps.natAbs : Int) := by rw [hct]; exact iwrap (by omega) (by omega)
      have hst1 : steps ≤ 2000 := by omega
      have hst2 : -2000 ≤ steps := by omega
      have hcop := fun u (hb : BSl u v L) => copied_any hb hl
      have HN0 : HeldR (L.length = L.length) := rfl
      clear hE hE0 hv h hS hst hG hct
      generalize sg steps = S at *
      generalize cmpV steps = C at *
      generalize steps.natAbs = N at *
      have HSG := hideR hsg
      clear hsg
      generalize hn : L.length = n at *
      replace HN0 := hideR hn
      clear hn
      go_enter Tryd.func9, Tryd.ntmps9
      go_wp2_with fail
      refine hv1.mono ?_
      rintro e w1 ⟨x, rfl, hx, k1⟩
      obtain rfl : x = .nilIface := by
        rcases hx with ⟨_, hx⟩ | ⟨k, _, hx, _⟩
        · exact hx
        · omega
      have HW := hideR k1
      replace HSl := hideR ((unhideR HSl).below k1)
      clear k1 hx hv1
      go_wp2_with fail
      refine (hcop _ (unhideR HSl)).mono ?_
      rintro e w2 ⟨g, ad, cap, rfl, hg, hcap, hO, k2⟩
      have hg2 : w.heap.size ≤ g := Nat.le_trans (unhideR HW).size hg
      replace HW := hideR (below_go (unhideR HW) k2)
      have HO := hideR hO
      have HCap := hideR hcap
      clear hO k2 hcap hcop HSl hg
      go_wp2_with fail
      refine (hcmp _).mono ?_
      rintro e w3 ⟨rfl, rfl⟩
      clear hcmp
      go_wp2
      go_loopw [28] (fun mv wl => ∃ (m : Nat) (X : List Bd), m ≤ N ∧ mv = .int .i64 (m : Nat) ∧ HeldR (runN S (N - m) X = runN S N L) ∧ HeldR (X.length = n) ∧ HeldR (Good X) ∧ HeldR (OSl wl g ad n (fun j => X.getD j bd0)) ∧ HeldR (Below w.heap.size w wl)) (fun mv _ => N + 1 - (intOf mv).toNat)
      case atStart => exact ⟨0, L, by omega, rfl, hideR rfl, HN0, HG, HO, HW⟩
      case round =>
        clear HO HW HG HN0
        obtain ⟨m, X, hm, rfl, HRun, HN, HG, HO, HW⟩ := hrel
        by_cases hlt : m < N
        · obtain rfl : C = S := unhideR HC (by omega)
          have hstep := stp_any (cap := cap) (s := C) (unhideR HO) (unhideR HN) (unhideR HG) (unhideR HSG)
          have hwr := (unhideR HW).size
          have hl12 : n ≤ 12 := by rw [← unhideR HN]; exact (unhideR HG).l
          have HN2 : HeldR ((stepV C X).length = n) := by
            unfold HeldR
            rw [stepV_length]
            exact unhideR HN
          have e3 : runN C (N - m) X = (stepR C X).bind (runN C (N - (m + 1))) := by
            rw [show N - m = (N - (m + 1)) + 1 by omega]
            rfl
          have e4 := unhideR HRun
          rw [e3, stepR_is] at e4
          have HE4 := hideR e4
          have HG2 : HeldR ((ats (stepV C X) && sps (stepV C X)) = true → Good (stepV C X)) := fun e => by
            refine (unhideR HG).step (s := C) ?_
            rw [stepR_is, if_pos e]
          clear e3 e4 HRun
          go_wp2_with fail
          refine hstep.mono ?_
          rintro e w4 ⟨rfl, h1, c1⟩
          replace HO := hideR h1
          replace HW := hideR (Chg.below (unhideR HW) c1 hg2 hwr)
          clear h1 c1 hstep
          have hlim := lim_any (cap := cap) ((unhideR HO).came' (unhideR HN2)) (unhideR HN2) (by omega)
          generalize (ats (stepV C X) && sps (stepV C X)) = t at *
          go_wp2_with fail
          refine hlim.mono ?_
          rintro e w5 ⟨rfl, k5⟩
          replace HO := hideR ((unhideR HO).below k5)
          replace HW := hideR (below_go (unhideR HW) k5)
          clear k5 hlim
          cases t
          · have HX := hideR (fun u => unhideR HNo u (by have := unhideR HE4; rw [if_neg (by exact Bool.noConfusion)] at this; exact this.symm))
            have g5 := ((unhideR HS).below (unhideR HW)).e5
            clear HE4 HG2 HNo HOk
            go_wp2
            go_quiet (fail)
            go_wp2
            go_ret2
            exact ⟨_, _, rfl, unhideR HX _, below_go (unhideR HW) (drawn_below _ _)⟩
          · have HR2 : HeldR (runN C (N - (m + 1)) (stepV C X) = runN C N L) := by
              have := unhideR HE4
              rw [if_pos rfl] at this
              exact this
            have HG3 := hideR (unhideR HG2 rfl)
            clear HE4 HG2 HG
            go_wp2
            exact ⟨⟨m + 1, stepV C X, by omega, by go_num, HR2, HN2, HG3, HO, HW⟩, by simp [intOf]; omega⟩
        · obtain rfl : m = N := by omega
          have hX : runN S m L = some X := by
            have := unhideR HRun
            rw [Nat.sub_self] at this
            exact this.symm
          have HX := hideR (unhideR HOk wr _ X hX ((unhideR HO).sl (unhideR HN) (unhideR HCap)))
          clear hX HRun HO HG HOk HNo
          go_wp2
          go_ret2
          exact ⟨_, _, rfl, unhideR HX, unhideR HW⟩
  · have hR : runE L steps = errV L := by unfold runE; rw [if_pos hE0]
    have HX : HeldR (∀ u x, ErrIs a (errV L) x → RunP a u L steps (.slice none 0 0) x) := fun u x hx => by
      unfold RunP
      rw [hR]
      exact ⟨hx, .inr ⟨hE0, .nil⟩⟩
    have hv1 := hv w hS h
    have HN0 := hideR hE0
    clear hR hE0 hv h hS
    go_enter Tryd.func9, Tryd.ntmps9
    go_wp2_with fail
    refine hv1.mono ?_
    rintro e w1 ⟨x, rfl, hx, k1⟩
    have HX2 := hideR (fun u => unhideR HX u x hx)
    obtain ⟨k, rfl⟩ : ∃ k : Nat, x = .iface 105 (.pointer (some (a k))) := by
      rcases hx with ⟨h0, _⟩ | ⟨k, _, _, hx⟩
      · exact absurd h0 (unhideR HN0)
      · exact ⟨k, hx⟩
    have HW := hideR k1
    clear k1 hx hv1 HX
    go_wp2
    go_ret2
    exact ⟨_, _, rfl, unhideR HX2 _, unhideR HW⟩
end Go.Proofs.YtdngkmobkbiflagDoor
