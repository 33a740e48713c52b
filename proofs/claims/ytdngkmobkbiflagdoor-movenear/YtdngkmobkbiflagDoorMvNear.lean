/-
  The law MoveNear: its walk, out of the program's Run and Near by their contracts.
-/
import Derived.Test.YtdngkmobkbiflagDoorMvBack
namespace Go.Proofs.YtdngkmobkbiflagDoor
open Go Go.RowKit

/-- the nearest so far: how far, at which step, who. -/
structure Nr where
  best : Int
  p : Int
  s : Int
  t : Int
def nrUp (n i k : Nat) (d : Int) (r : Nr) : Nr := if r.best < 0 ∨ d < r.best then ⟨d, n, i, k⟩ else r
def distB (l : List Bd) (i k : Nat) : Int := sqC ((l.getD k bd0).at_.sub (l.getD i bd0).at_)
def nrRow (n : Nat) (l : List Bd) (i : Nat) : Nat → Nr → Nr
  | 0, r => r
  | c + 1, r => nrUp n i (i + 1 + c) (distB l i (i + 1 + c)) (nrRow n l i c r)
def nrAll (n : Nat) (l : List Bd) : Nat → Nr → Nr
  | 0, r => r
  | c + 1, r => nrRow n l c (l.length - (c + 1)) (nrAll n l c r)
def nowN (L : List Bd) : Nat → List Bd
  | 0 => L
  | n + 1 => stepV 1 (nowN L n)
def nrSteps (L : List Bd) : Nat → Nr → Nr
  | 0, r => r
  | c + 1, r => nrAll c (nowN L c) L.length (nrSteps L c r)
def nearV (L : List Bd) (steps : Int) : Nr := nrSteps L (steps.toNat + 1) ⟨-1, 0, 0, 0⟩
def nearE (L : List Bd) (steps : Int) : Int := if errV L ≠ 0 then errV L else if steps < 0 then 2 else if runE L steps ≠ 0 then runE L steps else if L.length < 2 then 9 else 0
def NearP (a : Nat → Addr) (L : List Bd) (steps : Int) (e : Ending) : Prop := ∃ (r : Nr) (x : Value), e = .returned (.tuple #[.int .i64 r.p, .int .i64 r.s, .int .i64 r.t, .int .i64 r.best, x]) ∧ ErrIs a (nearE L steps) x ∧ (nearE L steps = 0 → r = nearV L steps) ∧ (nearE L steps ≠ 0 → r = ⟨0, 0, 0, 0⟩)
def NearOK (a : Nat → Addr) : Prop := ∀ (v : Value) (L : List Bd) (steps : Int) (w : World), Sents w a → BSl w v L → L.length ≤ 14 → Calls Tryd.prog 19 #[v, .int .i64 steps] w fun e w' => NearP a L steps e ∧ Below w.heap.size w w'
theorem nowN_length (L : List Bd) : ∀ n, (nowN L n).length = L.length
  | 0 => rfl
  | n + 1 => by
    unfold nowN
    rw [stepV_length, nowN_length L n]
theorem run_parts {N : Nat} {L Z : List Bd} (hG : Good L) (h : runN 1 N L = some Z) : ∀ n, n ≤ N → Good (nowN L n) ∧ ∃ Y, runN 1 (N - n) (nowN L n) = some Y
  | 0, _ => ⟨hG, Z, h⟩
  | n + 1, hn => by
    obtain ⟨g, Y, hY⟩ := run_parts hG h n (by omega)
    have e : N - n = N - (n + 1) + 1 := by omega
    rw [e] at hY
    have e2 : runN 1 (N - (n + 1) + 1) (nowN L n) = (stepR 1 (nowN L n)).bind (runN 1 (N - (n + 1))) := rfl
    rw [e2] at hY
    cases es : stepR 1 (nowN L n) with
    | none => rw [es] at hY; cases hY
    | some X =>
      rw [es] at hY
      have gX := g.step es
      obtain ⟨_, _, rfl⟩ := stepR_some es
      exact ⟨gX, Y, hY⟩
theorem run_next {N : Nat} {L Z : List Bd} (hG : Good L) (h : runN 1 N L = some Z) {n : Nat} (hn : n < N) : stepR 1 (nowN L n) = some (nowN L (n + 1)) := by
  obtain ⟨g, Y, hY⟩ := run_parts hG h n (by omega)
  have e : N - n = N - (n + 1) + 1 := by omega
  rw [e] at hY
  have e2 : runN 1 (N - (n + 1) + 1) (nowN L n) = (stepR 1 (nowN L n)).bind (runN 1 (N - (n + 1))) := rfl
  rw [e2] at hY
  cases es : stepR 1 (nowN L n) with
  | none => rw [es] at hY; cases hY
  | some X =>
    obtain ⟨_, _, rfl⟩ := stepR_some es
    rfl
theorem BSl.nsl {w : World} {v : Value} {L : List Bd} (h : BSl w v L) (hn : L ≠ []) : NSl w v L := by
  cases h with
  | nil => exact absurd rfl hn
  | row h => exact .inr ⟨_, _, rfl, h, hn⟩
theorem NSl.some2 {w : World} {a0 : Addr} {cap : Nat} {D : List Bd} (h : BCame w (some a0) D) (hn : D ≠ []) : NSl w (.slice (some a0) D.length cap) D := .inr ⟨a0, cap, rfl, h, hn⟩
theorem runE_range (L : List Bd) (steps : Int) : 0 ≤ runE L steps := by
  unfold runE
  split
  · rcases errV_range L with h | ⟨h, _⟩ <;> omega
  · split
    · decide
    · split <;> decide
set_option maxRecDepth 100000 in
set_option maxHeartbeats 6400000 in
theorem near_walk {a : Nat → Addr} (hR : RunOK a) (hN : NearOK a) {v : Value} {L : List Bd} (steps : Int) (w : World) (hS : Sents w a) (h : BSl w v L) (hl : L.length ≤ 9223372036854775807) :
    Calls Tryd.prog 6 #[v, .int .i64 steps] w fun e w' => e = .returned (.bool true) ∧ Below w.heap.size w w' := by
  have HS := hideR hS
  obtain ⟨ad, cap0, rfl, _⟩ := h.cut
  have HB := hideR h
  have hmv := moves_any hR w hS.errs
  have HNr := hideR hN
  clear hS h hR hN
  go_enter Tryd.func6, Tryd.ntmps6
  go_wp2_with fail
  refine hmv.mono ?_
  rintro e w1 ⟨rfl, k1⟩
  have HW := hideR k1
  clear k1 hmv
  have hsh := short_any ((unhideR HB).below (unhideR HW)) hl steps
  cases hf : shortB L.length steps with
  | false =>
    rw [hf] at hsh
    go_wp2_with fail
    refine hsh.mono ?_
    rintro e w2 ⟨rfl, rfl⟩
    go_wp2
    go_ret
    exact ⟨rfl, unhideR HW⟩
  | true =>
    rw [hf] at hsh
    have h14 := short_len hf
    have HF := hideR hf
    go_wp2_with fail
    refine hsh.mono ?_
    rintro e w2 ⟨rfl, rfl⟩
    clear hsh hf
    have hb := bodies_any ((unhideR HB).below (unhideR HW)) h14
    go_wp2_with fail
    refine hb.mono ?_
    rintro e w3 ⟨u, rfl, hO, k3⟩
    replace HW := hideR (below_go (unhideR HW) k3)
    clear hb k3
    have hnear := unhideR HNr u L steps w3 ((unhideR HS).below (unhideR HW) (Nat.le_refl _)) hO.sl h14
    clear hO HNr
    go_wp2_with fail
    refine hnear.mono ?_
    rintro e w4 ⟨⟨R, x, rfl, hx, hr0, hr1⟩, k4⟩
    replace HW := hideR (below_go (unhideR HW) k4)
    have HX0 := hideR hx
    have HR0 := hideR hr0
    have HR1 := hideR hr1
    clear hnear k4 hx hr0 hr1
    have hbe := bodiesErr_any ((unhideR HB).below (unhideR HW)) hl
    rcases errV_range L with e0 | ⟨e1, e2⟩
    · rw [e0] at hbe
      by_cases hneg : steps < 0
      · have eN : nearE L steps = 2 := by unfold nearE; rw [if_neg (by rw [e0]; decide), if_pos hneg]
        have HX : HeldR (ErrIs a 2 x) := eN ▸ unhideR HX0
        obtain rfl := unhideR HR1 (by rw [eN]; decide)
        clear HX0 HR0 HR1 eN e0
        go_wp2_with fail
        refine hbe.mono ?_
        rintro e w5 ⟨rfl, k5⟩
        replace HW := hideR (below_go (unhideR HW) k5)
        clear hbe k5
        have hc := coded_err ((unhideR HS).below (unhideR HW) (Nat.le_refl _)) (unhideR HX)
        go_wp2_with fail
        refine hc.mono ?_
        rintro e w20 ⟨rfl, k20⟩
        replace HW := hideR (below_go (unhideR HW) k20)
        clear hc k20
        go_wp2
        go_ret
        exact ⟨rfl, unhideR HW⟩
      · have hn0 : 0 ≤ steps := by omega
        have hro := fun u (hu : Below w.heap.size w u) => runOf_any ((unhideR HB).below hu) hl steps
        go_wp2_with fail
        refine hbe.mono ?_
        rintro e w5 ⟨rfl, k5⟩
        replace HW := hideR (below_go (unhideR HW) k5)
        clear hbe k5
        have hro2 := hro _ (unhideR HW)
        clear hro
        go_wp2_with fail
        refine hro2.mono ?_
        rintro e w6 ⟨u6, E, rfl, ⟨hE, hX⟩, k6⟩
        replace HW := hideR (below_go (unhideR HW) k6)
        clear hro2 k6
        by_cases hE0 : E = 0
        · have hrun : ∃ X, runN (sg steps) steps.natAbs L = some X := by
            rcases hX with ⟨_, X, h, _⟩ | ⟨h, _⟩
            · exact ⟨X, h⟩
            · exact absurd hE0 h
          subst hE0
          clear hX
          by_cases h2 : L.length < 2
          · have eN : nearE L steps = 9 := by unfold nearE; rw [if_neg (by rw [e0]; decide), if_neg (by omega), if_neg (by rw [← hE]; decide), if_pos h2]
            have HX : HeldR (ErrIs a 9 x) := eN ▸ unhideR HX0
            obtain rfl := unhideR HR1 (by rw [eN]; decide)
            clear HX0 HR0 HR1 eN e0 hE hrun
            have hc := coded_err ((unhideR HS).below (unhideR HW) (Nat.le_refl _)) (unhideR HX)
            go_wp2_with fail
            refine hc.mono ?_
            rintro e w20 ⟨rfl, k20⟩
            replace HW := hideR (below_go (unhideR HW) k20)
            clear hc k20
            go_wp2
            go_ret
            exact ⟨rfl, unhideR HW⟩
          · have eN : nearE L steps = 0 := by unfold nearE; rw [if_neg (by rw [e0]; decide), if_neg (by omega), if_neg (by rw [← hE]; decide), if_neg h2]
            have hx0 : x = .nilIface := by
              have := unhideR HX0
              rw [eN] at this
              rcases this with ⟨_, h⟩ | ⟨k, _, h, _⟩
              · exact h
              · omega
            subst hx0
            have HRV := hideR (unhideR HR0 eN)
            have hG := good_of e0
            obtain ⟨X, hX⟩ := hrun
            have hs1 : sg steps = 1 := by unfold sg; rw [if_neg (by omega)]
            rw [hs1, show steps.natAbs = steps.toNat by omega] at hX
            have HP := hideR (fun n hn => (run_parts hG hX n hn).1)
            have HNx := hideR (fun n hn => run_next hG hX (n := n) hn)
            have h12 := hG.l
            have hst : steps ≤ 2000 := (runE_zero (L := L) (steps := steps) hE.symm).2.1
            obtain ⟨N, hNs⟩ : ∃ N : Nat, steps = (N : Int) := ⟨steps.toNat, by omega⟩
            have HNV : HeldR (nearV L steps = nrSteps L (N + 1) ⟨-1, 0, 0, 0⟩) := by
              unfold HeldR nearV
              rw [show steps.toNat = N by omega]
            rw [show steps.toNat = N by omega] at HP HNx
            have HNS0 : HeldR (NSl w6 (.slice ad L.length cap0) L) := ((unhideR HB).below (unhideR HW)).nsl (fun e => h2 (by rw [e]; decide))
            have hN2 : N ≤ 2000 := by omega
            clear HX0 HR0 HR1 eN e0 hE hX hG hs1 hst HF
            subst hNs
            go_wp2
            go_loopw [13, 14, 15, 16, 17, 18] (fun bv pv sv tv uv nv wl => ∃ (n : Nat) (r : Nr) (D : List Bd), n ≤ N + 1 ∧ nv = .int .i64 (n : Nat) ∧ bv = .int .i64 r.best ∧ pv = .int .i64 r.p ∧ sv = .int .i64 r.s ∧ tv = .int .i64 r.t ∧ HeldR (r = nrSteps L n ⟨-1, 0, 0, 0⟩) ∧ HeldR (n ≤ N → D = nowN L n) ∧ HeldR (NSl wl uv D) ∧ HeldR (Below w.heap.size w wl)) (fun _ _ _ _ _ nv _ => N + 2 - (intOf nv).toNat)
            case atStart => exact ⟨0, ⟨-1, 0, 0, 0⟩, L, by omega, rfl, rfl, rfl, rfl, rfl, rfl, fun _ => rfl, HNS0, HW⟩
            case round =>
              clear HNS0 HW
              obtain ⟨n, r1, D, hn, rfl, rfl, rfl, rfl, rfl, HR, HD, HNS, HW⟩ := hrel
              by_cases hnl : n ≤ N
              · have hD := unhideR HD hnl
                have HGd : HeldR (Good D) := hD ▸ unhideR HP n hnl
                have hDl : D.length = L.length := by rw [hD]; exact nowN_length L n
                have HStp : HeldR (n < N → stepR 1 D = some (nowN L (n + 1))) := fun hlt => hD ▸ unhideR HNx n hlt
                have HAll : HeldR (nrAll n D D.length r1 = nrSteps L (n + 1) ⟨-1, 0, 0, 0⟩) := by
                  unfold HeldR
                  show _ = nrAll n (nowN L n) L.length (nrSteps L n ⟨-1, 0, 0, 0⟩)
                  rw [← hD, ← unhideR HR, hDl]
                obtain ⟨a0, cap, rfl, hc, hne⟩ : ∃ a0 cap, u17 = .slice (some a0) D.length cap ∧ BCame wr (some a0) D ∧ D ≠ [] := by
                  rcases unhideR HNS with ⟨_, e⟩ | h
                  · exfalso
                    rw [e] at hDl
                    exact h2 (by rw [← hDl]; decide)
                  · exact h
                have HC := hideR hc
                have hD12 : D.length ≤ 14 := by omega
                clear hc HNS HR HD hD hDl
                go_wp2
                go_loopw [13, 14, 15, 16, 19] (fun bv pv sv tv iv wl => ∃ (i : Nat) (r : Nr), i ≤ D.length ∧ iv = .int .i64 (i : Nat) ∧ bv = .int .i64 r.best ∧ pv = .int .i64 r.p ∧ sv = .int .i64 r.s ∧ tv = .int .i64 r.t ∧ HeldR (r = nrAll n D i r1) ∧ HeldR (BCame wl (some a0) D) ∧ HeldR (Below w.heap.size w wl)) (fun _ _ _ _ iv _ => D.length + 1 - (intOf iv).toNat)
                case atStart => exact ⟨0, r1, by omega, rfl, rfl, rfl, rfl, rfl, rfl, HC, HW⟩
                case round =>
                  clear HC HW
                  obtain ⟨i, r0, hi, rfl, rfl, rfl, rfl, rfl, HR, HC, HW⟩ := hrel
                  by_cases hil : i < D.length
                  · have HRow : HeldR (nrRow n D i (D.length - (i + 1)) r0 = nrAll n D (i + 1) r1) := by
                      unfold HeldR
                      rw [unhideR HR]
                      rfl
                    clear HR
                    go_wp2
                    go_loopw [13, 14, 15, 16, 20] (fun bv pv sv tv kv wl => ∃ (c : Nat) (r : Nr), c ≤ D.length - (i + 1) ∧ kv = .int .i64 ((i + 1 + c : Nat) : Int) ∧ bv = .int .i64 r.best ∧ pv = .int .i64 r.p ∧ sv = .int .i64 r.s ∧ tv = .int .i64 r.t ∧ HeldR (r = nrRow n D i c r0) ∧ HeldR (BCame wl (some a0) D) ∧ HeldR (Below w.heap.size w wl)) (fun _ _ _ _ kv _ => D.length + 1 - (intOf kv).toNat)
                    case atStart => exact ⟨0, r0, by omega, by go_num, rfl, rfl, rfl, rfl, rfl, HC, HW⟩
                    case round =>
                     clear HC HW
                     obtain ⟨c, r, hc', rfl, rfl, rfl, rfl, rfl, HR, HC, HW⟩ := hrel
                     by_cases hkl : i + 1 + c < D.length
                     · have HU : HeldR ((if r.best < 0 ∨ distB D i (i + 1 + c) < r.best then ⟨distB D i (i + 1 + c), n, i, ((i + 1 + c : Nat) : Int)⟩ else r) = nrRow n D i (c + 1) r0) := by
                        unfold HeldR
                        rw [unhideR HR]
                        rfl
                       obtain ⟨k, hk⟩ : ∃ k, i + 1 + c = k := ⟨_, rfl⟩
                       rw [hk] at hkl HU ⊢
                       obtain ⟨b, off, e1, hb, hatk⟩ := (unhideR HC).at_ k hkl
                       obtain rfl : a0 = ⟨b, off, none⟩ := by injection e1
                       obtain ⟨b', off', e', hb', hati⟩ := (unhideR HC).at_ i hil
                       cases e'
                       have HK := hideR hatk
                       have HI := hideR hati
                       have ak := ats_all (unhideR HGd).a k hkl
                       have ai := ats_all (unhideR HGd).a i hil
                       have hless := fun u => less_any _ _ u ak ai
                       have hsub : ((D.getD k bd0).at_.sub (D.getD i bd0).at_).In 2097152 := by
                         obtain ⟨x1, x2, x3, x4, x5, x6⟩ := ak
                         obtain ⟨y1, y2, y3, y4, y5, y6⟩ := ai
                         refine ⟨?_, ?_, ?_, ?_, ?_, ?_⟩
                         all_goals
                           simp only [Cl.sub]
                           omega
                       have hsq := fun u => squareOf_any _ u hsub
                       have hdr := sqC_range hsub
                       unfold distB at HU
                       clear hatk hati ak ai hsub hb' e1
                       generalize D.getD k bd0 = Bk at *
                       generalize D.getD i bd0 = Bi at *
                       generalize sqC (Bk.at_.sub Bi.at_) = d at *
                       clear HR
                       go_wp2_with fail
                       · skip
                         refine wp_region_made 0 #[true, true, true, true, true, true, true, true, true, true, true, true, false] [.lets (· = .slice (some ⟨b, off, none⟩) D.length cap),
                           .lets (· = .int .i64 (k : Nat)),
                           .lets (· = .pointer (some ⟨b, off + k * 7, none⟩)),
                           .lets (· = .pointer (some ⟨b, off + k * 7, none⟩)),
                           .lets (· = .agg #[.int .i64 Bk.at_.x, .int .i64 Bk.at_.y, .int .i64 Bk.at_.z]),
                           .lets (· = .slice (some ⟨b, off, none⟩) D.length cap),
                           .lets (· = .int .i64 (i : Nat)),
                           .lets (· = .pointer (some ⟨b, off + i * 7, none⟩)),
                           .lets (· = .pointer (some ⟨b, off + i * 7, none⟩)),
                           .lets (· = .agg #[.int .i64 Bi.at_.x, .int .i64 Bi.at_.y, .int .i64 Bi.at_.z]),
                           .lets (· = (Bk.at_.sub Bi.at_).val),
                           .lets (· = .int .i64 d)] [] [] (by kernel_rfl) (by kernel_rfl) rfl ?kinds (by kernel_rfl) (by kernel_rfl) (by kernel_rfl) ?_
                         case kinds =>
                           constructor
                           · intro i h
                             rcases i with _ | _ | _ | _ | _ | _ | _ | _ | _ | _ | _ | _ | i <;> simp [Kx.isMade] at h
                           · intro i h
                             rcases i with _ | _ | _ | _ | _ | _ | _ | _ | _ | _ | _ | _ | i <;> simp [Kx.isUse] at h
                         refine lexX_step (fun K hK => ⟨by kernel_rfl, ⟨_, rfl⟩, fun v hv => ?_, fun v hv => ?_⟩)
                         · go_simp
                           exact mUpon_b
                         subst hv
                         go_simp
                         refine hK _ ?_
                         clear hK K
                         refine lexX_step (fun K hK => ⟨by kernel_rfl, ⟨_, rfl⟩, fun v hv => ?_, fun v hv => ?_⟩)
                         · go_simp
                           exact mUpon_b
                         subst hv
                         go_simp
                         refine hK _ ?_
                         clear hK K
                         refine lexX_step (fun K hK => ⟨by kernel_rfl, ⟨_, rfl⟩, fun v hv => ?_, fun v hv => ?_⟩)
                         · go_simp
                           exact mUpon_b
                         subst hv
                         go_simp
                         refine hK _ ?_
                         clear hK K
                         refine lexX_step (fun K hK => ⟨by kernel_rfl, ⟨_, rfl⟩, fun v hv => ?_, fun v hv => ?_⟩)
                         · go_simp
                           exact mUpon_b
                         subst hv
                         go_simp
                         refine hK _ ?_
                         clear hK K
                         refine lexX_step (fun K hK => ⟨by kernel_rfl, ⟨_, rfl⟩, fun v hv => ?_, fun v hv => ?_⟩)
                         · obtain ⟨c0, c1, c2, c3, c4, c5, c6⟩ := (unhideR HK).below hv hb
                           go_simp
                           exact mUpon_b
                         subst hv
                         go_simp
                         refine hK _ ?_
                         clear hK K
                         refine lexX_step (fun K hK => ⟨by kernel_rfl, ⟨_, rfl⟩, fun v hv => ?_, fun v hv => ?_⟩)
                         · go_simp
                           exact mUpon_b
                         subst hv
                         go_simp
                         refine hK _ ?_
                         clear hK K
                         refine lexX_step (fun K hK => ⟨by kernel_rfl, ⟨_, rfl⟩, fun v hv => ?_, fun v hv => ?_⟩)
                         · go_simp
                           exact mUpon_b
                         subst hv
                         go_simp
                         refine hK _ ?_
                         clear hK K
                         refine lexX_step (fun K hK => ⟨by kernel_rfl, ⟨_, rfl⟩, fun v hv => ?_, fun v hv => ?_⟩)
                         · go_simp
                           exact mUpon_b
                         subst hv
                         go_simp
                         refine hK _ ?_
                         clear hK K
                         refine lexX_step (fun K hK => ⟨by kernel_rfl, ⟨_, rfl⟩, fun v hv => ?_, fun v hv => ?_⟩)
                         · go_simp
                           exact mUpon_b
                         subst hv
                         go_simp
                         refine hK _ ?_
                         clear hK K
                         refine lexX_step (fun K hK => ⟨by kernel_rfl, ⟨_, rfl⟩, fun v hv => ?_, fun v hv => ?_⟩)
                         · obtain ⟨c0, c1, c2, c3, c4, c5, c6⟩ := (unhideR HI).below hv hb
                           go_simp
                           exact mUpon_b
                         subst hv
                         go_simp
                         refine hK _ ?_
                         clear hK K
                         refine lexX_step (fun K hK => ⟨by kernel_rfl, ⟨_, rfl⟩, fun v hv => ?_, fun v hv => ?_⟩)
                         · go_simp
                           refine (hless _).mono ?_
                           rintro e w9 ⟨rfl, k⟩
                           exact ⟨_, rfl, rfl, k⟩
                         subst hv
                         unfold Cl.val
                         go_simp
                         refine hK _ ?_
                         clear hK K
                         refine lexX_step (fun K hK => ⟨by kernel_rfl, ⟨_, rfl⟩, fun v hv => ?_, fun v hv => ?_⟩)
                         · go_simp
                           refine (hsq _).mono ?_
                           rintro e w9 ⟨rfl, k⟩
                           exact ⟨_, rfl, rfl, k⟩
                         subst hv
                         go_simp
                         refine hK _ ?_
                         clear hK K
                         refine lexX_end (fun v hv => ?_)
                         have HW2 := hideR (below_go (unhideR HW) hv.low)
                         have HC2 := hideR ((unhideR HC).below hv.low)
                         clear hv
                         refine wpAny_step (i := 12) (by kernel_rfl) rfl (by kernel_rfl) (fun K hK => ?_)
                         unfold Oper.wp
                         go_simp
                         refine hK _ _ ?_
                         clear hK K
                         refine wpAny_end (by kernel_rfl) ?_
                         clear HW HC HK HI hless hsq
                         by_cases hd : r.best < 0 ∨ d < r.best
                         · have HU2 : HeldR (Nr.mk d n i k = nrRow n D i (c + 1) r0) := by
                             have := unhideR HU
                             rw [if_pos hd] at this
                             exact this
                           clear HU
                           go_wp2
                           all_goals
                             exact ⟨⟨c + 1, ⟨d, n, i, k⟩, by omega, by go_num, rfl, rfl, rfl, rfl, HU2, HC2, HW2⟩, by simp [intOf]; omega⟩
                         · have HU2 : HeldR (r = nrRow n D i (c + 1) r0) := by
                             have := unhideR HU
                             rw [if_neg hd] at this
                             exact this
                           have hd1 : 0 ≤ r.best := by omega
                           have hd2 : r.best ≤ d := by omega
                           clear HU hd
                           go_wp2
                           exact ⟨⟨c + 1, r, by omega, by go_num, rfl, rfl, rfl, rfl, HU2, HC2, HW2⟩, by simp [intOf]; omega⟩
                     · obtain rfl : c = D.length - (i + 1) := by omega
                       have HR2 := hideR ((unhideR HR).trans (unhideR HRow))
                       clear HR HRow
                       go_wp2
                       exact ⟨⟨i + 1, r, by omega, by go_num, rfl, rfl, rfl, rfl, HR2, HC, HW⟩, by simp [intOf]; omega⟩
                  · obtain rfl : i = D.length := by omega
                    have HR2 := hideR ((unhideR HR).trans (unhideR HAll))
                    clear HR HAll
                    by_cases hlast : n < N
                    · have hstep := stepOf_any (s := 1) (NSl.some2 (cap := cap) (unhideR HC) hne) (unhideR HGd) (.inl rfl)
                      have hsn := unhideR HStp hlast
                      go_wp2_with fail
                      refine hstep.mono ?_
                      rintro e w9 ⟨u9, ok, rfl, hst, hb⟩
                      replace HW := hideR (below_go (unhideR HW) hb)
                      clear hstep hb
                      rcases hst with ⟨rfl, X', hX', _, hN'⟩ | ⟨rfl, hX', _⟩
                      · rw [hsn] at hX'
                        cases hX'
                        have HNS := hideR hN'
                        clear hN' hsn HStp HGd HC
                        go_wp2
                        exact ⟨⟨n + 1, r0, nowN L (n + 1), by omega, by go_num, rfl, rfl, rfl, rfl, HR2, fun _ => rfl, HNS, HW⟩, by simp [intOf]; omega⟩
                      · rw [hsn] at hX'
                        cases hX'
                    · have HNS : HeldR (NSl wr (.slice (some a0) D.length cap) D) := NSl.some2 (unhideR HC) hne
                      clear HStp HGd HC
                      go_wp2
                      exact ⟨⟨n + 1, r0, D, by omega, by go_num, rfl, rfl, rfl, rfl, HR2, fun h => absurd h (by omega), HNS, HW⟩, by simp [intOf]; omega⟩
              · obtain rfl : n = N + 1 := by omega
                obtain rfl : R = r1 := by rw [unhideR HRV, unhideR HNV, unhideR HR]
                clear HR HD HNS HRV HNV HP HNx
                go_wp2
                go_ret
                exact ⟨rfl, unhideR HW⟩
        · have hEr : 0 < E := by
            have h3 := runE_range L steps
            omega
          have eN : nearE L steps = E := by unfold nearE; rw [if_neg (by rw [e0]; decide), if_neg (by omega), if_pos (by omega), hE]
          have HX : HeldR (ErrIs a E x) := eN ▸ unhideR HX0
          obtain rfl := unhideR HR1 (by omega)
          clear HX0 HR0 HR1 eN e0 hE hX
          have hc := coded_err ((unhideR HS).below (unhideR HW) (Nat.le_refl _)) (unhideR HX)
          go_wp2_with fail
          refine hc.mono ?_
          rintro e w20 ⟨rfl, k20⟩
          replace HW := hideR (below_go (unhideR HW) k20)
          clear hc k20
          go_wp2
          go_ret
          exact ⟨rfl, unhideR HW⟩
    · have eN : nearE L steps = errV L := by unfold nearE; rw [if_pos (by omega)]
      have HX : HeldR (ErrIs a (errV L) x) := eN ▸ unhideR HX0
      obtain rfl := unhideR HR1 (by omega)
      clear HX0 HR0 HR1 eN
      generalize errV L = E at *
      go_wp2_with fail
      refine hbe.mono ?_
      rintro e w5 ⟨rfl, k5⟩
      replace HW := hideR (below_go (unhideR HW) k5)
      clear hbe k5
      have hc := coded_err ((unhideR HS).below (unhideR HW) (Nat.le_refl _)) (unhideR HX)
      go_wp2_with fail
      refine hc.mono ?_
      rintro e w20 ⟨rfl, k20⟩
      replace HW := hideR (below_go (unhideR HW) k20)
      clear hc k20
      go_wp2
      go_ret
      exact ⟨rfl, unhideR HW⟩
end Go.Proofs.YtdngkmobkbiflagDoor
