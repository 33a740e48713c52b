/-
  The program's Near, by contract.
-/
import Derived.Test.YtdngkmobkbiflagDoorDMv7
namespace Go.Proofs.YtdngkmobkbiflagDoor
open Go Go.RowKit

theorem FOwn.other {w v : World} {g n : Nat} {f : Nat → Bd} (h : FOwn w g n f) (k : v.heap[g]? = w.heap[g]?) (hs : w.heap.size ≤ v.heap.size) : FOwn v g n f := by
  have e : ∀ i, v.cell? ⟨g, i, none⟩ = w.cell? ⟨g, i, none⟩ := fun i => by simp [World.cell?, k]
  have e2 : ∀ i, v.frozen? ⟨g, i, none⟩ = w.frozen? ⟨g, i, none⟩ := fun i => by simp [World.frozen?, k]
  exact ⟨fun j hj => ⟨(e _).trans (h.at_ j hj).ax, (e _).trans (h.at_ j hj).ay, (e _).trans (h.at_ j hj).az, (e _).trans (h.at_ j hj).sx, (e _).trans (h.at_ j hj).sy, (e _).trans (h.at_ j hj).sz, (e _).trans (h.at_ j hj).ms⟩, fun i => (e2 i).trans (h.free i), Nat.lt_of_lt_of_le h.lt hs⟩
def nr0 : Nr := ⟨-1, 0, 0, 0⟩
theorem mm0 : mmV nr0 = ⟨9223372036854775807, 0, 0, 0⟩ := rfl
theorem near_any' {r : Nr} {n m cap : Nat} {X : List Bd} {ad : Option Addr} {w : World} (hr : BCame w ad X) (hm : X.length = m) (hl : m ≤ 12) (ha : ats X = true) :
    Calls Tryd.prog 32 #[.agg #[.int .i64 (mmV r).p, .int .i64 (mmV r).s, .int .i64 (mmV r).t, .int .i64 (mmV r).best], .int .i64 (n : Nat), .slice ad m cap] w fun e w' => ∃ q : Nr, e = .returned (.agg #[.int .i64 q.p, .int .i64 q.s, .int .i64 q.t, .int .i64 q.best]) ∧ q = mmV (nrAll n X m r) ∧ Below w.heap.size w w' := by
  subst hm
  exact nearer_any r n X ad cap w hr hl ha
theorem no_near {a : Nat → Addr} {L : List Bd} {steps E : Int} {x : Value} (h : nearE L steps = E) (hE : E ≠ 0) (hx : ErrIs a E x) : NearP a L steps (.returned (.tuple #[.int .i64 0, .int .i64 0, .int .i64 0, .int .i64 0, x])) :=
  ⟨⟨0, 0, 0, 0⟩, x, rfl, h ▸ hx, fun k => absurd (h.symm.trans k) hE, fun _ => rfl⟩
set_option maxRecDepth 100000 in
set_option maxHeartbeats 1600000 in
theorem near_ok (a : Nat → Addr) : NearOK a := by
  intro v L steps w hS h hl
  have hv := fun u (hu : Errs u a) (hb : BSl u v L) => valid_ok a v L u hu hb hl
  by_cases hE0 : errV L = 0
  · have hG := good_of hE0
    have hv1 := hv w hS.errs h
    rw [hE0] at hv1
    by_cases hst : steps < 0 ∨ 2000 < steps
    · have hR : nearE L steps = 2 := by
        unfold nearE
        rw [if_neg (by rw [hE0]; decide)]
        rcases hst with h1 | h1
        · rw [if_pos h1]
        · have hr : runE L steps = 2 := by unfold runE; rw [if_neg (by rw [hE0]; decide), if_pos (.inl h1)]
          rw [if_neg (by omega), hr]
          rfl
      have HX := hideR (no_near (x := .iface 105 (.pointer (some (a 1)))) hR (by decide) (err_at 1 (by decide)))
      have HS := hideR hS
      clear hR hE0 hG hv h hS
      go_enter Tryd.func19, Tryd.ntmps19
      go_wp2_with fail
      refine hv1.mono ?_
      rintro e w1 ⟨x, rfl, hx, k1⟩
      obtain rfl : x = .nilIface := by
        rcases hx with ⟨_, hx⟩ | ⟨k, _, hx, _⟩
        · exact hx
        · omega
      have HW := hideR k1
      have g1 := ((unhideR HS).errs.below k1).e1
      clear k1 hx hv1
      go_wp2
      all_goals
        go_quiet (fail)
        go_wp2
        simp [bodyPost, results, Tryd.results19, go_sem]
        exact ⟨unhideR HX, below_go (unhideR HW) (drawn_below _ _)⟩
    · have hst1 : 0 ≤ steps := by omega
      have hst2 : steps ≤ 2000 := by omega
      obtain ⟨N, rfl⟩ := Int.eq_ofNat_of_zero_le hst1
      have hsg : sg (N : Int) = 1 := by unfold sg; rw [if_neg (by omega)]
      have hE : runE L (N : Int) = match runN 1 N L with | some _ => 0 | none => 6 := by
        unfold runE
        rw [if_neg (by rw [hE0]; decide), if_neg (by omega), hsg]
        show (match runN 1 (N : Int).natAbs L with | some _ => (0 : Int) | none => 6) = _
        rw [Int.natAbs_natCast]
      have hNE : nearE L (N : Int) = if runE L (N : Int) ≠ 0 then runE L (N : Int) else if L.length < 2 then 9 else 0 := by
        unfold nearE
        rw [if_neg (by rw [hE0]; decide), if_neg (by omega)]
      have HNo : HeldR (runN 1 N L = none → NearP a L (N : Int) (.returned (.tuple #[.int .i64 0, .int .i64 0, .int .i64 0, .int .i64 0, .iface 105 (.pointer (some (a 5)))]))) := fun h1 => by
        refine no_near (E := 6) ?_ (by decide) (err_at 5 (by decide))
        rw [hNE, hE, h1]
        rfl
      have HFew : HeldR (∀ X, runN 1 N L = some X → L.length < 2 → NearP a L (N : Int) (.returned (.tuple #[.int .i64 0, .int .i64 0, .int .i64 0, .int .i64 0, .iface 105 (.pointer (some (a 8)))]))) := fun X h1 h2 => by
        refine no_near (E := 9) ?_ (by decide) (err_at 8 (by decide))
        rw [hNE, hE, h1]
        show (if L.length < 2 then (9 : Int) else 0) = 9
        rw [if_pos h2]
      have HOk : HeldR (∀ X q, runN 1 N L = some X → ¬ L.length < 2 → q = mmV (nrSteps L (N + 1) nr0) → NearP a L (N : Int) (.returned (.tuple #[.int .i64 q.p, .int .i64 q.s, .int .i64 q.t, .int .i64 q.best, .nilIface]))) := fun X q h1 h2 h3 => by
        have e : nearE L (N : Int) = 0 := by
          rw [hNE, hE, h1]
          show (if L.length < 2 then (9 : Int) else 0) = 0
          rw [if_neg h2]
        refine ⟨q, .nilIface, rfl, .inl ⟨e, rfl⟩, fun _ => ?_, fun k => absurd e k⟩
        rw [h3]
        have hp : 0 ≤ (nrSteps L (N + 1) nr0).best := by
          show 0 ≤ (nrAll N (nowN L N) L.length (nrSteps L N nr0)).best
          rw [show L.length = (L.length - 1) + 1 by omega]
          exact nrAll_pos (by rw [nowN_length]; omega) _
        unfold mmV
        rw [if_neg (by omega)]
        show _ = nrSteps L ((N : Int).toNat + 1) ⟨-1, 0, 0, 0⟩
        rw [Int.toNat_natCast]
        rfl
      have HS := hideR hS
      have HSl := hideR h
      have HG := hideR hG
      have hcop := fun u (hb : BSl u v L) => copied_any hb hl
      obtain ⟨ad0, cap0, rfl, _⟩ := h.cut
      have h12 := hG.l
      clear hE hNE hE0 hv h hS hst hG hsg
      generalize hn : L.length = n at *
      have HN0 := hideR hn
      clear hn
      go_enter Tryd.func19, Tryd.ntmps19
      go_wp2_with fail
      refine hv1.mono ?_
      rintro e w1 ⟨x, rfl, hx, k1⟩
      obtain rfl : x = .nilIface := by
        rcases hx with ⟨_, hx⟩ | ⟨k, _, hx, _⟩
        · exact hx
        · omega
      have HW := hideR k1
      replace HSl := hideR ((unhideR HSl).below k1)
      clear k1 hx hv1
      go_wp2_with fail
      refine (hcop _ (unhideR HSl)).mono ?_
      rintro e w2 ⟨g, ad, cap, rfl, hg, hcap, hO, k2⟩
      have hg2 : w.heap.size ≤ g := Nat.le_trans (unhideR HW).size hg
      replace HW := hideR (below_go (unhideR HW) k2)
      have HO := hideR hO
      have hnr := near_any' (r := nr0) (n := 0) (cap := cap) (hO.came' (unhideR HN0)) (unhideR HN0) h12 (unhideR HG).a
      rw [mm0] at hnr
      clear hO k2 hcap hcop HSl hg
      go_wp2_with fail
      refine hnr.mono ?_
      rintro e w3 ⟨q, rfl, hq, k3⟩
      have HQ : HeldR (q = mmV (nrSteps L (0 + 1) nr0)) := by
        unfold HeldR
        rw [hq, ← unhideR HN0]
        rfl
      obtain ⟨g', hg3, hgne, hO'⟩ : ∃ g', w.heap.size ≤ g' ∧ g' ≠ w3.heap.size ∧ OSl w3 g' ad n (fun j => L.getD j bd0) := by
        have hsz := (below_go (unhideR HW) k3).size
        rcases unhideR HO with ⟨h1, h2⟩ | ⟨h1, h2⟩
        · exact ⟨w3.heap.size + 1, by omega, by omega, .inl ⟨h1, h2⟩⟩
        · exact ⟨g, hg2, by have := Nat.lt_of_lt_of_le h2.lt k3.size; omega, .inr ⟨h1, h2.below k3 h2.lt⟩⟩
      have HO3 := hideR (hO'.below (below_a w3 (.cells #[.int .i64 q.p, .int .i64 q.s, .int .i64 q.t, .int .i64 q.best] 61)))
      have HW3 := hideR (below_go (below_go (unhideR HW) k3) (below_a w3 (.cells #[.int .i64 q.p, .int .i64 q.s, .int .i64 q.t, .int .i64 q.best] 61)))
      have HB := hideR (alloc_last w3 (.cells #[.int .i64 q.p, .int .i64 q.s, .int .i64 q.t, .int .i64 q.best] 61))
      have hwb : w.heap.size ≤ w3.heap.size := (below_go (unhideR HW) k3).size
      clear hq k3 hnr HO HW hO' hg2
      go_wp2
      generalize w3.alloc (.cells #[.int .i64 q.p, .int .i64 q.s, .int .i64 q.t, .int .i64 q.best] 61) = W4 at *
      generalize w3.heap.size = bb at *
      go_loopw [31] (fun mv wl => ∃ (m : Nat) (q : Nr), m ≤ N ∧ mv = .int .i64 (m : Nat) ∧ HeldR (q = mmV (nrSteps L (m + 1) nr0)) ∧ HeldR (wl.heap[bb]? = some (.cells #[.int .i64 q.p, .int .i64 q.s, .int .i64 q.t, .int .i64 q.best] 61)) ∧ HeldR (runN 1 (N - m) (nowN L m) = runN 1 N L) ∧ HeldR (Good (nowN L m)) ∧ HeldR (OSl wl g' ad n (fun j => (nowN L m).getD j bd0)) ∧ HeldR (Below w.heap.size w wl)) (fun mv _ => N + 1 - (intOf mv).toNat)
      case atStart => exact ⟨0, q, by omega, rfl, HQ, HB, hideR rfl, HG, HO3, HW3⟩
      case round =>
        clear HB HO3 HW3 HG HQ
        obtain ⟨m, q, hm, rfl, HQ, HB, HRun, HG, HO, HW⟩ := hrel
        have HNm : HeldR ((nowN L m).length = n) := (nowN_length L m).trans (unhideR HN0)
        by_cases hlt : m < N
        · have hstep := stp_any (cap := cap) (s := 1) (unhideR HO) (unhideR HNm) (unhideR HG) (.inl rfl)
          have hwr := (unhideR HW).size
          have HN2 : HeldR ((nowN L (m + 1)).length = n) := (nowN_length L (m + 1)).trans (unhideR HN0)
          have e3 : runN 1 (N - m) (nowN L m) = (stepR 1 (nowN L m)).bind (runN 1 (N - (m + 1))) := by
            rw [show N - m = (N - (m + 1)) + 1 by omega]
            rfl
          have e4 := unhideR HRun
          rw [e3, stepR_is] at e4
          have hnx : stepV 1 (nowN L m) = nowN L (m + 1) := rfl
          rw [hnx] at e4 hstep
          have HE4 := hideR e4
          have HG2 : HeldR ((ats (nowN L (m + 1)) && sps (nowN L (m + 1))) = true → Good (nowN L (m + 1))) := fun e => by
            refine (unhideR HG).step (s := 1) ?_
            rw [stepR_is, hnx, if_pos e]
          have HQS : HeldR (nrSteps L (m + 1 + 1) nr0 = nrAll (m + 1) (nowN L (m + 1)) n (nrSteps L (m + 1) nr0)) := by
            unfold HeldR
            rw [← unhideR HN0]
            rfl
          clear e3 e4 HRun hnx HNm
          go_wp2_with fail
          refine hstep.mono ?_
          rintro e w4 ⟨rfl, h1, c1⟩
          replace HO := hideR h1
          replace HB := hideR (c1.blk (unhideR HB) (fun k => hgne k.symm))
          replace HW := hideR (Chg.below (unhideR HW) c1 hg3 hwr)
          clear h1 c1 hstep
          have hlim := lim_any (cap := cap) ((unhideR HO).came' (unhideR HN2)) (unhideR HN2) (by omega)
          generalize ht : (ats (nowN L (m + 1)) && sps (nowN L (m + 1))) = t at *
          have HT := hideR ht
          clear ht
          go_wp2_with fail
          refine hlim.mono ?_
          rintro e w5 ⟨rfl, k5⟩
          replace HO := hideR ((unhideR HO).below k5)
          replace HB := hideR (keepB (unhideR HB) k5)
          replace HW := hideR (below_go (unhideR HW) k5)
          clear k5 hlim
          cases t
          · have HX := hideR (unhideR HNo (by have := unhideR HE4; rw [if_neg (by exact Bool.noConfusion)] at this; exact this.symm))
            have g5 := ((unhideR HS).errs.below (unhideR HW)).e5
            clear HE4 HG2 HNo HOk HFew
            go_wp2
            go_quiet (fail)
            go_wp2
            simp [bodyPost, results, Tryd.results19, go_sem]
            exact ⟨unhideR HX, below_go (unhideR HW) (drawn_below _ _)⟩
          · have HR2 : HeldR (runN 1 (N - (m + 1)) (nowN L (m + 1)) = runN 1 N L) := by
              have := unhideR HE4
              rw [if_pos rfl] at this
              exact this
            have HG3 := hideR (unhideR HG2 rfl)
            have hnr := near_any' (r := nrSteps L (m + 1) nr0) (n := m + 1) (cap := cap) ((unhideR HO).came' (unhideR HN2)) (unhideR HN2) h12 (unhideR HG3).a
            rw [← unhideR HQ, ← unhideR HQS] at hnr
            obtain ⟨⟨c0, c1, c2, c3⟩, _⟩ := mm_four (unhideR HB)
            clear HE4 HG2 HG HQ HT
            go_wp2_with fail
            refine hnr.mono ?_
            rintro e w6 ⟨q2, rfl, hq2, k6⟩
            have HQ2 := hideR hq2
            replace HO := hideR ((unhideR HO).below k6)
            replace HB := hideR (keepB (unhideR HB) k6)
            replace HW := hideR (below_go (unhideR HW) k6)
            clear hq2 k6 hnr c0 c1 c2 c3
            obtain ⟨⟨c0, c1, c2, c3⟩, f0, f1, f2, f3⟩ := mm_four (unhideR HB)
            have HB2 : HeldR (((((w6.setCell ⟨bb, 0, none⟩ (.int .i64 q2.p)).setCell ⟨bb, 1, none⟩ (.int .i64 q2.s)).setCell ⟨bb, 2, none⟩ (.int .i64 q2.t)).setCell ⟨bb, 3, none⟩ (.int .i64 q2.best)).heap[bb]? = some (.cells #[.int .i64 q2.p, .int .i64 q2.s, .int .i64 q2.t, .int .i64 q2.best] 61)) := set4 (unhideR HB)
            have HW2 : HeldR (Below w.heap.size w ((((w6.setCell ⟨bb, 0, none⟩ (.int .i64 q2.p)).setCell ⟨bb, 1, none⟩ (.int .i64 q2.s)).setCell ⟨bb, 2, none⟩ (.int .i64 q2.t)).setCell ⟨bb, 3, none⟩ (.int .i64 q2.best))) := below_four (unhideR HW) hwb _ _ _ _
            have HO2 : HeldR (OSl ((((w6.setCell ⟨bb, 0, none⟩ (.int .i64 q2.p)).setCell ⟨bb, 1, none⟩ (.int .i64 q2.s)).setCell ⟨bb, 2, none⟩ (.int .i64 q2.t)).setCell ⟨bb, 3, none⟩ (.int .i64 q2.best)) g' ad n (fun j => (nowN L (m + 1)).getD j bd0)) := by
              rcases unhideR HO with h1 | ⟨h1, h2⟩
              · exact .inl h1
              · refine .inr ⟨h1, h2.other (set4_other hgne) (by simp [World.setCell])⟩
            clear HB HW HO
            go_wp2
            exact ⟨⟨m + 1, q2, by omega, by go_num, HQ2, HB2, HR2, HG3, HO2, HW2⟩, by simp [intOf]; omega⟩
        · obtain rfl : m = N := by omega
          have hX : runN 1 m L = some (nowN L m) := by
            have := unhideR HRun
            rw [Nat.sub_self] at this
            exact this.symm
          by_cases h2 : n < 2
          · have HX := hideR (unhideR HFew _ hX h2)
            have g8 := ((unhideR HS).below (unhideR HW) (Nat.le_refl _)).g8
            clear hX HRun HO HG HOk HNo HFew HQ HB
            go_wp2
            go_quiet (fail)
            go_wp2
            simp [bodyPost, results, Tryd.results19, go_sem]
            exact ⟨unhideR HX, below_go (unhideR HW) (drawn_below _ _)⟩
          · have HX := hideR (unhideR HOk _ q hX h2 (unhideR HQ))
            obtain ⟨⟨c0, c1, c2, c3⟩, _⟩ := mm_four (unhideR HB)
            clear hX HRun HO HG HOk HNo HFew HQ HB
            go_wp2
            go_quiet (fail)
            go_wp2
            simp [bodyPost, results, Tryd.results19, go_sem]
            exact ⟨unhideR HX, below_go (unhideR HW) (drawn_below _ _)⟩
  · have hR : nearE L steps = errV L := by unfold nearE; rw [if_pos hE0]
    have HX : HeldR (∀ x, ErrIs a (errV L) x → NearP a L steps (.returned (.tuple #[.int .i64 0, .int .i64 0, .int .i64 0, .int .i64 0, x]))) := fun x hx => no_near hR hE0 hx
    have hv1 := hv w hS.errs h
    have HN0 := hideR hE0
    clear hR hE0 hv h hS
    go_enter Tryd.func19, Tryd.ntmps19
    go_wp2_with fail
    refine hv1.mono ?_
    rintro e w1 ⟨x, rfl, hx, k1⟩
    have HX2 := hideR (unhideR HX x hx)
    obtain ⟨k, rfl⟩ : ∃ k : Nat, x = .iface 105 (.pointer (some (a k))) := by
      rcases hx with ⟨h0, _⟩ | ⟨k, _, _, hx⟩
      · exact absurd h0 (unhideR HN0)
      · exact ⟨k, hx⟩
    have HW := hideR k1
    clear k1 hx hv1 HX
    go_wp2
    simp [bodyPost, results, Tryd.results19, go_sem]
    exact ⟨unhideR HX2, unhideR HW⟩
end Go.Proofs.YtdngkmobkbiflagDoor
