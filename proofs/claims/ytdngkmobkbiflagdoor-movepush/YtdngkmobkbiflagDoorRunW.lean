/-
  So many steps: the document's, by contract.
-/
import Derived.Test.YtdngkmobkbiflagDoorStepW
namespace Go.Proofs.YtdngkmobkbiflagDoor
open Go Go.RowKit

/-- a slice of bodies: none, or some. -/
def NSl (w : World) (v : Value) (L : List Bd) : Prop := (v = .slice none 0 0 ∧ L = []) ∨ ∃ a0 cap, v = .slice (some a0) L.length cap ∧ BCame w (some a0) L ∧ L ≠ []
structure Good (L : List Bd) : Prop where
  l : L.length ≤ 12
  m : mss L = true
  a : ats L = true
  s : sps L = true
theorem good_of {L : List Bd} (h : errV L = 0) : Good L := by
  unfold errV at h
  split at h
  · cases h
  · split at h
    · cases h
    · split at h
      · cases h
      · rename_i h1 h2 h3
        have h4 : (ats L && sps L) = true := by
          cases e : (ats L && sps L) with
          | true => rfl
          | false => exact absurd e h3
        rw [Bool.and_eq_true] at h4
        refine ⟨by omega, ?_, h4.1, h4.2⟩
        cases e : mss L with
        | true => rfl
        | false => exact absurd e h2
theorem Good.err {L : List Bd} (h : Good L) : errV L = 0 := by
  unfold errV
  have := h.l
  rw [if_neg (by omega), h.m, h.a, h.s]
  rfl
theorem Good.step {L X : List Bd} {s : Int} (h : Good L) (k : stepR s L = some X) : Good X := by
  obtain ⟨a1, a2, rfl⟩ := stepR_some k
  exact ⟨by rw [stepV_length]; exact h.l, by rw [mss_step]; exact h.m, ats_step a1, a2⟩
theorem BOwn.nsl {w : World} {B : Nat} {v : Value} {L : List Bd} (h : BOwn w B v L) (hn : L ≠ []) : NSl w v L := by
  rcases h with ⟨_, h⟩ | ⟨g, cap, rfl, _, h⟩
  · exact absurd h hn
  · exact .inr ⟨_, cap, rfl, ⟨fun k hk => ⟨g, 0, rfl, h.lt, by rw [Nat.zero_add]; exact h.at_ k hk⟩⟩, hn⟩
theorem NSl.below {w u : World} {v : Value} {L : List Bd} (h : NSl w v L) (k : Below w.heap.size w u) : NSl u v L := by
  rcases h with h | ⟨a0, cap, h1, h2, h3⟩
  · exact .inl h
  · exact .inr ⟨a0, cap, h1, h2.below k, h3⟩
theorem BOwn.weak {w : World} {B B' : Nat} {v : Value} {L : List Bd} (h : BOwn w B v L) (k : B' ≤ B) : BOwn w B' v L := by
  rcases h with h | ⟨g, cap, h1, h2, h3⟩
  · exact .inl h
  · exact .inr ⟨g, cap, h1, by omega, h3⟩
/-- what a step hands back. -/
def StepN (w : World) (B : Nat) (s : Int) (L : List Bd) (v : Value) (ok : Bool) : Prop := (ok = true ∧ ∃ X, stepR s L = some X ∧ BOwn w B v X ∧ NSl w v X) ∨ (ok = false ∧ stepR s L = none ∧ v = .slice none 0 0)
theorem stepOf_any {v : Value} {L : List Bd} {s : Int} {w : World} (h : NSl w v L) (hG : Good L) (hs : s = 1 ∨ s = -1) :
    Calls Tryd.prog 22 #[v, .int .i64 s] w fun e w' => ∃ u ok, e = .returned (.tuple #[u, .bool ok]) ∧ StepN w' w.heap.size s L u ok ∧ Below w.heap.size w w' := by
  rcases h with ⟨rfl, rfl⟩ | ⟨a0, cap, rfl, h, hn⟩
  · refine (stepOf_nil s w).mono ?_
    rintro e w' ⟨rfl, rfl⟩
    exact ⟨_, _, rfl, .inl ⟨rfl, [], rfl, .inl ⟨rfl, rfl⟩, .inl ⟨rfl, rfl⟩⟩, Below.refl _ _⟩
  · refine (stepOf_row a0 cap L s w h hG.l hG.m hG.a hG.s hs hn).mono ?_
    rintro e w' ⟨u, ok, rfl, hst, hb⟩
    refine ⟨u, ok, rfl, ?_, hb⟩
    rcases hst with ⟨e1, X, hX, hO⟩ | hst
    · refine .inl ⟨e1, X, hX, hO, hO.nsl ?_⟩
      obtain ⟨_, _, rfl⟩ := stepR_some hX
      intro e2
      have e3 := stepV_length s L
      rw [e2] at e3
      exact hn (List.length_eq_zero_iff.1 e3.symm)
    · exact .inr hst
def sg (steps : Int) : Int := if steps < 0 then -1 else 1
def runE (L : List Bd) (steps : Int) : Int := if errV L ≠ 0 then errV L else if 2000 < steps ∨ steps < -2000 then 2 else match runN (sg steps) steps.natAbs L with | some _ => 0 | none => 6
/-- what so many steps hand back. -/
def RunIs (w : World) (B : Nat) (L : List Bd) (steps : Int) (v : Value) (E : Int) : Prop := E = runE L steps ∧ ((E = 0 ∧ ∃ X, runN (sg steps) steps.natAbs L = some X ∧ BOwn w B v X) ∨ (E ≠ 0 ∧ v = .slice none 0 0))
theorem errV_range (L : List Bd) : errV L = 0 ∨ 0 < errV L ∧ errV L ≤ 6 := by
  unfold errV
  split
  · exact .inr (by decide)
  · split
    · exact .inr (by decide)
    · split
      · exact .inr (by decide)
      · exact .inl rfl
set_option maxRecDepth 100000 in
set_option maxHeartbeats 1600000 in
theorem runOf_any {v : Value} {L : List Bd} {w : World} (h : BSl w v L) (hl : L.length ≤ 9223372036854775807) (steps : Int) :
    Calls Tryd.prog 11 #[v, .int .i64 steps] w fun e w' => ∃ u E, e = .returned (.tuple #[u, .int .i64 E]) ∧ RunIs w' w.heap.size L steps u E ∧ Below w.heap.size w w' := by
  have hbe := bodiesErr_any h hl
  rcases errV_range L with h0 | ⟨h1, h2⟩
  · have hG := good_of h0
    rw [h0] at hbe
    by_cases hst : 2000 < steps ∨ steps < -2000
    · have hR : ∀ u, RunIs u w.heap.size L steps (.slice none 0 0) 2 := fun u => ⟨by unfold runE; rw [if_neg (by rw [h0]; decide), if_pos hst], .inr ⟨by decide, rfl⟩⟩
      have HR := hideR hR
      clear hR hG h0 h
      go_enter Tryd.func11, Tryd.ntmps11
      go_wp2_with fail
      refine hbe.mono ?_
      rintro e w1 ⟨rfl, k⟩
      have HW := hideR k
      clear k hbe
      go_wp2
      all_goals
        go_ret2
        exact ⟨_, _, rfl, unhideR HR _, unhideR HW⟩
    · obtain ⟨i0, hi, hz0, hz1, hz2⟩ := info_parts infoRB
      have hsg : sg steps = 1 ∨ sg steps = -1 := by unfold sg; split <;> simp
      have hE : runE L steps = match runN (sg steps) steps.natAbs L with | some _ => 0 | none => 6 := by
        unfold runE
        rw [if_neg (by rw [h0]; decide), if_neg hst]
      have hN : steps = sg steps * (steps.natAbs : Int) := by unfold sg; split <;> omega
      have HOk : HeldR (∀ u v X, runN (sg steps) steps.natAbs L = some X → BOwn u w.heap.size v X → RunIs u w.heap.size L steps v 0) := fun u v X h1 h2 => ⟨by rw [hE, h1], .inl ⟨rfl, X, h1, h2⟩⟩
      have HNo : HeldR (∀ u, runN (sg steps) steps.natAbs L = none → RunIs u w.heap.size L steps (.slice none 0 0) 6) := fun u h1 => ⟨by rw [hE, h1], .inr ⟨by decide, rfl⟩⟩
      have HSl := hideR h
      have hl12 := hG.l
      have HG := hideR hG
      clear hE h0 hG h
      have hNs : steps.natAbs ≤ 2000 := by omega
      generalize sg steps = S at *
      generalize steps.natAbs = N at *
      have HSG := hideR hsg
      have HN0 := hideR hN
      have hst1 : steps ≤ 2000 := by omega
      have hst2 : -2000 ≤ steps := by omega
      clear hsg hN hst
      cases unhideR HSl with
      | nil =>
        clear HSl
        go_enter Tryd.func11, Tryd.ntmps11
        go_wp2_with fail
        refine hbe.mono ?_
        rintro e w1 ⟨rfl, k⟩
        have HW := hideR k
        have HNS : HeldR (NSl w1 (.slice none 0 0) []) := .inl ⟨rfl, rfl⟩
        have HOw : HeldR (BOwn w1 w.heap.size (.slice none 0 0) []) := .inl ⟨rfl, rfl⟩
        clear k hbe
        go_wp2
        go_loopw [1, 7, 8] (fun sv uv okv wl => ∃ (m : Nat) (t : Int) (X : List Bd), sv = .int .i64 t ∧ okv = .bool true ∧ t = S * (m : Int) ∧ m ≤ 2000 ∧ HeldR (runN S m X = runN S N ([] : List Bd)) ∧ HeldR (Good X) ∧ HeldR (NSl wl uv X) ∧ HeldR (BOwn wl w.heap.size uv X) ∧ HeldR (Below w.heap.size w wl)) (fun sv _ _ _ => (intOf sv).natAbs)
        case atStart => exact ⟨N, steps, ([] : List Bd), rfl, rfl, unhideR HN0, by omega, rfl, HG, HNS, HOw, HW⟩
        case round =>
          clear HNS HOw HW HG
          obtain ⟨m, t, X, rfl, rfl, ht, hm2, HRun, HG, HN, HO, HW⟩ := hrel
          cases m with
          | zero =>
            obtain rfl : t = 0 := by rw [ht]; simp
            have HE := hideR (unhideR HOk wr _ X (unhideR HRun).symm (unhideR HO))
            clear HRun HG HN HO ht
            go_wp2
            go_ret2
            exact ⟨_, _, rfl, unhideR HE, unhideR HW⟩
          | succ m =>
            have hstep := stepOf_any (s := S) (unhideR HN) (unhideR HG) (unhideR HSG)
            rcases unhideR HSG with hS | hS
            · skip
              have hst2 := hstep
              rw [hS] at hst2
              have h1 : t = ((m : Int) + 1) := by rw [ht, hS]; omega
              have HE2 : HeldR ((m : Int) = S * (m : Int)) := by unfold HeldR; rw [hS]; omega
              subst h1
              clear ht
              go_wp2_with fail
              refine hst2.mono ?_
              rintro e w9 ⟨u, ok, rfl, hst, hb⟩
              have HW2 := hideR (below_go (unhideR HW) hb)
              have hwr := (unhideR HW).size
              clear hb hst2 hstep
              have e3 : runN S (m + 1) X = (stepR S X).bind (runN S m) := rfl
              have e4 := unhideR HRun
              rw [e3, hS] at e4
              rcases hst with ⟨rfl, X', hX, hO', hN'⟩ | ⟨rfl, hX, rfl⟩
              · have HR2 : HeldR (runN S m X' = runN S N ([] : List Bd)) := by
                  rw [hX] at e4
                  rw [hS]
                  exact e4
                have HG2 := hideR ((unhideR HG).step hX)
                have HO2 := hideR (hO'.weak hwr)
                have HN2 := hideR hN'
                clear hX hO' hN' HRun HG HN HO HW hS e3 e4
                go_wp2
                exact ⟨⟨m, (m : Int), X', by go_num, rfl, unhideR HE2, by omega, HR2, HG2, HN2, HO2, HW2⟩, by simp [intOf]; omega⟩
              · have hnone : runN S N ([] : List Bd) = none := by
                  rw [hX] at e4
                  rw [hS]
                  exact e4.symm
                have HE := hideR (unhideR HNo w9 hnone)
                clear hX hnone HRun HG HN HO HW hS e3 e4
                go_wp2
                go_ret2
                exact ⟨_, _, rfl, unhideR HE, unhideR HW2⟩
            · skip
              have hst2 := hstep
              rw [hS] at hst2
              have h1 : t = (-((m : Int) + 1)) := by rw [ht, hS]; omega
              have HE2 : HeldR ((-(m : Int)) = S * (m : Int)) := by unfold HeldR; rw [hS]; omega
              subst h1
              clear ht
              go_wp2_with fail
              refine hst2.mono ?_
              rintro e w9 ⟨u, ok, rfl, hst, hb⟩
              have HW2 := hideR (below_go (unhideR HW) hb)
              have hwr := (unhideR HW).size
              clear hb hst2 hstep
              have e3 : runN S (m + 1) X = (stepR S X).bind (runN S m) := rfl
              have e4 := unhideR HRun
              rw [e3, hS] at e4
              rcases hst with ⟨rfl, X', hX, hO', hN'⟩ | ⟨rfl, hX, rfl⟩
              · have HR2 : HeldR (runN S m X' = runN S N ([] : List Bd)) := by
                  rw [hX] at e4
                  rw [hS]
                  exact e4
                have HG2 := hideR ((unhideR HG).step hX)
                have HO2 := hideR (hO'.weak hwr)
                have HN2 := hideR hN'
                clear hX hO' hN' HRun HG HN HO HW hS e3 e4
                go_wp2
                exact ⟨⟨m, (-(m : Int)), X', by go_num, rfl, unhideR HE2, by omega, HR2, HG2, HN2, HO2, HW2⟩, by simp [intOf]; omega⟩
              · have hnone : runN S N ([] : List Bd) = none := by
                  rw [hX] at e4
                  rw [hS]
                  exact e4.symm
                have HE := hideR (unhideR HNo w9 hnone)
                clear hX hnone HRun HG HN HO HW hS e3 e4
                go_wp2
                go_ret2
                exact ⟨_, _, rfl, unhideR HE, unhideR HW2⟩
      | @row a0 cap L hc =>
        have HC := hideR hc
        clear HSl hc
        go_enter Tryd.func11, Tryd.ntmps11
        go_wp2_with fail
        refine hbe.mono ?_
        rintro e w1 ⟨rfl, k⟩
        have HW1 := hideR k
        have hw1 := k.size
        clear k hbe
        go_wp2_with (first
          | (at_builtin; refine wpList_append_own _ rfl _ _ 22 rfl w.heap.size 44 i0 bz 7 56 Tryd.underlying22 hi hz0 hz1 hz2 rfl (by decide) _ _ _ rfl (World.ownsRow_nil _ _ _ _) a0 L.length cap (flatB L) rfl (flatB_length L) ?p1 ?p2 ?p3 ?p4 ?p5 ?_))
        case p1 => exact came_cells ((unhideR HC).below (unhideR HW1))
        case p2 => exact flatB_one L
        case p3 => unfold maxLen; omega
        case p4 => omega
        case p5 => omega
        intro v' w2 hown hgrow hiff
        have HW := hideR ((unhideR HW1).grown hgrow hw1 (fun g h => by cases h))
        have hO : w2.ownsRow w.heap.size 44 7 v' L.length (flatB L) := by simpa using hown
        have hOw := own_rowB hO
        have HNS : HeldR (NSl w2 v' L) := by
          by_cases hn : L = []
          · exact .inl ⟨hiff.2 hn, hn⟩
          · exact hOw.nsl hn
        have HOw := hideR hOw
        clear hown hgrow hiff hO hOw HC HW1
        go_wp2
        go_loopw [1, 7, 8] (fun sv uv okv wl => ∃ (m : Nat) (t : Int) (X : List Bd), sv = .int .i64 t ∧ okv = .bool true ∧ t = S * (m : Int) ∧ m ≤ 2000 ∧ HeldR (runN S m X = runN S N L) ∧ HeldR (Good X) ∧ HeldR (NSl wl uv X) ∧ HeldR (BOwn wl w.heap.size uv X) ∧ HeldR (Below w.heap.size w wl)) (fun sv _ _ _ => (intOf sv).natAbs)
        case atStart => exact ⟨N, steps, L, rfl, rfl, unhideR HN0, by omega, rfl, HG, HNS, HOw, HW⟩
        case round =>
          clear HNS HOw HW HG
          obtain ⟨m, t, X, rfl, rfl, ht, hm2, HRun, HG, HN, HO, HW⟩ := hrel
          cases m with
          | zero =>
            obtain rfl : t = 0 := by rw [ht]; simp
            have HE := hideR (unhideR HOk wr _ X (unhideR HRun).symm (unhideR HO))
            clear HRun HG HN HO ht
            go_wp2
            go_ret2
            exact ⟨_, _, rfl, unhideR HE, unhideR HW⟩
          | succ m =>
            have hstep := stepOf_any (s := S) (unhideR HN) (unhideR HG) (unhideR HSG)
            rcases unhideR HSG with hS | hS
            · skip
              have hst2 := hstep
              rw [hS] at hst2
              have h1 : t = ((m : Int) + 1) := by rw [ht, hS]; omega
              have HE2 : HeldR ((m : Int) = S * (m : Int)) := by unfold HeldR; rw [hS]; omega
              subst h1
              clear ht
              go_wp2_with fail
              refine hst2.mono ?_
              rintro e w9 ⟨u, ok, rfl, hst, hb⟩
              have HW2 := hideR (below_go (unhideR HW) hb)
              have hwr := (unhideR HW).size
              clear hb hst2 hstep
              have e3 : runN S (m + 1) X = (stepR S X).bind (runN S m) := rfl
              have e4 := unhideR HRun
              rw [e3, hS] at e4
              rcases hst with ⟨rfl, X', hX, hO', hN'⟩ | ⟨rfl, hX, rfl⟩
              · have HR2 : HeldR (runN S m X' = runN S N L) := by
                  rw [hX] at e4
                  rw [hS]
                  exact e4
                have HG2 := hideR ((unhideR HG).step hX)
                have HO2 := hideR (hO'.weak hwr)
                have HN2 := hideR hN'
                clear hX hO' hN' HRun HG HN HO HW hS e3 e4
                go_wp2
                exact ⟨⟨m, (m : Int), X', by go_num, rfl, unhideR HE2, by omega, HR2, HG2, HN2, HO2, HW2⟩, by simp [intOf]; omega⟩
              · have hnone : runN S N L = none := by
                  rw [hX] at e4
                  rw [hS]
                  exact e4.symm
                have HE := hideR (unhideR HNo w9 hnone)
                clear hX hnone HRun HG HN HO HW hS e3 e4
                go_wp2
                go_ret2
                exact ⟨_, _, rfl, unhideR HE, unhideR HW2⟩
            · skip
              have hst2 := hstep
              rw [hS] at hst2
              have h1 : t = (-((m : Int) + 1)) := by rw [ht, hS]; omega
              have HE2 : HeldR ((-(m : Int)) = S * (m : Int)) := by unfold HeldR; rw [hS]; omega
              subst h1
              clear ht
              go_wp2_with fail
              refine hst2.mono ?_
              rintro e w9 ⟨u, ok, rfl, hst, hb⟩
              have HW2 := hideR (below_go (unhideR HW) hb)
              have hwr := (unhideR HW).size
              clear hb hst2 hstep
              have e3 : runN S (m + 1) X = (stepR S X).bind (runN S m) := rfl
              have e4 := unhideR HRun
              rw [e3, hS] at e4
              rcases hst with ⟨rfl, X', hX, hO', hN'⟩ | ⟨rfl, hX, rfl⟩
              · have HR2 : HeldR (runN S m X' = runN S N L) := by
                  rw [hX] at e4
                  rw [hS]
                  exact e4
                have HG2 := hideR ((unhideR HG).step hX)
                have HO2 := hideR (hO'.weak hwr)
                have HN2 := hideR hN'
                clear hX hO' hN' HRun HG HN HO HW hS e3 e4
                go_wp2
                exact ⟨⟨m, (-(m : Int)), X', by go_num, rfl, unhideR HE2, by omega, HR2, HG2, HN2, HO2, HW2⟩, by simp [intOf]; omega⟩
              · have hnone : runN S N L = none := by
                  rw [hX] at e4
                  rw [hS]
                  exact e4.symm
                have HE := hideR (unhideR HNo w9 hnone)
                clear hX hnone HRun HG HN HO HW hS e3 e4
                go_wp2
                go_ret2
                exact ⟨_, _, rfl, unhideR HE, unhideR HW2⟩
  · have hR : ∀ u, RunIs u w.heap.size L steps (.slice none 0 0) (errV L) := fun u => ⟨by unfold runE; rw [if_pos (by omega)], .inr ⟨by omega, rfl⟩⟩
    have HR := hideR hR
    clear hR h
    generalize errV L = E at *
    go_enter Tryd.func11, Tryd.ntmps11
    go_wp2_with fail
    refine hbe.mono ?_
    rintro e w1 ⟨rfl, k⟩
    have HW := hideR k
    clear k hbe
    go_wp2
    go_ret2
    exact ⟨_, _, rfl, unhideR HR _, unhideR HW⟩
end Go.Proofs.YtdngkmobkbiflagDoor
