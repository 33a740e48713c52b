/-
  The law MoveBack: its walk, out of the program's Run by its contract.
-/
import Derived.Test.YtdngkmobkbiflagDoorMvLaw
namespace Go.Proofs.YtdngkmobkbiflagDoor
open Go Go.RowKit

theorem runE_zero {L : List Bd} {steps : Int} (h : runE L steps = 0) : Good L ∧ steps ≤ 2000 ∧ -2000 ≤ steps := by
  unfold runE at h
  split at h
  · exact absurd h (by assumption)
  · rename_i h1
    split at h
    · cases h
    · rename_i h2
      refine ⟨good_of (by omega), by omega, by omega⟩
theorem runE_of {L X : List Bd} {steps : Int} (hG : Good L) (h1 : steps ≤ 2000) (h2 : -2000 ≤ steps) (h : runN (sg steps) steps.natAbs L = some X) : runE L steps = 0 := by
  unfold runE
  rw [if_neg (by rw [hG.err]; decide), if_neg (by omega), h]
theorem run_back {L X : List Bd} {steps : Int} (h0 : runE L steps = 0) (h : runN (sg steps) steps.natAbs L = some X) : runE X (-steps) = 0 ∧ runN (sg (-steps)) (-steps).natAbs X = some L ∧ Good X ∧ X.length = L.length := by
  obtain ⟨hG, h1, h2⟩ := runE_zero h0
  obtain ⟨b1, b2, b3, b4, b5⟩ := runN_back (sg steps) steps.natAbs L X hG.a hG.s h
  have hX : Good X := ⟨by rw [b5]; exact hG.l, by rw [b4]; exact hG.m, b2, b3⟩
  have e : runN (sg (-steps)) (-steps).natAbs X = some L := by
    rw [Int.natAbs_neg]
    by_cases hz : steps = 0
    · subst hz
      exact b1
    · have es : sg (-steps) = -sg steps := by
        unfold sg
        by_cases hn : steps < 0
        · rw [if_pos hn, if_neg (by omega)]
          rfl
        · rw [if_neg hn, if_pos (by omega)]
      rw [es]
      exact b1
  exact ⟨runE_of hX (by omega) (by omega) e, e, hX, b5⟩
theorem run_more {L X Y : List Bd} {steps k : Int} (h0 : runE L steps = 0) (h : runN (sg steps) steps.natAbs L = some X) (hk : runN (sg k) k.natAbs X = some Y) (s0 : 0 ≤ steps) (k0 : 0 ≤ k) (hs : steps + k ≤ 2000) : runE L (steps + k) = 0 ∧ runN (sg (steps + k)) (steps + k).natAbs L = some Y := by
  obtain ⟨hG, h1, h2⟩ := runE_zero h0
  have e1 : ∀ t : Int, 0 ≤ t → sg t = 1 := fun t ht => by unfold sg; rw [if_neg (by omega)]
  have e : runN (sg (steps + k)) (steps + k).natAbs L = some Y := by
    rw [e1 _ (by omega)] at h hk ⊢
    rw [show (steps + k).natAbs = steps.natAbs + k.natAbs by omega, runN_add, h]
    exact hk
  exact ⟨runE_of hG (by omega) (by omega) e, e⟩
theorem RunP.cut {a : Nat → Addr} {w : World} {L : List Bd} {steps : Int} {u x : Value} (h : RunP a w L steps u x) : (x = .nilIface ∧ runE L steps = 0 ∧ ∃ X, runN (sg steps) steps.natAbs L = some X ∧ BSl w u X) ∨ (runE L steps ≠ 0 ∧ ∃ k : Nat, x = .iface 105 (.pointer (some (a k)))) := by
  obtain ⟨hE, hX⟩ := h
  rcases hE with ⟨e0, rfl⟩ | ⟨k, _, e0, rfl⟩
  · rcases hX with ⟨_, h⟩ | ⟨h, _⟩
    · exact .inl ⟨rfl, e0, h⟩
    · exact absurd e0 h
  · exact .inr ⟨by omega, k, rfl⟩
theorem short_steps {n : Nat} {steps : Int} (h : shortB n steps = true) (h1 : steps ≤ 2000) (h2 : -2000 ≤ steps) : steps ≤ 120 ∧ -120 ≤ steps := by
  unfold shortB at h
  simp only [Bool.and_eq_true, Bool.or_eq_true, decide_eq_true_eq] at h
  omega
set_option maxRecDepth 100000 in
set_option maxHeartbeats 3200000 in
theorem back_walk {a : Nat → Addr} (hR : RunOK a) {v : Value} {L : List Bd} (steps k : Int) (w : World) (hS : Errs w a) (h : BSl w v L) (hl : L.length ≤ 9223372036854775807) :
    Calls Tryd.prog 4 #[v, .int .i64 steps, .int .i64 k] w fun e w' => e = .returned (.bool true) ∧ Below w.heap.size w w' := by
  have HS := hideR hS
  have HB := hideR h
  have hmv := moves_any hR w hS
  have HR := hideR hR
  clear hS h hR
  go_enter Tryd.func4, Tryd.ntmps4
  go_wp2_with fail
  refine hmv.mono ?_
  rintro e w1 ⟨rfl, k1⟩
  have HW := hideR k1
  clear k1 hmv
  have hsh := short_any ((unhideR HB).below (unhideR HW)) hl steps
  cases hf : shortB L.length steps with
  | false =>
    rw [hf] at hsh
    go_wp2_with fail
    refine hsh.mono ?_
    rintro e w2 ⟨rfl, rfl⟩
    go_wp2
    go_ret
    exact ⟨rfl, unhideR HW⟩
  | true =>
    rw [hf] at hsh
    have h14 := short_len hf
    have HF := hideR hf
    by_cases hk : k < 0 ∨ 120 < k
    · go_wp2_with fail
      refine hsh.mono ?_
      rintro e w2 ⟨rfl, rfl⟩
      go_wp2
      all_goals
        go_ret
        exact ⟨rfl, unhideR HW⟩
    · have hk0 : 0 ≤ k := by omega
      have hk1 : k ≤ 120 := by omega
      go_wp2_with fail
      refine hsh.mono ?_
      rintro e w2 ⟨rfl, rfl⟩
      clear hsh hf hk
      have hb := bodies_any ((unhideR HB).below (unhideR HW)) h14
      go_wp2_with fail
      refine hb.mono ?_
      rintro e w3 ⟨u, rfl, hO, k3⟩
      replace HW := hideR (below_go (unhideR HW) k3)
      clear hb k3
      have hrun := unhideR HR u L steps w3 ((unhideR HS).below (unhideR HW)) hO.sl h14
      clear hO
      go_wp2_with fail
      refine hrun.mono ?_
      rintro e w4 ⟨x, x4, rfl, hP, k4⟩
      replace HW := hideR (below_go (unhideR HW) k4)
      clear hrun k4
      rcases hP.cut with ⟨rfl, e0, X, hX, hsl⟩ | ⟨_, kk, rfl⟩
      · obtain ⟨r1, r2, r3, r4⟩ := run_back e0 hX
        obtain ⟨_, s1, s2⟩ := runE_zero e0
        obtain ⟨t1, t2⟩ := short_steps (unhideR HF) s1 s2
        have HX := hideR hsl
        have HE0 := hideR e0
        have HXr := hideR hX
        have hXl : X.length ≤ 14 := by omega
        have hrun := unhideR HR x X (-steps) w4 ((unhideR HS).below (unhideR HW)) hsl hXl
        have HR1 := hideR r1
        have HR2 := hideR r2
        clear hP e0 hX hsl r1 r2 r3 r4 s1 s2
        go_wp2_with fail
        refine hrun.mono ?_
        rintro e w5 ⟨y, x5, rfl, hP, k5⟩
        replace HW := hideR (below_go (unhideR HW) k5)
        replace HX := hideR ((unhideR HX).below k5)
        clear hrun k5
        obtain ⟨rfl, hbl⟩ : x5 = .nilIface ∧ BSl w5 y L := by
          rcases hP.cut with ⟨rfl, _, Y, hY, hs⟩ | ⟨e1, _⟩
          · rw [unhideR HR2] at hY
            cases hY
            exact ⟨rfl, hs⟩
          · exact absurd (unhideR HR1) e1
        have hsm := same_any hbl ((unhideR HB).below (unhideR HW)) h14
        clear hP hbl HR1 HR2
        go_wp2_with fail
        refine hsm.mono ?_
        rintro e w6 ⟨rfl, k6⟩
        replace HW := hideR (below_go (unhideR HW) k6)
        replace HX := hideR ((unhideR HX).below k6)
        clear hsm k6
        have hrun := unhideR HR x X k w6 ((unhideR HS).below (unhideR HW)) (unhideR HX) hXl
        go_wp2_with fail
        refine hrun.mono ?_
        rintro e w7 ⟨y7, x7, rfl, hP, k7⟩
        replace HW := hideR (below_go (unhideR HW) k7)
        clear hrun k7 HX
        rcases hP.cut with ⟨rfl, e1, Y, hY, hsl⟩ | ⟨_, kk, rfl⟩
        · by_cases hneg : steps < 0
          · clear hP
            go_wp2
            go_ret
            exact ⟨rfl, unhideR HW⟩
          · have hn0 : 0 ≤ steps := by omega
            obtain ⟨q1, q2⟩ := run_more (unhideR HE0) (unhideR HXr) hY hn0 hk0 (by omega)
            have HY := hideR hsl
            have HQ1 := hideR q1
            have HQ2 := hideR q2
            have hYl : Y.length ≤ 14 := by
              have := (run_back e1 hY).2.2.2
              omega
            clear hP e1 hY hsl q1 q2 hneg
            have hb := bodies_any ((unhideR HB).below (unhideR HW)) h14
            go_wp2_with fail
            refine hb.mono ?_
            rintro e w8 ⟨u8, rfl, hO, k8⟩
            replace HW := hideR (below_go (unhideR HW) k8)
            replace HY := hideR ((unhideR HY).below k8)
            clear hb k8
            have hrun := unhideR HR u8 L (steps + k) w8 ((unhideR HS).below (unhideR HW)) hO.sl h14
            clear hO
            go_wp2_with fail
            refine hrun.mono ?_
            rintro e w9 ⟨z, x9, rfl, hP, k9⟩
            replace HW := hideR (below_go (unhideR HW) k9)
            replace HY := hideR ((unhideR HY).below k9)
            clear hrun k9
            obtain ⟨rfl, hz⟩ : x9 = .nilIface ∧ BSl w9 z Y := by
              rcases hP.cut with ⟨rfl, _, Z, hZ, hs⟩ | ⟨e2, _⟩
              · rw [unhideR HQ2] at hZ
                cases hZ
                exact ⟨rfl, hs⟩
              · exact absurd (unhideR HQ1) e2
            obtain ⟨ad, cap, rfl, hc⟩ := (unhideR HY).cut
            obtain ⟨ad2, cap2, rfl, hc2⟩ := hz.cut
            have HC := hideR hc
            have HC2 := hideR hc2
            clear hc hc2 hz HY hP HQ1 HQ2 HE0 HXr HB HS HR
            go_wp2
            go_loopw [15] (fun kv wl => ∃ j : Nat, j ≤ Y.length ∧ kv = .int .i64 (j : Nat) ∧ ∃ n, wl = w9.drewN n) (fun kv _ => Y.length + 1 - (intOf kv).toNat)
            case atStart => exact ⟨0, by omega, rfl, 0, rfl⟩
            case round =>
              obtain ⟨j, hj, rfl, n, rfl⟩ := hrel
              by_cases hlt : j < Y.length
              · obtain ⟨b, off, rfl, hb, c0, c1, c2, c3, c4, c5, c6⟩ := (unhideR HC).at_ j hlt
                obtain ⟨b2, off2, rfl, hb2, d0, d1, d2, d3, d4, d5, d6⟩ := (unhideR HC2).at_ j hlt
                generalize Y.getD j bd0 = s at *
                go_wp2
                go_quiet (fail)
                go_wp2
                exact ⟨⟨j + 1, by omega, by go_num, _, rfl⟩, by simp [intOf]; omega⟩
              · obtain rfl : j = Y.length := by omega
                go_wp2
                go_ret
                exact ⟨rfl, below_drewN (unhideR HW) _⟩
        · clear hP
          go_wp2
          go_ret
          exact ⟨rfl, unhideR HW⟩
      · clear hP
        go_wp2
        go_ret
        exact ⟨rfl, unhideR HW⟩
end Go.Proofs.YtdngkmobkbiflagDoor
