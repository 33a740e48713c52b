/-
  Which lists of spans are right, by the program, by contract.
-/
import Derived.Test.YtoacdaemhcbbhaaDoorEvSpP
import Derived.Test.YtoacdaemhcbbhaaDoorDE0
namespace Go.Proofs.YtoacdaemhcbbhaaDoor
open Go Go.RowKit

theorem spE_nil (A : List Spn) : spE A [] = if 4000 < A.length then 2 else if rightV A = false then 5 else 0 := by
  unfold spE
  have r0 : rightV [] = true := decide_eq_true (fun i hi => absurd hi (Nat.not_lt_zero i))
  have l0 : ¬ 4000 < ([] : List Spn).length := by simp
  by_cases q : 4000 < A.length
  · rw [if_pos (.inl q), if_pos q]
  · rw [if_neg (fun k => k.elim q l0), if_neg q]
    by_cases q2 : rightV A = false
    · rw [if_pos (.inl q2), if_pos q2]
    · rw [if_neg (fun k => k.elim q2 (by rw [r0]; exact Bool.noConfusion)), if_neg q2]
set_option maxRecDepth 100000 in
set_option maxHeartbeats 3200000 in
theorem rises_any (ad : Option Addr) (c : Nat) (A : List Spn) (w : World) (hr : SpCame w ad A) (hl : A.length * 16 ≤ 140737488355328) :
    Calls Tryd.prog 81 #[.slice ad A.length c] w fun e w' => e = .returned (.bool (rightV A)) ∧ Below w.heap.size w w' := by
  have HBad0 : HeldR (∀ k, k < A.length → ¬ Spn.Ok A k → rightV A = false) := fun k hk q => decide_eq_false (fun g => q (g k hk))
  have HGood : HeldR ((∀ j, j < A.length → Spn.Ok A j) → rightV A = true) := fun q => decide_eq_true q
  generalize rightV A = R at *
  have HR := hideR hr
  clear hr
  go_enter Tryd.func81, Tryd.ntmps81
  go_wp2
  go_loopw [8] (fun kv wl => ∃ k : Nat, k ≤ A.length ∧ kv = .int .i64 (k : Nat) ∧ HeldR (∀ j, j < k → Spn.Ok A j) ∧ HeldR (Below w.heap.size w wl)) (fun kv _ => A.length + 1 - (intOf kv).toNat)
  case atStart => exact ⟨0, by omega, rfl, hideR (fun j hj => absurd hj (Nat.not_lt_zero j)), hideR (Below.refl _ _)⟩
  case round =>
    obtain ⟨k, hk, rfl, HM, HK⟩ := hrel
    by_cases hlt : k < A.length
    · obtain ⟨b, off, rfl, hb, hat⟩ := ((unhideR HR).below (unhideR HK)).at_ k hlt
      have HBad := hideR (unhideR HBad0 k hlt)
      by_cases hk0 : k = 0
      · have HS : HeldR (Spn.Ok A k ↔ ((A.getD k sp0).f < (A.getD k sp0).t ∧ -1152921504606846976 ≤ (A.getD k sp0).f ∧ (A.getD k sp0).t ≤ 1152921504606846976 ∧ True)) := by
          unfold HeldR Spn.Ok
          constructor
          · exact fun q => ⟨q.1, q.2.1, q.2.2.1, trivial⟩
          · exact fun q => ⟨q.1, q.2.1, q.2.2.1, fun z => by omega⟩
        have HTo : HeldR True := trivial
        generalize A.getD k sp0 = s at *
        have tk : decide (0 < k) = false := decide_eq_false (by omega)
        have tk' : decide (0 < (k : Int)) = false := decide_eq_false (by omega)
        clear hk0
        obtain ⟨c0, c1'⟩ := hat
        have HE := hideR (alloc_last wr (.cells #[.int .i64 s.f, .int .i64 s.t] 69))
        have hG := hideR (below_a wr (.cells #[.int .i64 s.f, .int .i64 s.t] 69))
        go_wp2_with fail
        generalize wr.alloc (.cells #[.int .i64 s.f, .int .i64 s.t] 69) = W8 at *
        replace HK := hideR (below_go (unhideR HK) (unhideR hG))
        have d0 := (cells_at (unhideR HE) 0 (by simp)).1
        have d1 := (cells_at (unhideR HE) 1 (by simp)).1
        clear hG
        generalize wr.heap.size = G at *
        refine wp_region_lets [(· = .int .i64 (k : Nat)),
          (· = .bool false),
          (· = .bool false),
          (· = undef),
          (· = undef),
          (· = undef),
          (· = undef),
          (· = undef),
          (· = undef),
          (· = undef),
          (· = undef),
          (· = undef),
          (· = .bool false),
          (· = .bool false)] (by kernel_rfl) (by kernel_rfl) ?_
        refine lexL_step (fun K hK => ⟨by kernel_rfl, ⟨_, rfl⟩, fun n => ?_, fun v hv => ?_⟩)
        · go_simp
          exact lUpon_one
        subst hv
        go_simp
        refine hK _ ?_
        clear hK K
        refine lexL_step (fun K hK => ⟨by kernel_rfl, ⟨_, rfl⟩, fun n => ?_, fun v hv => ?_⟩)
        · go_simp
          exact lUpon_one
        subst hv
        go_simp
        refine hK _ ?_
        clear hK K
        refine lexL_step (fun K hK => ⟨by kernel_rfl, ⟨_, rfl⟩, fun n => ?_, fun v hv => ?_⟩)
        · go_simp
          exact lUpon_one
        subst hv
        go_simp
        refine hK _ ?_
        clear hK K
        refine lexL_skip (fun K hK => ⟨by kernel_rfl, ?_⟩)
        go_simp
        refine hK _ ?_
        clear hK K
        refine lexL_skip (fun K hK => ⟨by kernel_rfl, ?_⟩)
        go_simp
        refine hK _ ?_
        clear hK K
        refine lexL_skip (fun K hK => ⟨by kernel_rfl, ?_⟩)
        go_simp
        refine hK _ ?_
        clear hK K
        refine lexL_skip (fun K hK => ⟨by kernel_rfl, ?_⟩)
        go_simp
        refine hK _ ?_
        clear hK K
        refine lexL_skip (fun K hK => ⟨by kernel_rfl, ?_⟩)
        go_simp
        refine hK _ ?_
        clear hK K
        refine lexL_skip (fun K hK => ⟨by kernel_rfl, ?_⟩)
        go_simp
        refine hK _ ?_
        clear hK K
        refine lexL_skip (fun K hK => ⟨by kernel_rfl, ?_⟩)
        go_simp
        refine hK _ ?_
        clear hK K
        refine lexL_skip (fun K hK => ⟨by kernel_rfl, ?_⟩)
        go_simp
        refine hK _ ?_
        clear hK K
        refine lexL_skip (fun K hK => ⟨by kernel_rfl, ?_⟩)
        go_simp
        refine hK _ ?_
        clear hK K
        refine lexL_step (fun K hK => ⟨by kernel_rfl, ⟨_, rfl⟩, fun n => ?_, fun v hv => ?_⟩)
        · go_simp
          exact lUpon_one
        subst hv
        go_simp
        refine hK _ ?_
        clear hK K
        refine lexL_step (fun K hK => ⟨by kernel_rfl, ⟨_, rfl⟩, fun n => ?_, fun v hv => ?_⟩)
        · go_simp
          exact lUpon_one
        subst hv
        go_simp
        refine hK _ ?_
        clear hK K
        refine lexL_end ?_
        intro n9
        have hbW := drawn_below W8 n9
        replace HK := hideR (below_go (unhideR HK) hbW)
        replace HE := hideR (keepB (unhideR HE) hbW)
        clear c0 c1' d0 d1
        generalize W8.drewN n9 = W9 at *
        clear hbW
        have e0 := (cells_at (unhideR HE) 0 (by simp)).1
        have e1 := (cells_at (unhideR HE) 1 (by simp)).1
        by_cases q1 : s.t ≤ s.f
        · have x1 : decide (s.t ≤ s.f) = true := decide_eq_true q1
          have HX := hideR (unhideR HBad (fun q => by unfold Spn.Ok at q; have := (unhideR HS).1 q; omega))
          go_wp2
          all_goals
            go_ret
            exact ⟨congrArg (fun x => Ending.returned (.bool x)) (unhideR HX).symm, unhideR HK⟩
        · have x1 : decide (s.t ≤ s.f) = false := decide_eq_false q1
          have hw1 := fun u => within_any s.f 1152921504606846976 u (by decide) (by decide)
          have hw2 := fun u => within_any s.t 1152921504606846976 u (by decide) (by decide)
          by_cases q3 : -1152921504606846976 ≤ s.f ∧ s.f ≤ 1152921504606846976
          · rw [decide_eq_true q3.1, decide_eq_true q3.2] at hw1
            go_wp2_with fail
            refine (hw1 _).mono ?_
            rintro e w10 ⟨rfl, rfl⟩
            by_cases q4 : -1152921504606846976 ≤ s.t ∧ s.t ≤ 1152921504606846976
            · rw [decide_eq_true q4.1, decide_eq_true q4.2] at hw2
              go_wp2_with fail
              refine (hw2 _).mono ?_
              rintro e w11 ⟨rfl, rfl⟩
              have HM2 : HeldR (∀ j, j < k + 1 → Spn.Ok A j) := fun j hj => by
                rcases (show j < k ∨ j = k by omega) with q | rfl
                · exact unhideR HM j q
                · exact (unhideR HS).2 ⟨by omega, by omega, by omega, unhideR HTo⟩
              clear hw1 hw2 e0 e1 HM HS HBad
              go_wp2
              exact ⟨⟨k + 1, by omega, by go_num, HM2, HK⟩, by simp [intOf]; omega⟩
            · have hz : (decide (-1152921504606846976 ≤ s.t) && decide (s.t ≤ 1152921504606846976)) = false := by
                rw [Bool.and_eq_false_iff, decide_eq_false_iff_not, decide_eq_false_iff_not]
                omega
              rw [hz] at hw2
              have HX := hideR (unhideR HBad (fun q => by have := (unhideR HS).1 q; omega))
              go_wp2_with fail
              refine (hw2 _).mono ?_
              rintro e w11 ⟨rfl, rfl⟩
              clear hw1 hw2
              go_wp2
              all_goals
                go_ret
                exact ⟨congrArg (fun x => Ending.returned (.bool x)) (unhideR HX).symm, unhideR HK⟩
          · have hz : (decide (-1152921504606846976 ≤ s.f) && decide (s.f ≤ 1152921504606846976)) = false := by
              rw [Bool.and_eq_false_iff, decide_eq_false_iff_not, decide_eq_false_iff_not]
              omega
            rw [hz] at hw1
            have HX := hideR (unhideR HBad (fun q => by have := (unhideR HS).1 q; omega))
            go_wp2_with fail
            refine (hw1 _).mono ?_
            rintro e w10 ⟨rfl, rfl⟩
            clear hw1 hw2
            go_wp2
            all_goals
              go_ret
              exact ⟨congrArg (fun x => Ending.returned (.bool x)) (unhideR HX).symm, unhideR HK⟩
      · obtain ⟨m, hm⟩ : ∃ m, k = m + 1 := ⟨k - 1, by omega⟩
        obtain ⟨b', off', e', hb', hat'⟩ := ((unhideR HR).below (unhideR HK)).at_ m (by omega)
        cases e'
        have HS0 : HeldR (Spn.Ok A k ↔ ((A.getD k sp0).f < (A.getD k sp0).t ∧ -1152921504606846976 ≤ (A.getD k sp0).f ∧ (A.getD k sp0).t ≤ 1152921504606846976 ∧ (A.getD m sp0).t < (A.getD k sp0).f)) := by
          unfold HeldR Spn.Ok
          rw [show k - 1 = m by omega]
          exact ⟨fun q => ⟨q.1, q.2.1, q.2.2.1, q.2.2.2 (by omega)⟩, fun q => ⟨q.1, q.2.1, q.2.2.1, fun _ => q.2.2.2⟩⟩
        have hm1 : m < A.length := by omega
        have wk : IntKind.i64.wrap ((k : Int) - 1) = (m : Int) := by
          rw [show (k : Int) - 1 = (m : Int) by omega]
          exact iwrap (by omega) (by omega)
        have tk : decide (0 < k) = true := decide_eq_true (by omega)
        have tk' : decide (0 < (k : Int)) = true := decide_eq_true (by omega)
        clear hm hk0
        generalize A.getD k sp0 = s at *
        generalize A.getD m sp0 = r at *
        obtain ⟨c0, c1'⟩ := hat
        have HP := hideR hat'.c1
        have HE := hideR (alloc_last wr (.cells #[.int .i64 s.f, .int .i64 s.t] 69))
        have hG := hideR (below_a wr (.cells #[.int .i64 s.f, .int .i64 s.t] 69))
        go_wp2_with fail
        generalize wr.alloc (.cells #[.int .i64 s.f, .int .i64 s.t] 69) = W8 at *
        replace HK := hideR (below_go (unhideR HK) (unhideR hG))
        have dp := ((unhideR hG).cell (p := ⟨b, off + m * 2 + 1, none⟩) hb).trans (unhideR HP)
        have d0 := (cells_at (unhideR HE) 0 (by simp)).1
        have d1 := (cells_at (unhideR HE) 1 (by simp)).1
        clear hG hat'
        generalize wr.heap.size = G at *
        by_cases q2 : s.f ≤ r.t
        · have x2 : decide (s.f ≤ r.t) = true := decide_eq_true q2
          have HX := hideR (unhideR HBad (fun q => by have := (unhideR HS0).1 q; omega))
          refine wp_region_lets [(· = .int .i64 (k : Nat)),
            (· = .bool true),
            (· = .bool true),
            (· = .pointer (some ⟨G, 0, none⟩)),
            (· = .int .i64 s.f),
            (· = .slice (some ⟨b, off, none⟩) A.length c),
            (· = .int .i64 (k : Nat)),
            (· = .int .i64 (m : Nat)),
            (· = .pointer (some ⟨b, off + m * 2, none⟩)),
            (· = .pointer (some ⟨b, off + m * 2 + 1, none⟩)),
            (· = .int .i64 r.t),
            (· = .bool true),
            (· = .bool true),
            (· = .bool true)] (by kernel_rfl) (by kernel_rfl) ?_
          refine lexL_step (fun K hK => ⟨by kernel_rfl, ⟨_, rfl⟩, fun n => ?_, fun v hv => ?_⟩)
          · go_simp
            exact lUpon_one
          subst hv
          go_simp
          refine hK _ ?_
          clear hK K
          refine lexL_step (fun K hK => ⟨by kernel_rfl, ⟨_, rfl⟩, fun n => ?_, fun v hv => ?_⟩)
          · go_simp
            exact lUpon_one
          subst hv
          go_simp
          refine hK _ ?_
          clear hK K
          refine lexL_step (fun K hK => ⟨by kernel_rfl, ⟨_, rfl⟩, fun n => ?_, fun v hv => ?_⟩)
          · go_simp
            exact lUpon_one
          subst hv
          go_simp
          refine hK _ ?_
          clear hK K
          refine lexL_step (fun K hK => ⟨by kernel_rfl, ⟨_, rfl⟩, fun n => ?_, fun v hv => ?_⟩)
          · go_simp
            exact lUpon_one
          subst hv
          go_simp
          refine hK _ ?_
          clear hK K
          refine lexL_step (fun K hK => ⟨by kernel_rfl, ⟨_, rfl⟩, fun n => ?_, fun v hv => ?_⟩)
          · go_simp
            exact lUpon_one
          subst hv
          go_simp
          refine hK _ ?_
          clear hK K
          refine lexL_step (fun K hK => ⟨by kernel_rfl, ⟨_, rfl⟩, fun n => ?_, fun v hv => ?_⟩)
          · go_simp
            exact lUpon_one
          subst hv
          go_simp
          refine hK _ ?_
          clear hK K
          refine lexL_step (fun K hK => ⟨by kernel_rfl, ⟨_, rfl⟩, fun n => ?_, fun v hv => ?_⟩)
          · go_simp
            exact lUpon_one
          subst hv
          go_simp
          refine hK _ ?_
          clear hK K
          refine lexL_step (fun K hK => ⟨by kernel_rfl, ⟨_, rfl⟩, fun n => ?_, fun v hv => ?_⟩)
          · go_simp
            exact lUpon_one
          subst hv
          go_simp
          refine hK _ ?_
          clear hK K
          refine lexL_step (fun K hK => ⟨by kernel_rfl, ⟨_, rfl⟩, fun n => ?_, fun v hv => ?_⟩)
          · go_simp
            exact lUpon_one
          subst hv
          go_simp
          refine hK _ ?_
          clear hK K
          refine lexL_step (fun K hK => ⟨by kernel_rfl, ⟨_, rfl⟩, fun n => ?_, fun v hv => ?_⟩)
          · go_simp
            exact lUpon_one
          subst hv
          go_simp
          refine hK _ ?_
          clear hK K
          refine lexL_step (fun K hK => ⟨by kernel_rfl, ⟨_, rfl⟩, fun n => ?_, fun v hv => ?_⟩)
          · go_simp
            exact lUpon_one
          subst hv
          go_simp
          refine hK _ ?_
          clear hK K
          refine lexL_step (fun K hK => ⟨by kernel_rfl, ⟨_, rfl⟩, fun n => ?_, fun v hv => ?_⟩)
          · go_simp
            exact lUpon_one
          subst hv
          go_simp
          refine hK _ ?_
          clear hK K
          refine lexL_step (fun K hK => ⟨by kernel_rfl, ⟨_, rfl⟩, fun n => ?_, fun v hv => ?_⟩)
          · go_simp
            exact lUpon_one
          subst hv
          go_simp
          refine hK _ ?_
          clear hK K
          refine lexL_step (fun K hK => ⟨by kernel_rfl, ⟨_, rfl⟩, fun n => ?_, fun v hv => ?_⟩)
          · go_simp
            exact lUpon_one
          subst hv
          go_simp
          refine hK _ ?_
          clear hK K
          refine lexL_end ?_
          intro n9
          have hbW := drawn_below W8 n9
          replace HK := hideR (below_go (unhideR HK) hbW)
          replace HE := hideR (keepB (unhideR HE) hbW)
          clear c0 c1' d0 d1 dp
          generalize W8.drewN n9 = W9 at *
          clear hbW
          have e0 := (cells_at (unhideR HE) 0 (by simp)).1
          have e1 := (cells_at (unhideR HE) 1 (by simp)).1
          by_cases q1 : s.t ≤ s.f
          · have x1 : decide (s.t ≤ s.f) = true := decide_eq_true q1
            go_wp2
            all_goals
              go_ret
              exact ⟨congrArg (fun x => Ending.returned (.bool x)) (unhideR HX).symm, unhideR HK⟩
          · have x1 : decide (s.t ≤ s.f) = false := decide_eq_false q1
            go_wp2
            all_goals
              go_ret
              exact ⟨congrArg (fun x => Ending.returned (.bool x)) (unhideR HX).symm, unhideR HK⟩
        · have x2 : decide (s.f ≤ r.t) = false := decide_eq_false q2
          have HS : HeldR (Spn.Ok A k ↔ (s.f < s.t ∧ -1152921504606846976 ≤ s.f ∧ s.t ≤ 1152921504606846976 ∧ r.t < s.f)) := unhideR HS0
          have HTo : HeldR (r.t < s.f) := by unfold HeldR; omega
          refine wp_region_lets [(· = .int .i64 (k : Nat)),
            (· = .bool true),
            (· = .bool true),
            (· = .pointer (some ⟨G, 0, none⟩)),
            (· = .int .i64 s.f),
            (· = .slice (some ⟨b, off, none⟩) A.length c),
            (· = .int .i64 (k : Nat)),
            (· = .int .i64 (m : Nat)),
            (· = .pointer (some ⟨b, off + m * 2, none⟩)),
            (· = .pointer (some ⟨b, off + m * 2 + 1, none⟩)),
            (· = .int .i64 r.t),
            (· = .bool false),
            (· = .bool false),
            (· = .bool false)] (by kernel_rfl) (by kernel_rfl) ?_
          refine lexL_step (fun K hK => ⟨by kernel_rfl, ⟨_, rfl⟩, fun n => ?_, fun v hv => ?_⟩)
          · go_simp
            exact lUpon_one
          subst hv
          go_simp
          refine hK _ ?_
          clear hK K
          refine lexL_step (fun K hK => ⟨by kernel_rfl, ⟨_, rfl⟩, fun n => ?_, fun v hv => ?_⟩)
          · go_simp
            exact lUpon_one
          subst hv
          go_simp
          refine hK _ ?_
          clear hK K
          refine lexL_step (fun K hK => ⟨by kernel_rfl, ⟨_, rfl⟩, fun n => ?_, fun v hv => ?_⟩)
          · go_simp
            exact lUpon_one
          subst hv
          go_simp
          refine hK _ ?_
          clear hK K
          refine lexL_step (fun K hK => ⟨by kernel_rfl, ⟨_, rfl⟩, fun n => ?_, fun v hv => ?_⟩)
          · go_simp
            exact lUpon_one
          subst hv
          go_simp
          refine hK _ ?_
          clear hK K
          refine lexL_step (fun K hK => ⟨by kernel_rfl, ⟨_, rfl⟩, fun n => ?_, fun v hv => ?_⟩)
          · go_simp
            exact lUpon_one
          subst hv
          go_simp
          refine hK _ ?_
          clear hK K
          refine lexL_step (fun K hK => ⟨by kernel_rfl, ⟨_, rfl⟩, fun n => ?_, fun v hv => ?_⟩)
          · go_simp
            exact lUpon_one
          subst hv
          go_simp
          refine hK _ ?_
          clear hK K
          refine lexL_step (fun K hK => ⟨by kernel_rfl, ⟨_, rfl⟩, fun n => ?_, fun v hv => ?_⟩)
          · go_simp
            exact lUpon_one
          subst hv
          go_simp
          refine hK _ ?_
          clear hK K
          refine lexL_step (fun K hK => ⟨by kernel_rfl, ⟨_, rfl⟩, fun n => ?_, fun v hv => ?_⟩)
          · go_simp
            exact lUpon_one
          subst hv
          go_simp
          refine hK _ ?_
          clear hK K
          refine lexL_step (fun K hK => ⟨by kernel_rfl, ⟨_, rfl⟩, fun n => ?_, fun v hv => ?_⟩)
          · go_simp
            exact lUpon_one
          subst hv
          go_simp
          refine hK _ ?_
          clear hK K
          refine lexL_step (fun K hK => ⟨by kernel_rfl, ⟨_, rfl⟩, fun n => ?_, fun v hv => ?_⟩)
          · go_simp
            exact lUpon_one
          subst hv
          go_simp
          refine hK _ ?_
          clear hK K
          refine lexL_step (fun K hK => ⟨by kernel_rfl, ⟨_, rfl⟩, fun n => ?_, fun v hv => ?_⟩)
          · go_simp
            exact lUpon_one
          subst hv
          go_simp
          refine hK _ ?_
          clear hK K
          refine lexL_step (fun K hK => ⟨by kernel_rfl, ⟨_, rfl⟩, fun n => ?_, fun v hv => ?_⟩)
          · go_simp
            exact lUpon_one
          subst hv
          go_simp
          refine hK _ ?_
          clear hK K
          refine lexL_step (fun K hK => ⟨by kernel_rfl, ⟨_, rfl⟩, fun n => ?_, fun v hv => ?_⟩)
          · go_simp
            exact lUpon_one
          subst hv
          go_simp
          refine hK _ ?_
          clear hK K
          refine lexL_step (fun K hK => ⟨by kernel_rfl, ⟨_, rfl⟩, fun n => ?_, fun v hv => ?_⟩)
          · go_simp
            exact lUpon_one
          subst hv
          go_simp
          refine hK _ ?_
          clear hK K
          refine lexL_end ?_
          intro n9
          have hbW := drawn_below W8 n9
          replace HK := hideR (below_go (unhideR HK) hbW)
          replace HE := hideR (keepB (unhideR HE) hbW)
          clear c0 c1' d0 d1 dp
          generalize W8.drewN n9 = W9 at *
          clear hbW
          have e0 := (cells_at (unhideR HE) 0 (by simp)).1
          have e1 := (cells_at (unhideR HE) 1 (by simp)).1
          by_cases q1 : s.t ≤ s.f
          · have x1 : decide (s.t ≤ s.f) = true := decide_eq_true q1
            have HX := hideR (unhideR HBad (fun q => by unfold Spn.Ok at q; have := (unhideR HS).1 q; omega))
            go_wp2
            all_goals
              go_ret
              exact ⟨congrArg (fun x => Ending.returned (.bool x)) (unhideR HX).symm, unhideR HK⟩
          · have x1 : decide (s.t ≤ s.f) = false := decide_eq_false q1
            have hw1 := fun u => within_any s.f 1152921504606846976 u (by decide) (by decide)
            have hw2 := fun u => within_any s.t 1152921504606846976 u (by decide) (by decide)
            by_cases q3 : -1152921504606846976 ≤ s.f ∧ s.f ≤ 1152921504606846976
            · rw [decide_eq_true q3.1, decide_eq_true q3.2] at hw1
              go_wp2_with fail
              refine (hw1 _).mono ?_
              rintro e w10 ⟨rfl, rfl⟩
              by_cases q4 : -1152921504606846976 ≤ s.t ∧ s.t ≤ 1152921504606846976
              · rw [decide_eq_true q4.1, decide_eq_true q4.2] at hw2
                go_wp2_with fail
                refine (hw2 _).mono ?_
                rintro e w11 ⟨rfl, rfl⟩
                have HM2 : HeldR (∀ j, j < k + 1 → Spn.Ok A j) := fun j hj => by
                  rcases (show j < k ∨ j = k by omega) with q | rfl
                  · exact unhideR HM j q
                  · exact (unhideR HS).2 ⟨by omega, by omega, by omega, unhideR HTo⟩
                clear hw1 hw2 e0 e1 HM HS HBad
                go_wp2
                exact ⟨⟨k + 1, by omega, by go_num, HM2, HK⟩, by simp [intOf]; omega⟩
              · have hz : (decide (-1152921504606846976 ≤ s.t) && decide (s.t ≤ 1152921504606846976)) = false := by
                  rw [Bool.and_eq_false_iff, decide_eq_false_iff_not, decide_eq_false_iff_not]
                  omega
                rw [hz] at hw2
                have HX := hideR (unhideR HBad (fun q => by have := (unhideR HS).1 q; omega))
                go_wp2_with fail
                refine (hw2 _).mono ?_
                rintro e w11 ⟨rfl, rfl⟩
                clear hw1 hw2
                go_wp2
                all_goals
                  go_ret
                  exact ⟨congrArg (fun x => Ending.returned (.bool x)) (unhideR HX).symm, unhideR HK⟩
            · have hz : (decide (-1152921504606846976 ≤ s.f) && decide (s.f ≤ 1152921504606846976)) = false := by
                rw [Bool.and_eq_false_iff, decide_eq_false_iff_not, decide_eq_false_iff_not]
                omega
              rw [hz] at hw1
              have HX := hideR (unhideR HBad (fun q => by have := (unhideR HS).1 q; omega))
              go_wp2_with fail
              refine (hw1 _).mono ?_
              rintro e w10 ⟨rfl, rfl⟩
              clear hw1 hw2
              go_wp2
              all_goals
                go_ret
                exact ⟨congrArg (fun x => Ending.returned (.bool x)) (unhideR HX).symm, unhideR HK⟩
    · obtain rfl : k = A.length := by omega
      have HX := hideR (unhideR HGood (unhideR HM))
      go_wp2
      go_ret
      exact ⟨congrArg (fun x => Ending.returned (.bool x)) (unhideR HX).symm, unhideR HK⟩
/-- a list of spans that is handed on. -/
structure SpA where
  ad : Option Addr
  c : Nat
  A : List Spn
def SpA.val (p : SpA) : Value := .slice p.ad p.A.length p.c
def spa0 : SpA := ⟨none, 0, []⟩
structure SpAs (w : World) (b off : Nat) (L : List SpA) : Prop where
  at_ : ∀ k, k < L.length → b < w.heap.size ∧ w.cell? ⟨b, off + k, none⟩ = some (L.getD k spa0).val ∧ SpCame w (L.getD k spa0).ad (L.getD k spa0).A ∧ (L.getD k spa0).A.length * 16 ≤ 140737488355328
theorem SpAs.below {w v : World} {b off : Nat} {L : List SpA} (h : SpAs w b off L) (k : Below w.heap.size w v) : SpAs v b off L := ⟨fun j hj => by
  obtain ⟨hb, h1, h2, h3⟩ := h.at_ j hj
  exact ⟨Nat.lt_of_lt_of_le hb k.size, (k.cell (p := ⟨b, off + j, none⟩) hb).trans h1, h2.below k, h3⟩⟩
/-- what is told of the lists. -/
structure SpTold (L : List SpA) (E : Int) : Prop where
  two : ∀ k, k < L.length → 4000 < (L.getD k spa0).A.length → E = 2
  five : (∀ k, k < L.length → (L.getD k spa0).A.length ≤ 4000) → ∀ k, k < L.length → rightV (L.getD k spa0).A = false → E = 5
  nought : (∀ k, k < L.length → (L.getD k spa0).A.length ≤ 4000) → (∀ k, k < L.length → rightV (L.getD k spa0).A = true) → E = 0
def ValPost (a : Nat → Addr) (E : Int) (w : World) (e : Ending) (w' : World) : Prop := ∃ y : Value, e = .returned y ∧ ErrIs a E y ∧ Below w.heap.size w w'
set_option maxRecDepth 100000 in
set_option maxHeartbeats 3200000 in
theorem valid_any (a : Nat → Addr) (b off cap : Nat) (L : List SpA) (E : Int) (w : World) (hSe : Sents w a) (hr : SpAs w b off L) (hl : L.length ≤ 2) (hE : SpTold L E) :
    Calls Tryd.prog 74 #[.slice (some ⟨b, off, none⟩) L.length cap] w (ValPost a E w) := by
  have HSe := hideR hSe
  have HR := hideR hr
  have H2 := hideR hE.two
  have H5 := hideR hE.five
  have H0 := hideR hE.nought
  clear hSe hr hE
  go_enter Tryd.func74, Tryd.ntmps74
  go_wp2
  go_loopw [9] (fun kv wl => w = wl ∧ ∃ k : Nat, k ≤ L.length ∧ kv = .int .i64 (k : Nat) ∧ HeldR (∀ j, j < k → (L.getD j spa0).A.length ≤ 4000)) (fun kv _ => L.length + 1 - (intOf kv).toNat)
  case atStart => exact ⟨rfl, 0, by omega, rfl, hideR (fun j hj => absurd hj (Nat.not_lt_zero j))⟩
  case round =>
    obtain ⟨hw0, k, hk, rfl, HM⟩ := hrel
    subst hw0
    by_cases hlt : k < L.length
    · obtain ⟨hb, hc, _, h16⟩ := (unhideR HR).at_ k hlt
      have HT := hideR (unhideR H2 k hlt)
      have HMk : HeldR ((L.getD k spa0).A.length ≤ 4000 → ∀ j, j < k + 1 → (L.getD j spa0).A.length ≤ 4000) := fun q j hj => by
        rcases (show j < k ∨ j = k by omega) with z | rfl
        · exact unhideR HM j z
        · exact q
      unfold SpA.val at hc
      generalize L.getD k spa0 = s at hc h16 HT HMk
      obtain ⟨ad, c, A⟩ := s
      simp only at hc h16
      have HT' : HeldR (4000 < A.length → E = 2) := unhideR HT
      have HM2 : HeldR (A.length ≤ 4000 → ∀ j, j < k + 1 → (L.getD j spa0).A.length ≤ 4000) := unhideR HMk
      clear HT HMk HM
      by_cases q : 4000 < A.length
      · have HX : HeldR (ValPost a E w (.returned (.iface 190 (.pointer (some (a 1))))) w) := ⟨_, rfl, by rw [unhideR HT' q]; exact err_at 1 (by decide), Below.refl _ _⟩
        have g1 := (unhideR HSe).g1
        go_wp2
        go_ret
        exact unhideR HX
      · have HM3 := hideR (unhideR HM2 (by omega))
        clear HM2 HT'
        go_wp2
        exact ⟨⟨by first | rfl | trivial, k + 1, by omega, by go_num, HM3⟩, by simp [intOf]; omega⟩
    · obtain rfl : k = L.length := by omega
      replace H5 := hideR (unhideR H5 (unhideR HM))
      replace H0 := hideR (unhideR H0 (unhideR HM))
      clear H2 HM
      go_wp2
      go_loopw [20] (fun kv wl => ∃ k : Nat, k ≤ L.length ∧ kv = .int .i64 (k : Nat) ∧ HeldR (∀ j, j < k → rightV (L.getD j spa0).A = true) ∧ HeldR (Below w.heap.size w wl)) (fun kv _ => L.length + 1 - (intOf kv).toNat)
      case atStart => exact ⟨0, by omega, rfl, hideR (fun j hj => absurd hj (Nat.not_lt_zero j)), hideR (Below.refl _ _)⟩
      case round =>
        obtain ⟨k, hk, rfl, HM, HK⟩ := hrel
        by_cases hlt : k < L.length
        · obtain ⟨hb, hc, hcm, h16⟩ := ((unhideR HR).below (unhideR HK)).at_ k hlt
          have HT := hideR (unhideR H5 k hlt)
          have HMk : HeldR (rightV (L.getD k spa0).A = true → ∀ j, j < k + 1 → rightV (L.getD j spa0).A = true) := fun q j hj => by
            rcases (show j < k ∨ j = k by omega) with z | rfl
            · exact unhideR HM j z
            · exact q
          unfold SpA.val at hc
          generalize L.getD k spa0 = s at hc h16 HT HMk hcm
          obtain ⟨ad, c, A⟩ := s
          simp only at hc h16 hcm
          have hri := rises_any ad c A _ hcm h16
          have HT' : HeldR (rightV A = false → E = 5) := unhideR HT
          have HM2 : HeldR (rightV A = true → ∀ j, j < k + 1 → rightV (L.getD j spa0).A = true) := unhideR HMk
          clear HT HMk HM hcm
          generalize rightV A = R at hri HT' HM2
          go_wp2_with fail
          refine hri.mono ?_
          rintro e w9 ⟨rfl, k9⟩
          replace HK := hideR (below_go (unhideR HK) k9)
          clear k9 hri hc
          cases R
          · have HX : HeldR (ValPost a E w (.returned (.iface 190 (.pointer (some (a 4))))) w9) := ⟨_, rfl, by rw [unhideR HT' rfl]; exact err_at 4 (by decide), unhideR HK⟩
            have g4 := ((unhideR HSe).below (unhideR HK) (Nat.le_refl _)).g4
            go_wp2
            go_ret
            exact unhideR HX
          · have HM3 := hideR (unhideR HM2 rfl)
            clear HM2 HT'
            go_wp2
            exact ⟨⟨k + 1, by omega, by go_num, HM3, HK⟩, by simp [intOf]; omega⟩
        · obtain rfl : k = L.length := by omega
          have HX : HeldR (∀ u, Below w.heap.size w u → ValPost a E w (.returned .nilIface) u) := fun u hu => ⟨_, rfl, .inl ⟨unhideR H0 (unhideR HM), rfl⟩, hu⟩
          go_wp2
          go_ret
          exact unhideR HX _ (unhideR HK)
theorem told_one (ad : Option Addr) (c : Nat) (A : List Spn) : SpTold [⟨ad, c, A⟩] (spE A []) := by
  rw [spE_nil]
  refine ⟨fun k hk h => ?_, fun h k hk q => ?_, fun h q => ?_⟩
  · obtain rfl : k = 0 := by simpa using hk
    exact if_pos h
  · obtain rfl : k = 0 := by simpa using hk
    have := h 0 (by simp)
    exact (if_neg (Nat.not_lt.2 this)).trans (if_pos q)
  · have h1 := h 0 (by simp)
    have q1 : rightV A = true := q 0 (by simp)
    rw [q1]
    exact (if_neg (Nat.not_lt.2 h1)).trans (if_neg (by simp))
theorem told_two (ad1 ad2 : Option Addr) (c1 c2 : Nat) (A B : List Spn) : SpTold [⟨ad1, c1, A⟩, ⟨ad2, c2, B⟩] (spE A B) := by
  unfold spE
  refine ⟨fun k hk h => ?_, fun h k hk q => ?_, fun h q => ?_⟩
  · rcases (show k = 0 ∨ k = 1 by simp at hk; omega) with rfl | rfl
    · exact if_pos (.inl h)
    · exact if_pos (.inr h)
  · have h1 : A.length ≤ 4000 := h 0 (by simp)
    have h2 : B.length ≤ 4000 := h 1 (by simp)
    rw [if_neg (by omega)]
    rcases (show k = 0 ∨ k = 1 by simp at hk; omega) with rfl | rfl
    · exact if_pos (.inl q)
    · exact if_pos (.inr q)
  · have h1 : A.length ≤ 4000 := h 0 (by simp)
    have h2 : B.length ≤ 4000 := h 1 (by simp)
    have q1 : rightV A = true := q 0 (by simp)
    have q2 : rightV B = true := q 1 (by simp)
    rw [if_neg (by omega), q1, q2, if_neg (by simp)]
theorem valid_one (a : Nat → Addr) (ad : Option Addr) (c : Nat) (A : List Spn) (w : World) (hSe : Sents w a) (hr : SpCame w ad A) (hl : A.length * 16 ≤ 140737488355328) :
    Calls Tryd.prog 74 #[.slice (some ⟨w.heap.size, 0, none⟩) 1 1] (w.alloc (.cells #[.slice ad A.length c] 70)) (ValPost a (spE A []) w) := by
  have hb := below_a w (.cells #[.slice ad A.length c] 70)
  have h1 := alloc_last w (.cells #[.slice ad A.length c] 70)
  refine (valid_any a w.heap.size 0 1 [⟨ad, c, A⟩] (spE A []) _ (hSe.below hb (Nat.le_refl _)) ⟨fun k hk => ?_⟩ (by simp) (told_one ad c A)).mono ?_
  · obtain rfl : k = 0 := by simpa using hk
    exact ⟨ltB h1, (cells_at h1 0 (by simp)).1, hr.below hb, hl⟩
  · rintro e w' ⟨y, rfl, hy, hw⟩
    exact ⟨y, rfl, hy, below_go hb hw⟩
theorem valid_two (a : Nat → Addr) (ad1 ad2 : Option Addr) (c1 c2 : Nat) (A B : List Spn) (w : World) (hSe : Sents w a) (hr1 : SpCame w ad1 A) (hr2 : SpCame w ad2 B) (l1 : A.length * 16 ≤ 140737488355328) (l2 : B.length * 16 ≤ 140737488355328) :
    Calls Tryd.prog 74 #[.slice (some ⟨w.heap.size, 0, none⟩) 2 2] (w.alloc (.cells #[.slice ad1 A.length c1, .slice ad2 B.length c2] 70)) (ValPost a (spE A B) w) := by
  have hb := below_a w (.cells #[.slice ad1 A.length c1, .slice ad2 B.length c2] 70)
  have h1 := alloc_last w (.cells #[.slice ad1 A.length c1, .slice ad2 B.length c2] 70)
  refine (valid_any a w.heap.size 0 2 [⟨ad1, c1, A⟩, ⟨ad2, c2, B⟩] (spE A B) _ (hSe.below hb (Nat.le_refl _)) ⟨fun k hk => ?_⟩ (by simp) (told_two ad1 ad2 c1 c2 A B)).mono ?_
  · rcases (show k = 0 ∨ k = 1 by simp at hk; omega) with rfl | rfl
    · exact ⟨ltB h1, (cells_at h1 0 (by simp)).1, hr1.below hb, l1⟩
    · exact ⟨ltB h1, (cells_at h1 1 (by simp)).1, hr2.below hb, l2⟩
  · rintro e w' ⟨y, rfl, hy, hw⟩
    exact ⟨y, rfl, hy, below_go hb hw⟩
end Go.Proofs.YtoacdaemhcbbhaaDoor
