/-
  The law TickJulian: walked out of the contracts; its row, and the tied card.
-/
import Derived.Test.YtilihjjkndlihabDoorJulWalk
import Derived.Test.YtilihjjkndlihabDoorJulNum
import Derived.Test.YtilihjjkndlihabDoorLaid
import Derived.Test.YtilihjjkndlihabDoorCards
import Derived.Test.YtilihjjkndlihabDoorTie
import Derived.ProofKit
import Derived.Stop.Joined
namespace Go.Proofs.YtilihjjkndlihabDoor
open Go.ChangeShapes Go.WideShapes Go.ChangeAt Go.RowKit

theorem first_one {q r g : Int} (hg : 0 < g) (e1 : wantOf (-32184000) = g * q) (e2 : 86400000000 = g * r) (e3 : Int.gcd q r = 1) : q = 4903089 ∧ r = 2 := by
  have e0 : wantOf (-32184000) = 211813444800000000 := by unfold wantOf; omega
  exact first_two hg (e0.symm.trans e1) e2 e3

set_option maxHeartbeats 1000000 in
theorem law_yes {w : World} (t : Int) (h1 : -300000000000000000 ≤ t) (h2 : t ≤ 300000000000000000) :
    Calls Tryd.prog 3 #[.int .i64 t] w fun e w' => e = .returned (.bool true) ∧ Below w.heap.size w w' := by
  go_enter Tryd.func3, Tryd.ntmps3
  go_wp2_with fail
  refine (julian_yes _ _ (by omega) (by omega)).mono ?_
  rintro e w1 ⟨q, r, rfl, ⟨g, hg, e1, e2, e3⟩, n1, rfl⟩
  obtain ⟨rfl, rfl⟩ := first_one hg e1 e2 e3
  clear hg e1 e2 e3
  go_wp2_with fail
  refine (julian_yes _ _ h1 h2).mono ?_
  rintro e w1 ⟨q, r, rfl, ⟨g, hg, e1, e2, e3⟩, n2, rfl⟩
  have E1 := hide e1
  have E2 := hide e2
  have E3 := hide e3
  clear e1 e2 e3
  go_wp2_with fail
  refine (isTime_yes _ _ h1 h2).mono ?_
  rintro e w1 ⟨rfl, rfl⟩
  go_wp2_with fail
  refine (isJulian_any t q r g _ h1 h2 hg (unhide E1) (unhide E2) (unhide E3)).mono ?_
  rintro e w3 ⟨rfl, hb⟩
  go_wp2
  go_ret
  exact ⟨rfl, (below_drewN (Below.refl w.heap.size w) (n1 + n2)).trans hb⟩

set_option maxHeartbeats 1000000 in
theorem law_no {w : World} {a : Nat → Addr} (hS : Sents w a) (t : Int) (h : t < -300000000000000000 ∨ 300000000000000000 < t) :
    Calls Tryd.prog 3 #[.int .i64 t] w fun e w' => e = .returned (.bool true) ∧ Below w.heap.size w w' := by
  go_enter Tryd.func3, Tryd.ntmps3
  go_wp2_with fail
  refine (julian_yes _ _ (by omega) (by omega)).mono ?_
  rintro e w1 ⟨q, r, rfl, ⟨g, hg, e1, e2, e3⟩, n1, rfl⟩
  obtain ⟨rfl, rfl⟩ := first_one hg e1 e2 e3
  clear hg e1 e2 e3
  have s1 : Sents (w.drewN n1) a := hS.below (below_drewN (Below.refl w.heap.size w) n1) (Nat.le_refl _)
  go_wp2_with fail
  refine (julian_no _ _ _ h s1.g2).mono ?_
  rintro e w1 ⟨rfl, n2, rfl⟩
  have s2 : Sents (w.drewN (n1 + n2)) a := hS.below (below_drewN (Below.refl w.heap.size w) (n1 + n2)) (Nat.le_refl _)
  go_wp2_with fail
  refine (isTime_no _ _ h).mono ?_
  rintro e w1 ⟨rfl, rfl⟩
  go_wp2_with fail
  refine (coded_sent s2 2 (by omega) 3).mono ?_
  rintro e w3 ⟨rfl, hb⟩
  go_wp2
  go_ret
  exact ⟨rfl, (below_drewN (Below.refl w.heap.size w) (n1 + n2)).trans hb⟩

theorem door_met (os : Os) (args : Array Value) : laidMetH Tryd.prog Rows.tickJulianRow.laid ((World.doorLaid Tryd.prog 206 os).forCall (fun _ _ => 0) ⟨#[], args, []⟩).memory :=
  laidMetH_of_parts3 (fuel := 8) (laidMet_of_run' 8 (by kernel_rfl) (by kernel_rfl)) (by kernel_rfl) (by kernel_rfl)

set_option maxRecDepth 100000 in
theorem julian_lifted (os : Os) (started : os.Started) (H : Type) (enc : TypeId × Value → H) :
    ReturnsInHanded {} Tryd.checked os 3 .any (fun w args => (Rows.tickJulianSpec.pre enc Tryd.prog Tryd.f3 [] false w args ∧ laidMetH Tryd.prog Rows.tickJulianRow.laid w) ∧ sizedMet enc Tryd.prog Tryd.f3 (OpenSpec.ofChange Rows.tickJulianSpec) false w args)
      (Rows.tickJulianSpec.post enc Tryd.prog Tryd.f3 false true false false) := by
  refine returnsInHanded_of_change_and (C := Tryd.checked) (X := fun w _ => laidMetH Tryd.prog Rows.tickJulianRow.laid w) (fun _ _ _ hh h => h.of_heap hh) own started (by kernel_rfl) Tryd.func3
    (ChangeSpec.witness_shaped (enc := enc) (C := Tryd.checked) (os := os) (X := fun w _ => laidMetH Tryd.prog Rows.tickJulianRow.laid w) false (World.doorLaid Tryd.prog 206 os) #[.int .i64 0] 8 rfl (World.shaped_of_RefB (by kernel_rfl) (by kernel_rfl)) (by kernel_rfl) (by kernel_rfl) (by kernel_rfl) (door_met os _)) ?_
  intro W base args ds gs before hval0 hW _ _ hL _
  have hval : ∀ (j : Nat) t v, Tryd.f3.params[j]? = some t → args[j]? = some v → Value.okWide Tryd.prog W .any base t v := hval0
  have hW' := hW
  obtain ⟨p, q, hA0, hV, rfl, hfz, hnd⟩ := hW
  have hA : DataW.TrodAll enc Tryd.prog W 0 (fun _ => true) true Tryd.f3.params.toList args.toList ds p := hA0
  rw [Tryd.params3] at hA hval
  obtain ⟨v0, d0, rfl, rfl, h0⟩ := trodAll_one hA
  obtain ⟨t, rfl, rfl, rfl, hwt⟩ := open_int Tryd.underlying3 (hval 0 3 v0 rfl rfl) h0
  obtain ⟨rfl, rfl⟩ := trodVars_none hV
  obtain ⟨a, hS⟩ := sents_of_laid hL
  have e1 : Rows.tickJulianSpec.fn H ([.lit (.int .i64 t)] ++ []) = { results := [.lit (.bool true)], args := [.lit (.int .i64 t)] } := by simp [Rows.tickJulianSpec]
  have walk : Calls Tryd.prog 3 #[.int .i64 t] W fun e w' => e = .returned (.bool true) ∧ Below W.heap.size W w' := by
    rcases (show (t < -300000000000000000 ∨ 300000000000000000 < t) ∨ (-300000000000000000 ≤ t ∧ t ≤ 300000000000000000) by omega) with h | h
    · exact law_no hS t h
    · exact law_yes t h.1 h.2
  refine walk.mono fun e W' ⟨he, hb⟩ => ?_
  subst he
  refine ⟨_, rfl, _, _, _, [], [], [], hW', ?_, ?_, ?_, hb.frame _, fun h => by cases h⟩
  · rw [e1]; exact trodAll_mk1 (shut_bool Tryd.underlying4 true)
  · rw [e1]; exact trodAll_mk1 (shut_int Tryd.underlying3 hwt)
  · rw [e1]; rfl

theorem julian_holds : Rows.TickJulianSaid :=
  OpenClaim.holds_of_wide 3 Tryd.f3 rfl rfl rfl rfl rfl rfl rfl ⟨rfl, rfl, rfl, rfl, rfl⟩ rfl rfl rfl rfl rfl (by kernel_rfl) Tryd.func3 (by kernel_rfl)
    (of_decide_eq_true (by kernel_rfl)) (by unfold Func.isWrapper; first | (rw [if_pos (by decide +kernel)]; kernel_rfl) | (rw [if_neg (by decide +kernel)]; exact ⟨rfl, rfl⟩))
    (fun os started H enc _ => julian_lifted os started H enc)

theorem julian_card : Rows.TickJulianCardSaid :=
  Claim7.holds_tied_plain_at .later [] Rows.tickJulianCard.laidKinds true Rows.tickJulianCard.stood.harness true
    julian_holds (fun _ h => by cases h) (by kernel_rfl) (fun _ h => by cases h) tickJulian_row_tie rfl ⟨rfl, rfl⟩ (by kernel_rfl) rfl
    (fun f fn hf hfn => by
      obtain rfl : f = 3 := Option.some.inj ((show Tryd.prog.funcNamed Rows.tickJulianRow.func = some 3 by kernel_rfl).symm.trans hf) |>.symm
      obtain rfl : fn = Tryd.f3 := (Option.some.inj (Tryd.func3.symm.trans hfn)).symm
      exact ⟨by kernel_rfl, fun j t ht => by
        rw [Tryd.params3] at ht
        have hm : t ∈ [3] := by simpa using Array.mem_of_getElem? ht
        have hall : ([3].all fun u => !Tryd.prog.wantsStandIn u) = true := by kernel_rfl
        exact (show Tryd.prog.wantsStandIn t = false by simpa using List.all_eq_true.1 hall t hm)⟩)
    (by kernel_rfl)
#print axioms julian_card
end Go.Proofs.YtilihjjkndlihabDoor
