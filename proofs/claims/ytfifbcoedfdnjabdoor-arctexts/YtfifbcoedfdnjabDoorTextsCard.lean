/-
  The law ArcTexts: its walk out of the contracts; its row, and the tied card.
-/
import Derived.Test.YtfifbcoedfdnjabDoorDegrees
import Derived.Test.YtfifbcoedfdnjabDoorCards
import Derived.Test.YtfifbcoedfdnjabDoorTie
import Derived.Stop.Joined
import Derived.Lib.LaidTab
import Derived.LaidHandle
import Derived.LaidMore
namespace Go.Proofs.YtfifbcoedfdnjabDoor
open Go.ChangeShapes Go.WideShapes Go.ChangeAt Go.RowKit Go.Lib

theorem first_hours : str (hrsL 15000000) = ⟨#[48, 48, 104, 48, 48, 109, 48, 49, 46, 48, 48, 48, 48, 48, 48, 115]⟩ := by decide +kernel

set_option maxHeartbeats 1000000 in
theorem texts_some (a : Int) (w : World) (t : Tens w) (h1 : -1152921504606846976 ≤ a) (h2 : a ≤ 1152921504606846976) :
    Calls Tryd.prog 4 #[.int .i64 a] w fun e w' => e = .returned (.bool true) ∧ Below w.heap.size w w' := by
  go_enter Tryd.func4, Tryd.ntmps4
  go_wp2_with fail
  refine (hours_any 15000000 _ t).mono ?_
  rintro e w1 ⟨s, rfl, HS, _, hb1⟩
  obtain rfl := (unhide HS).trans first_hours
  clear HS
  have t1 := t.below hb1 t.size
  have g1 : ¬ 1152921504606846976 < a := by omega
  have g2 : decide (a < -1152921504606846976) = false := by simp; omega
  go_wp2_with fail
  refine (degrees_any a _ t1 h1 h2).mono ?_
  rintro e w2 ⟨d, rfl, HD, _, hb2⟩
  have t2 := t1.below hb2 t1.size
  go_wp2_with fail
  refine (hours_any a _ t2).mono ?_
  rintro e w3 ⟨h, rfl, HH, _, hb3⟩
  go_wp2_with fail
  refine (degreesText_any a _ h1 h2).mono ?_
  rintro e w4 ⟨d', rfl, HD', _, hb4⟩
  obtain rfl := (unhide HD').trans (unhide HD).symm
  go_wp2_with fail
  refine (hoursText_any a _).mono ?_
  rintro e w5 ⟨h', rfl, HH', _, hb5⟩
  obtain rfl := (unhide HH').trans (unhide HH).symm
  go_wp2
  go_ret
  have z1 := hb1.size
  have z2 := hb2.size
  have z3 := hb3.size
  have z4 := hb4.size
  exact ⟨rfl, hb1.trans ((hb2.mono (by omega)).trans ((hb3.mono (by omega)).trans ((hb4.mono (by omega)).trans (hb5.mono (by omega)))))⟩

set_option maxHeartbeats 1000000 in
theorem texts_none (a : Int) (w : World) (t : Tens w) (h : a < -1152921504606846976 ∨ 1152921504606846976 < a) :
    Calls Tryd.prog 4 #[.int .i64 a] w fun e w' => e = .returned (.bool true) ∧ Below w.heap.size w w' := by
  rcases h with h | h
  · have g1 : decide (1152921504606846976 < a) = false := by simp; omega
    go_enter Tryd.func4, Tryd.ntmps4
    go_wp2_with fail
    refine (hours_any 15000000 _ t).mono ?_
    rintro e w1 ⟨s, rfl, HS, _, hb1⟩
    obtain rfl := (unhide HS).trans first_hours
    clear HS
    go_wp2
    go_ret
    exact ⟨rfl, hb1⟩
  · go_enter Tryd.func4, Tryd.ntmps4
    go_wp2_with fail
    refine (hours_any 15000000 _ t).mono ?_
    rintro e w1 ⟨s, rfl, HS, _, hb1⟩
    obtain rfl := (unhide HS).trans first_hours
    clear HS
    go_wp2
    go_ret
    exact ⟨rfl, hb1⟩

theorem own : ownKnob Tryd.prog.godebug = none := by kernel_rfl
theorem cell_lt {W : World} {x i : Nat} {v : Value} (hx : W.cell? ⟨x, i, none⟩ = some v) : x < W.heap.size := by
  rcases Nat.lt_or_ge x W.heap.size with l | l
  · exact l
  · simp [World.cell?, Array.getElem?_eq_none l] at hx
theorem tens_of {W : World} {n1 n2 : String} {d1 d2 : DataW Unit} {rest : List (String × DataW Unit)} (h : laidMet Tryd.prog ((n1, d1) :: (n2, d2) :: ("internal/strconv.uint64pow10", Rows.laid_internal_strconv_uint64pow10) :: rest) W) : Tens W := by
  obtain ⟨ps, ⟨_, _, _, _, _, _, _, _, _, _, ⟨_, _, _, _, _, _, _, _, _, _, ⟨g, t, cs, fuel, p, q, hg, ht, hv, hd, _, _⟩, _⟩, _⟩, _⟩ := h
  have hg' : Tryd.prog.globalNamed "internal/strconv.uint64pow10" = some 11 := by kernel_rfl
  obtain rfl := Option.some.inj (hg'.symm.trans hg)
  have ht' : (Tryd.prog.globals[11]?).map (·.type) = some 141 := by kernel_rfl
  obtain rfl := Option.some.inj (ht'.symm.trans ht)
  have tab : Lib.TabIs Tryd.prog W "internal/strconv.uint64pow10" .u64 Lib.pow10Tab := by
    unfold Lib.TabIs
    rw [hv, ← Lib.cells_of_tab Tryd.underlying141 Tryd.underlying127 (by kernel_rfl) (by kernel_rfl) (zs := Lib.pow10Tab) hd]
  exact ⟨tab, cell_lt (tab.cell hg' 0 (by decide))⟩

theorem texts_door (os : Os) (args : Array Value) : laidMetH Tryd.prog Rows.arcTextsRow.laid ((World.doorLaid Tryd.prog 231 os).forCall (fun _ _ => 0) ⟨#[], args, []⟩).memory :=
  laidMetH_of_parts3 (fuel := 8) (laidMet_of_run' 8 (by kernel_rfl) (by kernel_rfl)) (by kernel_rfl) (by kernel_rfl)

set_option maxRecDepth 100000 in
theorem texts_lifted (os : Os) (started : os.Started) (H : Type) (enc : TypeId × Value → H) :
    ReturnsInHanded {} Tryd.checked os 4 .any (fun w args => (Rows.arcTextsSpec.pre enc Tryd.prog Tryd.f4 [] false w args ∧ laidMetH Tryd.prog Rows.arcTextsRow.laid w) ∧ sizedMet enc Tryd.prog Tryd.f4 (OpenSpec.ofChange Rows.arcTextsSpec) false w args)
      (Rows.arcTextsSpec.post enc Tryd.prog Tryd.f4 false true false false) := by
  refine returnsInHanded_of_change_and (C := Tryd.checked) (X := fun w _ => laidMetH Tryd.prog Rows.arcTextsRow.laid w) (fun _ _ _ hh h => h.of_heap hh) own started (by kernel_rfl) Tryd.func4
    (ChangeSpec.witness_shaped (enc := enc) (C := Tryd.checked) (os := os) (X := fun w _ => laidMetH Tryd.prog Rows.arcTextsRow.laid w) false (World.doorLaid Tryd.prog 231 os) #[.int .i64 0] 8 rfl (World.shaped_of_RefB (by kernel_rfl) (by kernel_rfl)) (by kernel_rfl) (by kernel_rfl) (by kernel_rfl) (texts_door os _)) ?_
  intro W base args ds gs before hval0 hW _ _ hL _
  have hval : ∀ (j : Nat) t v, Tryd.f4.params[j]? = some t → args[j]? = some v → Value.okWide Tryd.prog W .any base t v := hval0
  have hW' := hW
  obtain ⟨p, q, hA0, hV, rfl, hfz, hnd⟩ := hW
  have hA : DataW.TrodAll enc Tryd.prog W 0 (fun _ => true) true Tryd.f4.params.toList args.toList ds p := hA0
  rw [Tryd.params4] at hA hval
  obtain ⟨v0, d0, rfl, rfl, h0⟩ := trodAll_one hA
  obtain ⟨t, rfl, rfl, rfl, hwt⟩ := open_int Tryd.underlying3 (hval 0 3 v0 rfl rfl) h0
  obtain ⟨rfl, rfl⟩ := trodVars_none hV
  have hL' : laidMet Tryd.prog [("math/bits.deBruijn32tab", Rows.laid_math_bits_deBruijn32tab), ("math/bits.deBruijn64tab", Rows.laid_math_bits_deBruijn64tab), ("internal/strconv.uint64pow10", Rows.laid_internal_strconv_uint64pow10)] W := hL
  have tn : Tens W := tens_of hL'
  have e1 : Rows.arcTextsSpec.fn H ([.lit (.int .i64 t)] ++ []) = { results := [.lit (.bool true)], args := [.lit (.int .i64 t)] } := by simp [Rows.arcTextsSpec]
  have walk : Calls Tryd.prog 4 #[.int .i64 t] W fun e w' => e = .returned (.bool true) ∧ Below W.heap.size W w' := by
    rcases (show (t < -1152921504606846976 ∨ 1152921504606846976 < t) ∨ (-1152921504606846976 ≤ t ∧ t ≤ 1152921504606846976) by omega) with h | h
    · exact texts_none t W tn h
    · exact texts_some t W tn h.1 h.2
  refine walk.mono fun e W' ⟨he, hb⟩ => ?_
  subst he
  refine ⟨_, rfl, _, _, _, [], [], [], hW', ?_, ?_, ?_, hb.frame _, fun h => by cases h⟩
  · rw [e1]; exact trodAll_mk1 (shut_bool Tryd.underlying4 true)
  · rw [e1]; exact trodAll_mk1 (shut_int Tryd.underlying3 hwt)
  · rw [e1]; rfl

theorem texts_holds : Rows.ArcTextsSaid :=
  OpenClaim.holds_of_wide 4 Tryd.f4 rfl rfl rfl rfl rfl rfl rfl ⟨rfl, rfl, rfl, rfl, rfl⟩ rfl rfl rfl rfl rfl (by kernel_rfl) Tryd.func4 (by kernel_rfl)
    (of_decide_eq_true (by kernel_rfl)) (by unfold Func.isWrapper; first | (rw [if_pos (by decide +kernel)]; kernel_rfl) | (rw [if_neg (by decide +kernel)]; exact ⟨rfl, rfl⟩))
    (fun os started H enc _ => texts_lifted os started H enc)

theorem texts_card : Rows.ArcTextsCardSaid :=
  Claim7.holds_tied_plain_at .later [] Rows.arcTextsCard.laidKinds true Rows.arcTextsCard.stood.harness true
    texts_holds (fun _ h => by cases h) (by kernel_rfl) (fun _ h => by cases h) arcTexts_row_tie rfl ⟨rfl, rfl⟩ (by kernel_rfl) rfl
    (fun f fn hf hfn => by
      obtain rfl : f = 4 := Option.some.inj ((show Tryd.prog.funcNamed Rows.arcTextsRow.func = some 4 by kernel_rfl).symm.trans hf) |>.symm
      obtain rfl : fn = Tryd.f4 := (Option.some.inj (Tryd.func4.symm.trans hfn)).symm
      exact ⟨by kernel_rfl, fun j t ht => by
        rw [Tryd.params4] at ht
        have hm : t ∈ [3] := by simpa using Array.mem_of_getElem? ht
        have hall : ([3].all fun u => !Tryd.prog.wantsStandIn u) = true := by kernel_rfl
        exact (show Tryd.prog.wantsStandIn t = false by simpa using List.all_eq_true.1 hall t hm)⟩)
    (by kernel_rfl)
#print axioms texts_card
end Go.Proofs.YtfifbcoedfdnjabDoor
