/-
  The law ArcBack: its row, and the tied card.
-/
import Derived.Test.YtfifbcoedfdnjabDoorBackLaw
import Derived.Test.YtfifbcoedfdnjabDoorLaid
import Derived.Test.YtfifbcoedfdnjabDoorCards
import Derived.Test.YtfifbcoedfdnjabDoorTie
import Derived.Stop.Joined
import Derived.Lib.LaidTab
import Derived.Lib.LaidU8T
import Derived.PinnedBridge
import Derived.Lay
namespace Go.Proofs.YtfifbcoedfdnjabDoor
open Go.ChangeShapes Go.WideShapes Go.ChangeAt Go.RowKit Go.Lib

theorem u8types : U8Types Tryd.prog Tryd.lays197_ren := { Tryd.lays197 with }
theorem u8extra : U8Extra Tryd.prog Tryd.lays197_ren := ⟨by kernel_rfl, by kernel_rfl, by kernel_rfl, by kernel_rfl, by kernel_rfl, by kernel_rfl, by kernel_rfl⟩
theorem accept_eq : (Rows.laid_unicode_utf8_acceptRanges : DataW Unit) = acceptData := by kernel_rfl
theorem tabs_of {W : World} {l : List (String × DataW Unit)} {ps : List MemPlace} (hL : DataW.LaidVars Tryd.prog W l ps) (h1 : ("unicode/utf8.first", Rows.laid_unicode_utf8_first) ∈ l) (h2 : ("unicode/utf8.acceptRanges", Rows.laid_unicode_utf8_acceptRanges) ∈ l) : Utf8Tabs 13 14 W := by
  have r1 := LaidVars_reads hL _ _ h1
  have r2 := LaidVars_reads hL _ _ h2
  rw [show Rows.laid_unicode_utf8_first = firstData from Pinned.utf8First_eq] at r1
  rw [accept_eq] at r2
  exact utf8Tabs_of_readsT u8types u8extra r1 r2
theorem tens_of {W : World} {l : List (String × DataW Unit)} {ps : List MemPlace} (hL : DataW.LaidVars Tryd.prog W l ps) (h1 : ("internal/strconv.uint64pow10", Rows.laid_internal_strconv_uint64pow10) ∈ l) : Tens W := by
  obtain ⟨g, t, cs, fuel, p, hg, ht, hv, hd⟩ := LaidVars_reads hL _ _ h1
  have hg' : Tryd.prog.globalNamed "internal/strconv.uint64pow10" = some 11 := by kernel_rfl
  obtain rfl := Option.some.inj (hg'.symm.trans hg)
  have ht' : (Tryd.prog.globals[11]?).map (·.type) = some 141 := by kernel_rfl
  obtain rfl := Option.some.inj (ht'.symm.trans ht)
  have tab : Lib.TabIs Tryd.prog W "internal/strconv.uint64pow10" .u64 Lib.pow10Tab := by
    unfold Lib.TabIs
    rw [hv, ← Lib.cells_of_tab Tryd.underlying141 Tryd.underlying127 (by kernel_rfl) (by kernel_rfl) (zs := Lib.pow10Tab) hd]
  exact ⟨tab, in_heap (tab.cell hg' 0 (by decide))⟩

theorem back_of_laid {W : World} (h : laidMetH Tryd.prog Rows.arcBackRow.laid W) : ∃ ad, Tens W ∧ Reads ad W := by
  have h' : laidMet Tryd.prog ([("math/bits.deBruijn32tab", Rows.laid_math_bits_deBruijn32tab), ("math/bits.deBruijn64tab", Rows.laid_math_bits_deBruijn64tab), ("internal/strconv.uint64pow10", Rows.laid_internal_strconv_uint64pow10), ("unicode/utf8.acceptRanges", Rows.laid_unicode_utf8_acceptRanges)] ++ ([("meridian/api.ErrText", Rows.laid_meridian_api_ErrText)] ++ [("unicode/utf8.first", Rows.laid_unicode_utf8_first)])) W := h
  obtain ⟨ps, hL, hnd, hrows⟩ := h'
  have tb := tabs_of hL (by simp) (by simp)
  have tn := tens_of hL (by simp)
  obtain ⟨p1, q1, _, h2, rfl⟩ := laid_split _ _ _ hL
  obtain ⟨p2, q2, h3, _, rfl⟩ := laid_split _ _ _ h2
  have hnd2 : p2.Nodup := List.Nodup.sublist ((List.sublist_append_left p2 q2).trans (List.sublist_append_right p1 _)) hnd
  obtain ⟨ads, hlen, hat, _, _⟩ := laid_list Tryd.underlying23 rowP Tryd.underlying151 Tryd.underlying169 rfl rfl Tryd.underlying9 cellsS cellsStr _ p2 (by kernel_rfl) h3 hnd2 (fun b off hm => hrows b off (List.mem_append_right _ (List.mem_append_left _ hm)))
  obtain ⟨ad, hads⟩ : ∃ ad, ads[0]? = some ad := ⟨_, List.getElem?_eq_getElem (by rw [hlen]; decide)⟩
  have hv := (hat 0 _ ad rfl hads).1
  have hg : Tryd.prog.globalNamed "meridian/api.ErrText" = some 1 := by kernel_rfl
  exact ⟨ad, tn, ⟨tb, in_heap (tb.2 0 (by omega)).1, by simpa using World.var?_cell hg hv 0⟩⟩

set_option maxRecDepth 100000 in
theorem back_lifted (os : Os) (started : os.Started) (H : Type) (enc : TypeId × Value → H) :
    ReturnsInHanded {} Tryd.checked os 6 .any (fun w args => (Rows.arcBackSpec.pre enc Tryd.prog Tryd.f6 [] false w args ∧ laidMetH Tryd.prog Rows.arcBackRow.laid w) ∧ sizedMet enc Tryd.prog Tryd.f6 (OpenSpec.ofChange Rows.arcBackSpec) false w args)
      (Rows.arcBackSpec.post enc Tryd.prog Tryd.f6 false true false false) := by
  refine returnsInHanded_of_change_and (C := Tryd.checked) (X := fun w _ => laidMetH Tryd.prog Rows.arcBackRow.laid w) (fun _ _ _ hh h => h.of_heap hh) own started (by kernel_rfl) Tryd.func6
    (ChangeSpec.witness_shaped (enc := enc) (C := Tryd.checked) (os := os) (X := fun w _ => laidMetH Tryd.prog Rows.arcBackRow.laid w) false (World.laidAll Tryd.prog os Rows.arcBackRow.laid) #[.int .i64 0] 8 (World.laidAll_os _ _ _) (World.shaped_of_ZipB (by kernel_rfl) (by kernel_rfl)) (by kernel_rfl) (by kernel_rfl) (by kernel_rfl)
      (show laidMet Tryd.prog Rows.arcBackRow.laid _ from laidMet_laidAll _ (by kernel_rfl) (by kernel_rfl))) ?_
  intro W base args ds gs before hval0 hW _ _ hL _
  have hval : ∀ (j : Nat) t v, Tryd.f6.params[j]? = some t → args[j]? = some v → Value.okWide Tryd.prog W .any base t v := hval0
  have hW' := hW
  obtain ⟨p, q, hA0, hV, rfl, hfz, hnd⟩ := hW
  have hA : DataW.TrodAll enc Tryd.prog W 0 (fun _ => true) true Tryd.f6.params.toList args.toList ds p := hA0
  rw [Tryd.params6] at hA hval
  obtain ⟨v0, d0, rfl, rfl, h0⟩ := trodAll_one hA
  obtain ⟨t, rfl, rfl, rfl, hwt⟩ := open_int Tryd.underlying3 (hval 0 3 v0 rfl rfl) h0
  obtain ⟨rfl, rfl⟩ := trodVars_none hV
  obtain ⟨ad, tn, hR⟩ := back_of_laid hL
  have e1 : Rows.arcBackSpec.fn H ([.lit (.int .i64 t)] ++ []) = { results := [.lit (.bool true)], args := [.lit (.int .i64 t)] } := by simp [Rows.arcBackSpec]
  have walk : Calls Tryd.prog 6 #[.int .i64 t] W fun e w' => e = .returned (.bool true) ∧ Below W.heap.size W w' := by
    rcases (show (t < -3599999999000000 ∨ 3599999999000000 < t) ∨ (-3599999999000000 ≤ t ∧ t ≤ 3599999999000000) by omega) with h | h
    · exact back_none t tn hR h
    · exact back_some t tn hR h.1 h.2
  refine walk.mono fun e W' ⟨he, hb⟩ => ?_
  subst he
  refine ⟨_, rfl, _, _, _, [], [], [], hW', ?_, ?_, ?_, hb.frame _, fun h => by cases h⟩
  · rw [e1]; exact trodAll_mk1 (shut_bool Tryd.underlying4 true)
  · rw [e1]; exact trodAll_mk1 (shut_int Tryd.underlying3 hwt)
  · rw [e1]; rfl

theorem back_holds : Rows.ArcBackSaid :=
  OpenClaim.holds_of_wide 6 Tryd.f6 rfl rfl rfl rfl rfl rfl rfl ⟨rfl, rfl, rfl, rfl, rfl⟩ rfl rfl rfl rfl rfl (by kernel_rfl) Tryd.func6 (by kernel_rfl)
    (of_decide_eq_true (by kernel_rfl)) (by unfold Func.isWrapper; first | (rw [if_pos (by decide +kernel)]; kernel_rfl) | (rw [if_neg (by decide +kernel)]; exact ⟨rfl, rfl⟩))
    (fun os started H enc _ => back_lifted os started H enc)

theorem back_card : Rows.ArcBackCardSaid :=
  Claim7.holds_tied_plain_at .later [] Rows.arcBackCard.laidKinds true Rows.arcBackCard.stood.harness true
    back_holds (fun _ h => by cases h) (by kernel_rfl) (fun _ h => by cases h) arcBack_row_tie rfl ⟨rfl, rfl⟩ (by kernel_rfl) rfl
    (fun f fn hf hfn => by
      obtain rfl : f = 6 := Option.some.inj ((show Tryd.prog.funcNamed Rows.arcBackRow.func = some 6 by kernel_rfl).symm.trans hf) |>.symm
      obtain rfl : fn = Tryd.f6 := (Option.some.inj (Tryd.func6.symm.trans hfn)).symm
      exact ⟨by kernel_rfl, fun j t ht => by
        rw [Tryd.params6] at ht
        have hm : t ∈ [3] := by simpa using Array.mem_of_getElem? ht
        have hall : ([3].all fun u => !Tryd.prog.wantsStandIn u) = true := by kernel_rfl
        exact (show Tryd.prog.wantsStandIn t = false by simpa using List.all_eq_true.1 hall t hm)⟩)
    (by kernel_rfl)
#print axioms back_card
end Go.Proofs.YtfifbcoedfdnjabDoor
