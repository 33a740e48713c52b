/-
  The law EventWindows: its row, and the tied card.
-/
import Derived.Test.YtlhjmmcimhceeahDoorEvWin
import Derived.Test.YtlhjmmcimhceeahDoorEvArg
import Derived.Test.YtlhjmmcimhceeahDoorDE12
import Derived.Test.YtlhjmmcimhceeahDoorLaid
import Derived.Test.YtlhjmmcimhceeahDoorCards
import Derived.Test.YtlhjmmcimhceeahDoorTie
import Derived.ProofKit
import Derived.Stop.Joined
import Derived.OpenShut
import Derived.ChangeSlices
import Derived.Carry
namespace Go.Proofs.YtlhjmmcimhceeahDoor
open Go Go.ChangeShapes Go.WideShapes Go.ChangeAt Go.RowKit

section
variable {H : Type} {enc : TypeId × Value → H} {w : World} {base : Nat} {spare : Nat → Bool} {held : Bool}
set_option maxRecDepth 100000 in
theorem ints_came {r : Reach} {b0 : Nat} {v : Value} {d : DataW H} {ps : List MemPlace} (hval : Value.okWide Tryd.prog w r b0 23 v) (hd : DataW.Trod enc Tryd.prog w base spare held 23 v d ps)
    (hw : (d.weights Tryd.prog 23).all (· ≤ reachBytes) = true) : ∃ (ad : Option Addr) (c : Nat) (L : List Int), v = .slice ad L.length c ∧ IntArg w ad c L ∧ L.length * 8 ≤ 140737488355328 := by
  obtain ⟨a0, len, cap, rfl⟩ := okWide_slice Tryd.underlying23 hval
  obtain ⟨fuel, h⟩ := hd
  rcases DataW.trod_slice Tryd.underlying23 h with ⟨h0, _⟩ | ⟨a, len', cap', elems, rest, n, _, hcs, hx, hb, hl, hm, hlen, hel, _, _⟩
  · simp [Value.cells] at h0
    obtain ⟨rfl, rfl, rfl⟩ := h0
    exact ⟨none, 0, [], rfl, .inl ⟨rfl, rfl, rfl⟩, by simp⟩
  · simp [Value.cells] at hcs
    obtain ⟨rfl, rfl, rfl⟩ := hcs
    have each : ∀ i, i < len → ∃ s : Int, ∃ b off, a = ⟨b, off, none⟩ ∧ w.cell? ⟨b, off + i, none⟩ = some (.int .i64 s) := by
      intro i hi
      have h1 := hel i hi
      have h2 : elems[i]? = some (elems[i]'(by omega)) := by simp
      rw [h2, cellsI, Option.bind_eq_some_iff] at h1
      obtain ⟨cs', hcs, hy'⟩ := h1
      obtain ⟨s, rfl⟩ := int_of_trod Tryd.underlying3 hy'
      obtain ⟨_, _, hcell⟩ := World.cells?_some hcs
      have h1' := hel 0 (by omega)
      have h2' : elems[0]? = some (elems[0]'(by omega)) := by simp
      rw [h2', cellsI, Option.bind_eq_some_iff] at h1'
      obtain ⟨cs2, hcs2, hy2⟩ := h1'
      obtain ⟨s2, rfl⟩ := int_of_trod Tryd.underlying3 hy2
      obtain ⟨_, _, hcell2⟩ := World.cells?_some hcs2
      obtain ⟨b, off, spot⟩ := a
      have hspot : spot = none := by
        have q : w.cell? (((⟨b, off, spot⟩ : Addr).add (0 * 1)).add 0) = some (.int .i64 s2) := hcell2 0 (by omega)
        have := World.cell?_spot q
        simpa [Addr.add] using this
      subst hspot
      rw [add_pl2] at hcell
      refine ⟨s, b, off, rfl, ?_⟩
      have := hcell 0 (by omega)
      rw [add_pl2] at this
      rw [show off + i * 1 + 0 = off + i by omega] at this
      exact this
    refine ⟨some a, cap, (List.range len).map fun i => if h : i < len then Classical.choose (each i h) else 0, ?_, .inr ⟨a, rfl, ⟨fun k hk => ?_⟩⟩, ?_⟩
    · simp
    · have hk2 : k < len := by simpa using hk
      have e : ((List.range len).map fun i => if h : i < len then Classical.choose (each i h) else 0).getD k 0 = Classical.choose (each k hk2) := by
        simp [List.getD, hk2]
      rw [e]
      obtain ⟨b, off, e1, hat⟩ := Classical.choose_spec (each k hk2)
      exact ⟨b, off, by rw [e1], lt_of_cell hat, hat⟩
    · rw [Prod.mk.injEq] at hx
      rw [hx.1] at hw
      simp only [DataW.weights, Tryd.underlying23, bytesI, List.all_cons, Bool.and_eq_true, decide_eq_true_eq, List.length_map] at hw
      have hq := hw.1
      unfold reachBytes at hq
      simp only [List.length_map, List.length_range]
      omega
end
theorem laidOut : laidOutB Tryd.prog = true := by kernel_rfl
theorem door_met (os : Os) (args : Array Value) : laidMetH Tryd.prog Rows.eventWindowsRow.laid ((World.doorLaid Tryd.prog 206 os).forCall (fun _ _ => 0) ⟨#[], args, []⟩).memory :=
  laidMetH_of_parts3 (fuel := 8) (laidMet_of_run' 8 (by kernel_rfl) (by kernel_rfl)) (by kernel_rfl) (by kernel_rfl)
set_option maxRecDepth 100000 in
theorem law_lifted (os : Os) (started : os.Started) (H : Type) (enc : TypeId × Value → H) :
    ReturnsInHanded {} Tryd.checked os 3 .any (fun w args => (Rows.eventWindowsSpec.pre enc Tryd.prog Tryd.f3 [] false w args ∧ laidMetH Tryd.prog Rows.eventWindowsRow.laid w) ∧ sizedMet enc Tryd.prog Tryd.f3 (OpenSpec.ofChange Rows.eventWindowsSpec) false w args)
      (Rows.eventWindowsSpec.post enc Tryd.prog Tryd.f3 false true false false) := by
  refine returnsInHanded_of_change_and (C := Tryd.checked) (X := fun w _ => laidMetH Tryd.prog Rows.eventWindowsRow.laid w) (fun _ _ _ hh h => h.of_heap hh) own started (by kernel_rfl) Tryd.func3
    (ChangeSpec.witness_shaped (enc := enc) (C := Tryd.checked) (os := os) (X := fun w _ => laidMetH Tryd.prog Rows.eventWindowsRow.laid w) false (World.doorLaid Tryd.prog 206 os) #[.pointer none, .int .i64 0, .slice none 0 0] 8 rfl (World.shaped_of_RefB (by kernel_rfl) (by kernel_rfl)) (by kernel_rfl) (by kernel_rfl) (by kernel_rfl) (door_met os _)) ?_
  intro W base args ds gs before hval0 hW _ hwt hL _
  have hval : ∀ (j : Nat) t v, Tryd.f3.params[j]? = some t → args[j]? = some v → Value.okWide Tryd.prog W .any base t v := hval0
  have hW' := hW
  obtain ⟨p, q, hA0, hV, rfl, hfz, hnd⟩ := hW
  have hA : DataW.TrodAll enc Tryd.prog W 0 (fun _ => true) true Tryd.f3.params.toList args.toList ds p := hA0
  rw [Tryd.params3] at hA hval
  obtain ⟨v0, v1, v2, d0, d1, d2, p0, p1, p2, rfl, rfl, rfl, h0, h1, h2⟩ := trodAll_three hA
  obtain ⟨rfl, rfl⟩ := trodVars_none hV
  obtain ⟨lev, rfl⟩ := okWide_int Tryd.underlying3 (hval 1 3 v1 rfl rfl)
  obtain ⟨sa, hS⟩ := sents_of_laid hL
  rw [Tryd.params3] at hwt
  simp only [List.append_nil, DataW.weightsEach, List.cons_append, List.nil_append, List.all_append, Bool.and_eq_true] at hwt
  obtain ⟨o, hto⟩ : ∃ o, TrArg W v0 o := track_came (hval 0 22 v0 rfl rfl) h0 hwt.1
  obtain ⟨adl, capl, Ll, rfl, hI, hLl⟩ := ints_came (hval 2 23 v2 rfl rfl) h2 hwt.2.2.1
  clear hA0 hval0
  simp only [List.append_nil] at hW'
  have hlt : ∀ x ∈ (p0 ++ p1 ++ p2), x.block < W.heap.size := fun x hx => hW'.lt x hx
  have e1 : Rows.eventWindowsSpec.fn H ([d0, d1, d2] ++ []) = { results := [.lit (.bool true)], args := [d0, d1, d2] } := by simp [Rows.eventWindowsSpec]
  refine (windows_walk (events_ok sa) (win_ok sa) adl capl Ll lev W hS hto hI hLl).mono fun e W' ⟨he, hb⟩ => ?_
  subst he
  refine ⟨_, rfl, _, _, _, [], (p0 ++ p1 ++ p2), [], hW', ?_, ?_, ?_, hb.frame _, fun h => by cases h⟩
  · rw [e1]; exact trodAll_mk1 (shut_bool Tryd.underlying4 true)
  · rw [e1, List.append_assoc]; exact trodAll_mk3 (Below.trod laidOut (by kernel_rfl) (by decide +kernel) h0 hb fun x hx => hlt x (List.mem_append_left _ (List.mem_append_left _ hx))) (Below.trod laidOut (by kernel_rfl) (by decide +kernel) h1 hb fun x hx => hlt x (List.mem_append_left _ (List.mem_append_right _ hx))) (Below.trod laidOut (by kernel_rfl) (by decide +kernel) h2 hb fun x hx => hlt x (List.mem_append_right _ hx))
  · rw [e1]; rfl
theorem law_holds : Rows.EventWindowsSaid :=
  OpenClaim.holds_of_wide 3 Tryd.f3 rfl rfl rfl rfl rfl rfl rfl ⟨rfl, rfl, rfl, rfl, rfl⟩ rfl rfl rfl rfl rfl (by kernel_rfl) Tryd.func3 (by kernel_rfl)
    (of_decide_eq_true (by kernel_rfl)) (by unfold Func.isWrapper; first | (rw [if_pos (by decide +kernel)]; kernel_rfl) | (rw [if_neg (by decide +kernel)]; exact ⟨rfl, rfl⟩))
    (fun os started H enc _ => law_lifted os started H enc)
theorem law_card : Rows.EventWindowsCardSaid :=
  Claim7.holds_tied_plain_at .later [] Rows.eventWindowsCard.laidKinds true Rows.eventWindowsCard.stood.harness true
    law_holds (fun _ h => by cases h) (by kernel_rfl) (fun _ h => by cases h) eventWindows_row_tie rfl ⟨rfl, rfl⟩ (by kernel_rfl) rfl
    (fun f fn hf hfn => by
      obtain rfl : f = 3 := Option.some.inj ((show Tryd.prog.funcNamed Rows.eventWindowsRow.func = some 3 by kernel_rfl).symm.trans hf) |>.symm
      obtain rfl : fn = Tryd.f3 := (Option.some.inj (Tryd.func3.symm.trans hfn)).symm
      exact ⟨by kernel_rfl, fun j t ht => by
        rw [Tryd.params3] at ht
        have hm : t ∈ [22, 3, 23] := by simpa using Array.mem_of_getElem? ht
        have hall : ([22, 3, 23].all fun u => !Tryd.prog.wantsStandIn u) = true := by kernel_rfl
        exact (show Tryd.prog.wantsStandIn t = false by simpa using List.all_eq_true.1 hall t hm)⟩)
    (by kernel_rfl)
#print axioms law_card
end Go.Proofs.YtlhjmmcimhceeahDoor
