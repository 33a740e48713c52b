/-
  The law ArcReads: what its row starts with.
-/
import Derived.Test.YtfifbcoedfdnjabDoorReadsLaw
import Derived.Test.YtfifbcoedfdnjabDoorLaid
import Derived.Test.YtfifbcoedfdnjabDoorCards
import Derived.Test.YtfifbcoedfdnjabDoorTie
import Derived.Stop.Joined
import Derived.Lib.LaidU8T
import Derived.PinnedBridge
import Derived.Lay
namespace Go.Proofs.YtfifbcoedfdnjabDoor
open Go.ChangeShapes Go.WideShapes Go.ChangeAt Go.RowKit Go.Lib

theorem u8types : U8Types Tryd.prog Tryd.lays197_ren := { Tryd.lays197 with }
theorem u8extra : U8Extra Tryd.prog Tryd.lays197_ren := ⟨by kernel_rfl, by kernel_rfl, by kernel_rfl, by kernel_rfl, by kernel_rfl, by kernel_rfl, by kernel_rfl⟩
theorem accept_eq : (Rows.laid_unicode_utf8_acceptRanges : DataW Unit) = acceptData := by kernel_rfl
theorem tabs_of {W : World} {l : List (String × DataW Unit)} {ps : List MemPlace} (hL : DataW.LaidVars Tryd.prog W l ps) (h1 : ("unicode/utf8.first", Rows.laid_unicode_utf8_first) ∈ l) (h2 : ("unicode/utf8.acceptRanges", Rows.laid_unicode_utf8_acceptRanges) ∈ l) : Utf8Tabs 13 14 W := by
  have r1 := LaidVars_reads hL _ _ h1
  have r2 := LaidVars_reads hL _ _ h2
  rw [show Rows.laid_unicode_utf8_first = firstData from Pinned.utf8First_eq] at r1
  rw [accept_eq] at r2
  exact utf8Tabs_of_readsT u8types u8extra r1 r2

theorem reads_of_laid {W : World} (h : laidMetH Tryd.prog Rows.arcReadsRow.laid W) : ∃ a, Sents W a ∧ Reads (a 0) W := by
  have h' : laidMet Tryd.prog ([("unicode/utf8.acceptRanges", Rows.laid_unicode_utf8_acceptRanges)] ++ (errs10 ++ [("unicode/utf8.first", Rows.laid_unicode_utf8_first)])) W ∧ handlesMet Tryd.prog [("errors.errorType", Rows.laid_errors_errorType)] W := h
  obtain ⟨⟨ps, hL, hnd, hrows⟩, hH⟩ := h'
  have tb := tabs_of hL (by simp) (by simp)
  obtain ⟨p1, q1, _, h2, rfl⟩ := laid_split _ _ _ hL
  obtain ⟨p2, q2, h3, _, rfl⟩ := laid_split _ _ _ h2
  have hnd2 : p2.Nodup := List.Nodup.sublist ((List.sublist_append_left p2 q2).trans (List.sublist_append_right p1 _)) hnd
  obtain ⟨a, hS⟩ := sents_of_core h3 hnd2 (fun b off hm => hrows b off (List.mem_append_right _ (List.mem_append_left _ hm))) hH
  exact ⟨a, hS, ⟨tb, in_heap (tb.2 0 (by omega)).1, hS.g0⟩⟩

/-- the start that fits: what the program's text lays, and the pinned table. -/
noncomputable def readsStart (os : Os) : World := (World.doorLaid Tryd.prog 231 os).layVars Tryd.prog ((Rows.arcReadsRow.laid.filter fun x => x.2.handleName?.isNone).filter fun x => ["unicode/utf8.first"].contains x.1)
noncomputable def readsB (os : Os) : List Nat := (List.range (World.doorLaid Tryd.prog 231 os).heap.size).filter fun x => x != 13

set_option maxRecDepth 100000 in
theorem reads_fits (os : Os) : (World.doorLaid Tryd.prog 231 os).layFits Tryd.prog ((Rows.arcReadsRow.laid.filter fun x => x.2.handleName?.isNone).filter fun x => ["unicode/utf8.first"].contains x.1) (readsB os) = true := by kernel_rfl

theorem reads_door (os : Os) (args : Array Value) : laidMetH Tryd.prog Rows.arcReadsRow.laid ((readsStart os).forCall (fun _ _ => 0) ⟨#[], args, []⟩).memory :=
  laidMetH_of_parts3 (fuel := 8)
    (laidMet_layVars (w0 := World.doorLaid Tryd.prog 231 os) ["unicode/utf8.first"] (readsB os) (by simp [World.memory, World.forCall, Input.heap, readsStart]) (reads_fits os) (by kernel_rfl)
      (LaidIn.of_run (readsB os) 8 (by kernel_rfl) (by kernel_rfl) (by kernel_rfl) (by kernel_rfl)))
    (by kernel_rfl) (by kernel_rfl)
end Go.Proofs.YtfifbcoedfdnjabDoor
