/-
  Along and against a chain: every chain.
-/
import Derived.Test.YtbjpkfmencaafafDoorDAgainst2
namespace Go.Proofs.YtbjpkfmencaafafDoor
open Go Go.RowKit

set_option maxRecDepth 100000 in
set_option maxHeartbeats 16000000 in
theorem along_nil (x y z : Nat) (w : World) :
    Calls Tryd.prog 6 #[.slice none 0 0, .agg #[.float .f64 x, .float .f64 y, .float .f64 z]] w fun e w' => e = .returned (.tuple #[.agg #[.float .f64 x, .float .f64 y, .float .f64 z], .nilIface]) ∧ Below w.heap.size w w' := by
  have hsf := run_store_float Tryd.prog
  go_enter Tryd.func6, Tryd.ntmps6
  go_wp2_with fail
  refine (valid_nil _).mono ?_
  rintro e w1 ⟨rfl, rfl⟩
  go_wp2
  go_loopw [17] (fun kv wl => kv = .int .i64 0 ∧ wl = ((w.alloc (.cells #[.float .f64 x, .float .f64 y, .float .f64 z] 25)).alloc (.cells #[.float .f64 0, .float .f64 0, .float .f64 0] 25))) (fun _ _ => 1)
  case atStart => exact ⟨rfl, rfl⟩
  case round =>
    obtain ⟨rfl, rfl⟩ := hrel
    go_wp2
    simp [bodyPost, results, Tryd.results6, go_sem]
    first
      | exact below_al2 w _ _
      | exact below_three (below_al2 w _ _) (show w.heap.size ≤ w.heap.size + 1 by omega) _ _ _
theorem along_steps {a : Nat → Addr} {sv : Value} {L : List St} (x y z : Nat) (w : World) (hS : Sents w a) (hI : Steps3 w.heap.size w sv L) (hl : L.length ≤ 200) :
    Calls Tryd.prog 6 #[sv, .agg #[.float .f64 x, .float .f64 y, .float .f64 z]] w fun e w' => AlongIs a L ⟨x, y, z⟩ e ∧ Below w.heap.size w w' := by
  cases hI with
  | nil =>
    refine (along_nil x y z w).mono ?_
    rintro e w' ⟨rfl, k⟩
    exact ⟨.inl ⟨⟨x, y, z⟩, fun j hj => absurd hj (by simp), .zero, rfl⟩, k⟩
  | row h1 h2 => exact along_row _ _ _ L x y z w hS h2 hl h1
set_option maxRecDepth 100000 in
set_option maxHeartbeats 16000000 in
theorem against_bad {a : Nat → Addr} (L : List St) (sv : Value) (x y z : Nat) (w : World) (hS : Sents w a) (hI : Steps3 w.heap.size w sv L) (hl : L.length ≤ 200) (hg : ∃ j, j < L.length ∧ ¬ (L.getD j st0).good) :
    Calls Tryd.prog 7 #[sv, .agg #[.float .f64 x, .float .f64 y, .float .f64 z]] w fun e w' => e = .returned (.tuple #[zeroV, shapeErr a]) ∧ Below w.heap.size w w' := by
  have hsf := run_store_float Tryd.prog
  have hb2 := below_al2 w (.cells #[.float .f64 x, .float .f64 y, .float .f64 z] 25) (.cells #[.float .f64 0, .float .f64 0, .float .f64 0] 25)
  have HV := hideR (valid_bad (hI.below hb2 (Nat.le_refl _)) hb2.size (hS.below hb2 (Nat.le_refl _)) hl hg)
  obtain ⟨ad, cap, rfl⟩ := steps_form hI
  clear hS hI hg hb2
  unfold shapeErr at HV
  unfold shapeErr zeroV
  go_enter Tryd.func7, Tryd.ntmps7
  go_wp2_with fail
  refine (unhideR HV).mono ?_
  rintro e w1 ⟨rfl, k1⟩
  obtain ⟨h0, h1, hB1⟩ := two_blocks k1
  have HW := hideR hB1
  obtain ⟨⟨d0, d1, d2⟩, f0, f1, f2⟩ := three_at h1
  clear k1 h0 h1 hB1 HV
  go_wp2
  simp [bodyPost, results, Tryd.results7, go_sem, d0, d1, d2]
  exact below_three (unhideR HW) (by omega) _ _ _
theorem against_steps {a : Nat → Addr} {sv : Value} {L : List St} (x y z : Nat) (w : World) (hS : Sents w a) (hI : Steps3 w.heap.size w sv L) (hl : L.length ≤ 200) :
    Calls Tryd.prog 7 #[sv, .agg #[.float .f64 x, .float .f64 y, .float .f64 z]] w fun e w' => AgainstIs a L ⟨x, y, z⟩ e ∧ Below w.heap.size w w' := by
  by_cases hg : ∀ j, j < L.length → (L.getD j st0).good
  · refine (against_good L sv x y z w hS hI hl hg).mono ?_
    rintro e w' ⟨⟨q, h1, h2⟩, k⟩
    exact ⟨.inl ⟨q, hg, h1, h2⟩, k⟩
  · have hb : ∃ j, j < L.length ∧ ¬ (L.getD j st0).good := by
      apply Classical.byContradiction
      intro hn
      exact hg fun j hj => Classical.byContradiction fun hk => hn ⟨j, hj, hk⟩
    refine (against_bad L sv x y z w hS hI hl hb).mono ?_
    rintro e w' ⟨h, k⟩
    exact ⟨.inr ⟨hb, h⟩, k⟩
end Go.Proofs.YtbjpkfmencaafafDoor
