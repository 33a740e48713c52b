/-
  The law BitsAngles: its walk out of the contracts, and its row.
-/
import Derived.Test.YtekbhjacgdncbadDAng
import Derived.Test.YtekbhjacgdncbadFloatArg
import Derived.Test.YtekbhjacgdncbadRows
import Derived.OpenShut
import Derived.ChangeSlices
import Derived.Carry
namespace Go.Proofs.Ytekbhjacgdncbad
open Go.ChangeShapes Go.WideShapes Go.ChangeAt Go.RowKit

theorem angles_walk (y x : Nat) (w : World) (hy : y < 18446744073709551616) (hx : x < 18446744073709551616) :
    Calls Try.prog 3 #[.float .f64 y, .float .f64 x] w fun e w' => e = .returned (.bool true) ∧ Below w.heap.size w w' := by
  have h1 : angV 4607182418800017408 4607182418800017408 = 161999999999 ∧ hasV 4607182418800017408 4607182418800017408 = true := by decide +kernel
  have hc0 := fun v => angle_any 4607182418800017408 4607182418800017408 v (by omega) (by omega)
  rw [h1.1, h1.2] at hc0
  clear h1
  have hc := fun v => angle_any y x v hy hx
  have hr := fun v => angleOf_any y x v
  generalize angV y x = A at *
  generalize hasV y x = B at *
  go_enter Try.func3, Try.ntmps3
  go_wp2_with fail
  refine (hc0 _).mono ?_
  rintro e w1 ⟨rfl, b1⟩
  have B1 := hideF b1
  clear b1
  go_wp2_with fail
  refine (hc _).mono ?_
  rintro e w2 ⟨rfl, b2⟩
  have B2 := hideF ((unhideF B1).trans (b2.mono (unhideF B1).size))
  clear b2 B1
  go_wp2_with fail
  refine (hr _).mono ?_
  rintro e w3 ⟨rfl, b3⟩
  have B3 := hideF ((unhideF B2).trans (b3.mono (unhideF B2).size))
  clear b3 B2
  cases B
  all_goals
    go_wp2
    go_ret
    exact ⟨rfl, unhideF B3⟩

theorem own : ownKnob Try.prog.godebug = none := by kernel_rfl
theorem laidOut : laidOutB Try.prog = true := by kernel_rfl

set_option maxRecDepth 100000 in
theorem angles_lifted (os : Os) (started : os.Started) (H : Type) (enc : TypeId × Value → H) :
    ReturnsInHanded {} Try.checked os 3 .any (Rows.bitsAnglesSpec.pre6 enc Try.prog Try.f3 Rows.bitsAnglesRow.domain false) (Rows.bitsAnglesSpec.post enc Try.prog Try.f3 false true false false) := by
  refine returnsInHanded_of_change (C := Try.checked) own started (by kernel_rfl) Try.func3
    (ChangeSpec.witness6 (enc := enc) (C := Try.checked) false ⟨#[], #[.float .f64 0, .float .f64 0], []⟩ 8 (by kernel_rfl) (by kernel_rfl) (by kernel_rfl) (by kernel_rfl)) ?_
  intro W base args ds gs before hval0 hW _ _
  have hval : ∀ (j : Nat) t v, Try.f3.params[j]? = some t → args[j]? = some v → Value.okWide Try.prog W .any base t v := hval0
  have hW' := hW
  obtain ⟨p, q, hA0, hV, rfl, hfz, hnd⟩ := hW
  have hA : DataW.TrodAll enc Try.prog W 0 (fun _ => true) true Try.f3.params.toList args.toList ds p := hA0
  rw [Try.params3] at hA hval
  obtain ⟨v0, v1, d0, d1, p0, p1, rfl, rfl, rfl, h0, h1⟩ := trodAll_two hA
  obtain ⟨rfl, rfl⟩ := trodVars_none hV
  obtain ⟨a0, rfl, b0⟩ := okWide_float Try.underlying22 (hval 0 22 v0 rfl rfl)
  obtain ⟨a1, rfl, b1⟩ := okWide_float Try.underlying22 (hval 1 22 v1 rfl rfl)
  clear hA0 hval0
  simp only [List.append_nil] at hW'
  have hlt : ∀ x ∈ (p0 ++ p1), x.block < W.heap.size := fun x hx => hW'.lt x hx
  have e1 : Rows.bitsAnglesSpec.fn H ([d0, d1] ++ []) = { results := [.lit (.bool true)], args := [d0, d1] } := by simp [Rows.bitsAnglesSpec]
  refine (angles_walk a0 a1 W b0 b1).mono fun e W' ⟨he, hb⟩ => ?_
  subst he
  refine ⟨_, rfl, _, _, _, [], (p0 ++ p1), [], hW', ?_, ?_, ?_, hb.frame _, fun h => by cases h⟩
  · rw [e1]; exact trodAll_mk1 (shut_bool Try.underlying4 true)
  · rw [e1]; exact trodAll_mk2 (Below.trod laidOut (by kernel_rfl) (by decide +kernel) h0 hb fun x hx => hlt x (List.mem_append_left _ hx)) (Below.trod laidOut (by kernel_rfl) (by decide +kernel) h1 hb fun x hx => hlt x (List.mem_append_right _ hx))
  · rw [e1]; rfl

theorem angles_holds : Rows.BitsAnglesSaid :=
  OpenClaim.holds_of_wide 3 Try.f3 rfl rfl rfl rfl rfl rfl rfl ⟨rfl, rfl, rfl, rfl, rfl⟩ rfl rfl rfl rfl rfl (by kernel_rfl) Try.func3 (by kernel_rfl)
    (of_decide_eq_true (by kernel_rfl)) (by unfold Func.isWrapper; first | (rw [if_pos (by decide +kernel)]; kernel_rfl) | (rw [if_neg (by decide +kernel)]; exact ⟨rfl, rfl⟩))
    (fun os started H enc _ => angles_lifted os started H enc)
#print axioms angles_holds
end Go.Proofs.Ytekbhjacgdncbad
