/-
  The law BitsSines: its walk out of the contracts, and its row.
-/
import Derived.Test.YtekbhjacgdncbacDSin
import Derived.Test.YtekbhjacgdncbacBits1
import Derived.Test.YtekbhjacgdncbacFloatArg
import Derived.Test.YtekbhjacgdncbacRows
import Derived.OpenShut
import Derived.ChangeSlices
import Derived.Carry
namespace Go.Proofs.Ytekbhjacgdncbac
open Go.ChangeShapes Go.WideShapes Go.ChangeAt Go.RowKit

theorem sameB_self (x : Nat) : sameB x x = true := same_iff.2 (.refl x)
theorem sines_walk (a : Int) (w : World) :
    Calls Try.prog 5 #[.int .i64 a] w fun e w' => e = .returned (.bool true) ∧ Below w.heap.size w w' := by
  have h0 : cosV 0 = 4607182418800017408 := by decide +kernel
  have ho1 : FloatKind.f64.format.order 4607182418800017408 4607182418800017408 = some .eq := by decide +kernel
  have hc0 := fun v => cos_any 0 v
  rw [h0] at hc0
  have hs := fun v => sin_any a v
  have hc := fun v => cos_any a v
  have hr := fun v => sinCos_is a v
  have hb := fun x v => sameBits_any x x v
  simp only [sameB_self] at hb
  generalize sinV a = s at *
  generalize cosV a = c at *
  go_enter Try.func5, Try.ntmps5
  go_wp2_with fail
  refine (hc0 _).mono ?_
  rintro e w1 ⟨rfl, b1⟩
  have B1 := hideF b1
  clear b1
  go_wp2_with fail
  refine (hr _).mono ?_
  rintro e w2 ⟨rfl, b2⟩
  have B2 := hideF ((unhideF B1).trans (b2.mono (unhideF B1).size))
  clear b2 B1
  go_wp2_with fail
  refine (hs _).mono ?_
  rintro e w3 ⟨rfl, b3⟩
  have B3 := hideF ((unhideF B2).trans (b3.mono (unhideF B2).size))
  clear b3 B2
  go_wp2_with fail
  refine (hb _ _).mono ?_
  rintro e w4 ⟨rfl, rfl⟩
  go_wp2_with fail
  refine (hc _).mono ?_
  rintro e w5 ⟨rfl, b5⟩
  have B5 := hideF ((unhideF B3).trans (b5.mono (unhideF B3).size))
  clear b5 B3
  go_wp2_with fail
  refine (hb _ _).mono ?_
  rintro e w6 ⟨rfl, rfl⟩
  go_wp2
  go_ret
  exact ⟨rfl, unhideF B5⟩

theorem own : ownKnob Try.prog.godebug = none := by kernel_rfl
theorem laidOut : laidOutB Try.prog = true := by kernel_rfl

set_option maxRecDepth 100000 in
theorem sines_lifted (os : Os) (started : os.Started) (H : Type) (enc : TypeId × Value → H) :
    ReturnsInHanded {} Try.checked os 5 .any (Rows.bitsSinesSpec.pre6 enc Try.prog Try.f5 Rows.bitsSinesRow.domain false) (Rows.bitsSinesSpec.post enc Try.prog Try.f5 false true false false) := by
  refine returnsInHanded_of_change (C := Try.checked) own started (by kernel_rfl) Try.func5
    (ChangeSpec.witness6 (enc := enc) (C := Try.checked) false ⟨#[], #[.int .i64 0], []⟩ 8 (by kernel_rfl) (by kernel_rfl) (by kernel_rfl) (by kernel_rfl)) ?_
  intro W base args ds gs before hval0 hW _ _
  have hval : ∀ (j : Nat) t v, Try.f5.params[j]? = some t → args[j]? = some v → Value.okWide Try.prog W .any base t v := hval0
  have hW' := hW
  obtain ⟨p, q, hA0, hV, rfl, hfz, hnd⟩ := hW
  have hA : DataW.TrodAll enc Try.prog W 0 (fun _ => true) true Try.f5.params.toList args.toList ds p := hA0
  rw [Try.params5] at hA hval
  obtain ⟨v0, d0, rfl, rfl, h0⟩ := trodAll_one hA
  obtain ⟨rfl, rfl⟩ := trodVars_none hV
  obtain ⟨a0, rfl⟩ := okWide_int Try.underlying3 (hval 0 3 v0 rfl rfl)
  clear hA0 hval0
  simp only [List.append_nil] at hW'
  have hlt : ∀ x ∈ p, x.block < W.heap.size := fun x hx => hW'.lt x hx
  have e1 : Rows.bitsSinesSpec.fn H ([d0] ++ []) = { results := [.lit (.bool true)], args := [d0] } := by simp [Rows.bitsSinesSpec]
  refine (sines_walk a0 W).mono fun e W' ⟨he, hb⟩ => ?_
  subst he
  refine ⟨_, rfl, _, _, _, [], p, [], hW', ?_, ?_, ?_, hb.frame _, fun h => by cases h⟩
  · rw [e1]; exact trodAll_mk1 (shut_bool Try.underlying4 true)
  · rw [e1]; exact trodAll_mk1 (Below.trod laidOut (by kernel_rfl) (by decide +kernel) h0 hb hlt)
  · rw [e1]; rfl

theorem sines_holds : Rows.BitsSinesSaid :=
  OpenClaim.holds_of_wide 5 Try.f5 rfl rfl rfl rfl rfl rfl rfl ⟨rfl, rfl, rfl, rfl, rfl⟩ rfl rfl rfl rfl rfl (by kernel_rfl) Try.func5 (by kernel_rfl)
    (of_decide_eq_true (by kernel_rfl)) (by unfold Func.isWrapper; first | (rw [if_pos (by decide +kernel)]; kernel_rfl) | (rw [if_neg (by decide +kernel)]; exact ⟨rfl, rfl⟩))
    (fun os started H enc _ => sines_lifted os started H enc)
#print axioms sines_holds
end Go.Proofs.Ytekbhjacgdncbac
