/-
  The law ArcNorms: its walk out of the contracts, and its row.
-/
import Derived.Test.YtfifbcoedfdnjabSgd
import Derived.Test.YtfifbcoedfdnjabRows
import Derived.OpenShut
namespace Go.Proofs.Ytfifbcoedfdnjab
open Go.ChangeShapes Go.WideShapes Go.ChangeAt Go.RowKit

theorem apart_any (a b : Int) (w : World) :
    Calls Try.prog 7 #[.int .i64 a, .int .i64 b] w fun e w' => e = .returned (.int .i64 (apt a b)) ∧ w' = w := by
  obtain ⟨d1, d2⟩ := sgd_range (nrm a - nrm b)
  go_enter Try.func7, Try.ntmps7
  go_wp2_with (first
    | (go_at_call 14; refine (difference_any _ _ _).mono ?_; rintro e w' ⟨rfl, rfl⟩)
    | (go_at_call 13; refine (size_any _ _ (by omega) (by omega)).mono ?_; rintro e w' ⟨rfl, rfl⟩))
  go_ret
  exact ⟨rfl, rfl⟩

theorem apt_eq (a b : Int) : apt a b = if 1296000000000 - nrm (nrm a - nrm b) < nrm (nrm a - nrm b) then 1296000000000 - nrm (nrm a - nrm b) else nrm (nrm a - nrm b) := by
  unfold apt far sgd
  have := nrm_range (nrm a - nrm b)
  generalize nrm (nrm a - nrm b) = d at *
  by_cases h : 648000000000 < d
  · rw [if_pos h, if_pos (by omega), if_pos (by omega)]; omega
  · rw [if_neg h, if_neg (by omega), if_neg (by omega)]
theorem apt_comm (a b : Int) : apt b a = apt a b := by
  unfold apt far sgd
  have h1 := nrm_range a
  have h2 := nrm_range b
  generalize nrm a = x at *
  generalize nrm b = y at *
  have e : nrm (y - x) = if nrm (x - y) = 0 then 0 else 1296000000000 - nrm (x - y) := by unfold nrm; split <;> omega
  have := nrm_range (x - y)
  rw [e]
  generalize nrm (x - y) = d at *
  by_cases h0 : d = 0
  · subst h0; rfl
  · rw [if_neg h0]
    by_cases h : 648000000000 < d
    · rw [if_pos h, if_neg (by omega), if_neg (by omega), if_pos (by omega)]; omega
    · rw [if_neg h]
      by_cases h' : d = 648000000000
      · subst h'; rfl
      · rw [if_pos (by omega), if_pos (by omega), if_neg (by omega)]; omega

theorem apartOf_any (a b : Int) (w : World) :
    Calls Try.prog 10 #[.int .i64 a, .int .i64 b] w fun e w' => e = .returned (.int .i64 (apt a b)) ∧ w' = w := by
  rw [apt_eq]
  obtain ⟨a1, a2⟩ := nrm_range a
  obtain ⟨b1, b2⟩ := nrm_range b
  obtain ⟨d1, d2⟩ := nrm_range (nrm a - nrm b)
  by_cases h : 1296000000000 - nrm (nrm a - nrm b) < nrm (nrm a - nrm b)
  · rw [if_pos h]
    go_enter Try.func10, Try.ntmps10
    go_wp2_with (go_at_call 8; refine (normOf_any _ _).mono ?_; rintro e w' ⟨rfl, rfl⟩)
    go_ret
    exact ⟨rfl, rfl⟩
  · rw [if_neg h]
    go_enter Try.func10, Try.ntmps10
    go_wp2_with (go_at_call 8; refine (normOf_any _ _).mono ?_; rintro e w' ⟨rfl, rfl⟩)
    go_ret
    exact ⟨rfl, rfl⟩

theorem norms_walk (a b : Int) (w : World) :
    Calls Try.prog 3 #[.int .i64 a, .int .i64 b] w fun e w' => e = .returned (.bool true) ∧ Grown w w' := by
  have s0 : sgd 1295999999995 = -5 := by decide
  have n0 : nrm (-5) = 1295999999995 := by decide
  have hc := apt_comm a b
  go_enter Try.func3, Try.ntmps3
  go_wp2_with (first
    | (go_at_call 6; refine (norm_any _ _).mono ?_; rintro e w' ⟨rfl, rfl⟩)
    | (go_at_call 5; refine (signed_any _ _).mono ?_; rintro e w' ⟨rfl, rfl⟩)
    | (go_at_call 7; refine (apart_any _ _ _).mono ?_; rintro e w' ⟨rfl, rfl⟩)
    | (go_at_call 8; refine (normOf_any _ _).mono ?_; rintro e w' ⟨rfl, rfl⟩)
    | (go_at_call 9; refine (signedOf_any _ _).mono ?_; rintro e w' ⟨rfl, rfl⟩)
    | (go_at_call 10; refine (apartOf_any _ _ _).mono ?_; rintro e w' ⟨rfl, rfl⟩))
  go_ret
  exact ⟨rfl, Grown.refl _⟩

theorem own : ownKnob Try.prog.godebug = none := by kernel_rfl

set_option maxRecDepth 100000 in
theorem norms_lifted (os : Os) (started : os.Started) (H : Type) (enc : TypeId × Value → H) :
    ReturnsInHanded {} Try.checked os 3 .any (Rows.arcNormsSpec.pre6 enc Try.prog Try.f3 Rows.arcNormsRow.domain false) (Rows.arcNormsSpec.post enc Try.prog Try.f3 false true false false) := by
  refine returnsInHanded_of_change (C := Try.checked) own started (by kernel_rfl) Try.func3
    (ChangeSpec.witness6 (enc := enc) (C := Try.checked) false ⟨#[], #[.int .i64 0, .int .i64 0], []⟩ 8 (by kernel_rfl) (by kernel_rfl) (by kernel_rfl) (by kernel_rfl)) ?_
  intro W base args ds gs before hval0 hW _ _
  have hval : ∀ (j : Nat) t v, Try.f3.params[j]? = some t → args[j]? = some v → Value.okWide Try.prog W .any base t v := hval0
  have hW' := hW
  obtain ⟨p, q, hA0, hV, rfl, hfz, hnd⟩ := hW
  have hA : DataW.TrodAll enc Try.prog W 0 (fun _ => true) true Try.f3.params.toList args.toList ds p := hA0
  rw [Try.params3] at hA hval
  obtain ⟨v0, v1, d0, d1, p0, p1, rfl, rfl, rfl, h0, h1⟩ := trodAll_two hA
  obtain ⟨rfl, rfl⟩ := trodVars_none hV
  obtain ⟨a0, rfl, rfl, rfl, w0⟩ := open_int Try.underlying3 (hval 0 3 v0 rfl rfl) h0
  obtain ⟨a1, rfl, rfl, rfl, w1⟩ := open_int Try.underlying3 (hval 1 3 v1 rfl rfl) h1
  clear hA0 hval0
  simp only [List.append_nil] at hW'
  refine (norms_walk a0 a1 W).mono fun e W' ⟨he, hg⟩ => ?_
  subst he
  exact ⟨_, rfl, post_of_same (pa := []) (pv := []) hW' (fun _ _ _ => trodAll_mk1 (shut_bool Try.underlying4 _)) (fun sp _ => trodAll_mk2 (shut_int Try.underlying3 w0) (shut_int Try.underlying3 w1)) (fun _ _ => rfl) rfl
    (hg.frame _) hg.2.1 (ok_one (by kernel_rfl) rfl (okWide_bool_mk Try.underlying4 _))⟩

theorem norms_holds : Rows.ArcNormsSaid :=
  OpenClaim.holds_of_wide 3 Try.f3 rfl rfl rfl rfl rfl rfl rfl ⟨rfl, rfl, rfl, rfl, rfl⟩ rfl rfl rfl rfl rfl (by kernel_rfl) Try.func3 (by kernel_rfl)
    (of_decide_eq_true (by kernel_rfl)) (by unfold Func.isWrapper; first | (rw [if_pos (by decide +kernel)]; kernel_rfl) | (rw [if_neg (by decide +kernel)]; exact ⟨rfl, rfl⟩))
    (fun os started H enc _ => norms_lifted os started H enc)
#print axioms norms_holds
end Go.Proofs.Ytfifbcoedfdnjab
