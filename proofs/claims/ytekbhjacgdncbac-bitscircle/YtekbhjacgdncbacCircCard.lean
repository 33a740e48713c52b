/-
  The law BitsCircle: its walk out of the contracts, and its row.
-/
import Derived.Test.YtekbhjacgdncbacDSin
import Derived.Test.YtekbhjacgdncbacCirc
import Derived.Test.YtekbhjacgdncbacBits1
import Derived.Test.YtekbhjacgdncbacFloatArg
import Derived.Test.YtekbhjacgdncbacRows
import Derived.OpenShut
import Derived.ChangeSlices
import Derived.Carry
namespace Go.Proofs.Ytekbhjacgdncbac
open Go.ChangeShapes Go.WideShapes Go.ChangeAt Go.RowKit

theorem sin_num (a : Int) : nanB (ngB (sinV a)) = false := by
  have hr := rOf_range a
  obtain ⟨_, _, _, _, h1, h2, _⟩ := point (rOf a) (by omega) hr.1 (ev_evl (sE (rOf a))) (ev_evl (cE (rOf a)))
  have key : ∀ {x : Nat} {v : Rat}, Is x v → nanB x = false := fun h => by
    obtain ⟨s, m, i, e, _⟩ := is_number h
    unfold nanB
    rw [e]
    rfl
  have e1 : sV (rOf a) = evl (sE (rOf a)) := rfl
  have e2 : cV (rOf a) = evl (cE (rOf a)) := rfl
  unfold sinV turnS
  rw [e1, e2]
  repeat' split
  · exact key (neg_is h1)
  · exact key (neg_is h2)
  · rw [neg_neg]; exact key h1
  · rw [neg_neg]; exact key h2
theorem circ_walk (a : Int) (w : World) :
    Calls Try.prog 6 #[.int .i64 a] w fun e w' => e = .returned (.bool true) ∧ Below w.heap.size w w' := by
  have hs := fun v => sin_any a v
  have hc := fun v => cos_any a v
  have hn := fun v => norm_any a v
  have hnr := nrm_range a
  have hk := fun r => circle_order a (r := r)
  have hq := fun v => cos_any (nrm a + 324000000000) v
  have hh := fun v => sin_any (nrm a + 648000000000) v
  rw [(turn_quarter a).1] at hq
  rw [(turn_quarter a).2] at hh
  have ho : (FloatKind.f64.format.order (ngB (sinV a)) (ngB (sinV a)) == some .eq) = true := by
    have h1 := order_self (ngB (sinV a))
    rw [sin_num a] at h1
    simpa using h1
  have hm := fun t x y v => run_fmul (P := Try.prog) t x y v
  have hp := fun t x y v => run_fadd (P := Try.prog) t x y v
  have ht := fun t x y v => run_fsub (P := Try.prog) t x y v
  have hneg : ∀ x v, (Op.unary UnOp.neg (.float .f64 x)).run Try.prog v = .ok (.float .f64 (ngB x)) v := fun _ _ => rfl
  generalize nrm a = n at *
  generalize sinV a = s at *
  generalize cosV a = c at *
  have HK := hideF hk
  clear hk
  go_enter Try.func6, Try.ntmps6
  go_wp2_with fail
  refine (hs _).mono ?_
  rintro e w1 ⟨rfl, b1⟩
  have B1 := hideF b1
  clear b1
  go_wp2_with fail
  refine (hc _).mono ?_
  rintro e w2 ⟨rfl, b2⟩
  have B2 := hideF ((unhideF B1).trans (b2.mono (unhideF B1).size))
  clear b2 B1
  go_wp2_with fail
  have hx := unhideF HK _ (.op (.op (.op (.num s) (.num s) (fnum_is .mul s s w2)) (.op (.num c) (.num c) (fnum_is .mul c c (w2.drewN (fdraw .mul s s)))) (fnum_is .add _ _ (w2.drewN (fdraw .mul s s + fdraw .mul c c)))) (.num _)
    (fnum_is .sub _ 4607182418800017408 (w2.drewN (fdraw .mul s s + fdraw .mul c c + fdraw .add (fnum .mul s s w2) (fnum .mul c c (w2.drewN (fdraw .mul s s)))))))
  generalize fnum .sub (fnum .add (fnum .mul s s w2) (fnum .mul c c (w2.drewN (fdraw .mul s s))) (w2.drewN (fdraw .mul s s + fdraw .mul c c))) 4607182418800017408
    (w2.drewN (fdraw .mul s s + fdraw .mul c c + fdraw .add (fnum .mul s s w2) (fnum .mul c c (w2.drewN (fdraw .mul s s))))) = x at *
  obtain ⟨x1, x2⟩ := hx
  refine (hn _).mono ?_
  rintro e w3 ⟨rfl, rfl⟩
  go_wp2_with fail
  refine (hq _).mono ?_
  rintro e w4 ⟨rfl, b4⟩
  have B4 := hideF (below_on (unhideF B2) b4 (unhideF B2).size)
  clear b4 B2
  go_wp2_with fail
  refine (hh _).mono ?_
  rintro e w5 ⟨rfl, b5⟩
  have B5 := hideF ((unhideF B4).trans (b5.mono (unhideF B4).size))
  clear b5 B4
  go_wp2
  go_ret
  exact ⟨rfl, unhideF B5⟩

theorem own : ownKnob Try.prog.godebug = none := by kernel_rfl
theorem laidOut : laidOutB Try.prog = true := by kernel_rfl

set_option maxRecDepth 100000 in
theorem circ_lifted (os : Os) (started : os.Started) (H : Type) (enc : TypeId × Value → H) :
    ReturnsInHanded {} Try.checked os 6 .any (Rows.bitsCircleSpec.pre6 enc Try.prog Try.f6 Rows.bitsCircleRow.domain false) (Rows.bitsCircleSpec.post enc Try.prog Try.f6 false true false false) := by
  refine returnsInHanded_of_change (C := Try.checked) own started (by kernel_rfl) Try.func6
    (ChangeSpec.witness6 (enc := enc) (C := Try.checked) false ⟨#[], #[.int .i64 0], []⟩ 8 (by kernel_rfl) (by kernel_rfl) (by kernel_rfl) (by kernel_rfl)) ?_
  intro W base args ds gs before hval0 hW _ _
  have hval : ∀ (j : Nat) t v, Try.f6.params[j]? = some t → args[j]? = some v → Value.okWide Try.prog W .any base t v := hval0
  have hW' := hW
  obtain ⟨p, q, hA0, hV, rfl, hfz, hnd⟩ := hW
  have hA : DataW.TrodAll enc Try.prog W 0 (fun _ => true) true Try.f6.params.toList args.toList ds p := hA0
  rw [Try.params6] at hA hval
  obtain ⟨v0, d0, rfl, rfl, h0⟩ := trodAll_one hA
  obtain ⟨rfl, rfl⟩ := trodVars_none hV
  obtain ⟨a0, rfl⟩ := okWide_int Try.underlying3 (hval 0 3 v0 rfl rfl)
  clear hA0 hval0
  simp only [List.append_nil] at hW'
  have hlt : ∀ x ∈ p, x.block < W.heap.size := fun x hx => hW'.lt x hx
  have e1 : Rows.bitsCircleSpec.fn H ([d0] ++ []) = { results := [.lit (.bool true)], args := [d0] } := by simp [Rows.bitsCircleSpec]
  refine (circ_walk a0 W).mono fun e W' ⟨he, hb⟩ => ?_
  subst he
  refine ⟨_, rfl, _, _, _, [], p, [], hW', ?_, ?_, ?_, hb.frame _, fun h => by cases h⟩
  · rw [e1]; exact trodAll_mk1 (shut_bool Try.underlying4 true)
  · rw [e1]; exact trodAll_mk1 (Below.trod laidOut (by kernel_rfl) (by decide +kernel) h0 hb hlt)
  · rw [e1]; rfl

theorem circ_holds : Rows.BitsCircleSaid :=
  OpenClaim.holds_of_wide 6 Try.f6 rfl rfl rfl rfl rfl rfl rfl ⟨rfl, rfl, rfl, rfl, rfl⟩ rfl rfl rfl rfl rfl (by kernel_rfl) Try.func6 (by kernel_rfl)
    (of_decide_eq_true (by kernel_rfl)) (by unfold Func.isWrapper; first | (rw [if_pos (by decide +kernel)]; kernel_rfl) | (rw [if_neg (by decide +kernel)]; exact ⟨rfl, rfl⟩))
    (fun os started H enc _ => circ_lifted os started H enc)
#print axioms circ_holds
end Go.Proofs.Ytekbhjacgdncbac
