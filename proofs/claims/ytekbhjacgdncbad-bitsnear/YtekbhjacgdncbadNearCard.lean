/-
  The law BitsNear: its walk out of the contracts, and its row.
-/
import Derived.Test.YtekbhjacgdncbadDAng
import Derived.Test.YtekbhjacgdncbadNearLaw
import Derived.Test.YtekbhjacgdncbadApart
import Derived.Laws.FloatBits
import Derived.Test.YtekbhjacgdncbadFloatArg
import Derived.Test.YtekbhjacgdncbadRows
import Derived.OpenShut
import Derived.ChangeSlices
import Derived.Carry
namespace Go.Proofs.Ytekbhjacgdncbad
open Go.ChangeShapes Go.WideShapes Go.ChangeAt Go.RowKit

theorem fnum_lt (op : BinOp) (x y : Nat) (w : World) : fnum op x y w < 18446744073709551616 := by
  unfold fnum
  cases e : floatBits op .f64 x y with
  | some v =>
    have hw : (2 : Nat) ^ FloatKind.f64.format.width = 18446744073709551616 := by decide
    rw [← hw]
    unfold floatBits at e
    split at e
    · exact Ieee.Format.add_lt _ e
    · exact Ieee.Format.sub_lt _ e
    · exact Ieee.Format.mul_lt _ e
    · exact Ieee.Format.div_lt _ e
    · cases e
  | none =>
    show (Question.nanBits .f64 x y).cut (w.tape w.drawn (.nanBits .f64 x y)) < _
    generalize w.tape w.drawn (.nanBits .f64 x y) = t
    have e : (Question.nanBits .f64 x y).cut t = (t % 2) * 2 ^ 63 + 0x7ff0000000000000 + 1 + (t / 2) % (2 ^ 52 - 1) := rfl
    rw [e]
    omega
theorem lo_is : ∃ v, Is 2362753625475748981 v ∧ p2 (-500) ≤ v := by
  refine ⟨_, (by unfold Is; exact rfl : Is 2362753625475748981 _), ?_⟩
  decide +kernel
theorem hi_is : ∃ v, Is 6850974717710472879 v ∧ v ≤ p2 500 := by
  refine ⟨_, (by unfold Is; exact rfl : Is 6850974717710472879 _), ?_⟩
  decide +kernel
/-- the size that is taken. -/
def sizeV (z : Nat) : Nat := if FloatKind.f64.format.order z 2362753625475748981 == some .gt && FloatKind.f64.format.order z 6850974717710472879 == some .lt then z else 4607182418800017408
theorem size_is (z : Nat) : ∃ v, Is (sizeV z) v ∧ p2 (-500) ≤ v ∧ v ≤ p2 500 := by
  unfold sizeV
  split
  · rename_i h
    rw [Bool.and_eq_true, beq_iff_eq, beq_iff_eq] at h
    obtain ⟨h1, h2⟩ := h
    obtain ⟨lv, l1, l2⟩ := lo_is
    obtain ⟨hv, k1, k2⟩ := hi_is
    cases e : FloatKind.f64.format.read z with
    | number s m i =>
      have hz : Is z (sgn s ((m : Rat) * p2 i)) := by unfold Is; rw [e]; exact dv_number s m i
      generalize sgn s ((m : Rat) * p2 i) = v at hz
      rw [order_is hz l1] at h1
      rw [order_is hz k1] at h2
      refine ⟨v, hz, ?_, ?_⟩
      · simp only [Option.some.injEq] at h1
        split at h1
        · cases h1
        · grind
      · simp only [Option.some.injEq] at h2
        split at h2
        · grind
        · split at h2 <;> cases h2
    | infinity s =>
      unfold Ieee.Format.order at h1 h2
      have r1 : FloatKind.f64.format.read 2362753625475748981 = .number false 7371020360979573 (-551) := by decide +kernel
      have r2 : FloatKind.f64.format.read 6850974717710472879 = .number false 5503284107318959 (446) := by decide +kernel
      rw [e, r1] at h1
      rw [e, r2] at h2
      cases s
      · cases h2
      · cases h1
    | nan s t =>
      have := order_nan_left 2362753625475748981 (show Nan z by unfold Nan; rw [e]; rfl)
      rw [this] at h1
      cases h1
  · exact ⟨1, one_is, by decide +kernel, by decide +kernel⟩
theorem near_walk (a : Int) (z : Nat) (w : World) (_ : z < 18446744073709551616) :
    Calls Try.prog 4 #[.int .i64 a, .float .f64 z] w fun e w' => e = .returned (.bool true) ∧ Below w.heap.size w w' := by
  have hs := fun v => sin_any a v
  have hc := fun v => cos_any a v
  have hap := fun b v => apart_any a b v
  have hm := fun t x y v => run_fmul (P := Try.prog) t x y v
  have hang := fun y x v hy hx => angle_any y x v hy hx
  obtain ⟨v, v1, v2, v3⟩ := size_is z
  have hn := fun y x hy hx => near_angle a (y := y) (x := x) v1 v2 v3 hy hx
  have hsz : sizeV z = if FloatKind.f64.format.order z 2362753625475748981 == some .gt && FloatKind.f64.format.order z 6850974717710472879 == some .lt then z else 4607182418800017408 := rfl
  generalize sizeV z = zz at *
  generalize sinV a = s at *
  generalize cosV a = c at *
  have HN := hideF hn
  have HA := hideF hang
  clear hn hang v1 v2 v3
  cases h1 : (FloatKind.f64.format.order z 2362753625475748981 == some .gt) <;> cases h2 : (FloatKind.f64.format.order z 6850974717710472879 == some .lt)
  all_goals
    rw [h1, h2] at hsz
    simp at hsz
    subst hsz
    go_enter Try.func4, Try.ntmps4
    go_wp2_with fail
    refine (hs _).mono ?_
    rintro e w1 ⟨rfl, b1⟩
    have B1 := hideF b1
    clear b1
    go_wp2_with fail
    refine (hc _).mono ?_
    rintro e w2 ⟨rfl, b2⟩
    have B2 := hideF (below_on (unhideF B1) b2 (unhideF B1).size)
    clear b2 B1
    go_wp2_with fail
    refine (unhideF HA _ _ _ (fnum_lt _ _ _ _) (fnum_lt _ _ _ _)).mono ?_
    rintro e w3 ⟨rfl, b3⟩
    have B3 := hideF (below_on (unhideF B2) b3 (unhideF B2).size)
    clear b3 B2
    obtain ⟨n1, n2⟩ := unhideF HN _ _ (fnum_is .mul _ s w1) (fnum_is .mul _ c w2)
    rw [n1]
    generalize angV (fnum .mul _ s w1) (fnum .mul _ c w2) = b at *
    go_wp2_with fail
    refine (hap _ _).mono ?_
    rintro e w4 ⟨rfl, rfl⟩
    generalize apt a b = d at *
    go_wp2
    go_ret
    exact ⟨rfl, unhideF B3⟩

theorem own : ownKnob Try.prog.godebug = none := by kernel_rfl
theorem laidOut : laidOutB Try.prog = true := by kernel_rfl

set_option maxRecDepth 100000 in
theorem near_lifted (os : Os) (started : os.Started) (H : Type) (enc : TypeId × Value → H) :
    ReturnsInHanded {} Try.checked os 4 .any (Rows.bitsNearSpec.pre6 enc Try.prog Try.f4 Rows.bitsNearRow.domain false) (Rows.bitsNearSpec.post enc Try.prog Try.f4 false true false false) := by
  refine returnsInHanded_of_change (C := Try.checked) own started (by kernel_rfl) Try.func4
    (ChangeSpec.witness6 (enc := enc) (C := Try.checked) false ⟨#[], #[.int .i64 0, .float .f64 0], []⟩ 8 (by kernel_rfl) (by kernel_rfl) (by kernel_rfl) (by kernel_rfl)) ?_
  intro W base args ds gs before hval0 hW _ _
  have hval : ∀ (j : Nat) t v, Try.f4.params[j]? = some t → args[j]? = some v → Value.okWide Try.prog W .any base t v := hval0
  have hW' := hW
  obtain ⟨p, q, hA0, hV, rfl, hfz, hnd⟩ := hW
  have hA : DataW.TrodAll enc Try.prog W 0 (fun _ => true) true Try.f4.params.toList args.toList ds p := hA0
  rw [Try.params4] at hA hval
  obtain ⟨v0, v1, d0, d1, p0, p1, rfl, rfl, rfl, h0, h1⟩ := trodAll_two hA
  obtain ⟨rfl, rfl⟩ := trodVars_none hV
  obtain ⟨a0, rfl⟩ := okWide_int Try.underlying3 (hval 0 3 v0 rfl rfl)
  obtain ⟨a1, rfl, b1⟩ := okWide_float Try.underlying22 (hval 1 22 v1 rfl rfl)
  clear hA0 hval0
  simp only [List.append_nil] at hW'
  have hlt : ∀ x ∈ (p0 ++ p1), x.block < W.heap.size := fun x hx => hW'.lt x hx
  have e1 : Rows.bitsNearSpec.fn H ([d0, d1] ++ []) = { results := [.lit (.bool true)], args := [d0, d1] } := by simp [Rows.bitsNearSpec]
  refine (near_walk a0 a1 W b1).mono fun e W' ⟨he, hb⟩ => ?_
  subst he
  refine ⟨_, rfl, _, _, _, [], (p0 ++ p1), [], hW', ?_, ?_, ?_, hb.frame _, fun h => by cases h⟩
  · rw [e1]; exact trodAll_mk1 (shut_bool Try.underlying4 true)
  · rw [e1]; exact trodAll_mk2 (Below.trod laidOut (by kernel_rfl) (by decide +kernel) h0 hb fun x hx => hlt x (List.mem_append_left _ hx)) (Below.trod laidOut (by kernel_rfl) (by decide +kernel) h1 hb fun x hx => hlt x (List.mem_append_right _ hx))
  · rw [e1]; rfl

theorem near_holds : Rows.BitsNearSaid :=
  OpenClaim.holds_of_wide 4 Try.f4 rfl rfl rfl rfl rfl rfl rfl ⟨rfl, rfl, rfl, rfl, rfl⟩ rfl rfl rfl rfl rfl (by kernel_rfl) Try.func4 (by kernel_rfl)
    (of_decide_eq_true (by kernel_rfl)) (by unfold Func.isWrapper; first | (rw [if_pos (by decide +kernel)]; kernel_rfl) | (rw [if_neg (by decide +kernel)]; exact ⟨rfl, rfl⟩))
    (fun os started H enc _ => near_lifted os started H enc)
#print axioms near_holds
end Go.Proofs.Ytekbhjacgdncbad
