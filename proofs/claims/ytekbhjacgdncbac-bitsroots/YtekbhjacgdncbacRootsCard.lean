/-
  The law BitsRoots: its walk out of the contracts, and its row.
-/
import Derived.Test.YtekbhjacgdncbacLens
import Derived.Test.YtekbhjacgdncbacFloatArg
import Derived.Test.YtekbhjacgdncbacRows
import Derived.OpenShut
import Derived.ChangeSlices
import Derived.Carry
import Derived.Deep.RegionWith
import Derived.Deep.QuietTactic
namespace Go.Proofs.Ytekbhjacgdncbac
open Go.ChangeShapes Go.WideShapes Go.ChangeAt Go.RowKit

theorem vec_at (w : World) (a b c i : Nat) (h : i < 3) : (w.alloc (Obj.cells #[.float .f64 a, .float .f64 b, .float .f64 c] 35)).cell? ⟨w.heap.size, i, none⟩ = some (#[Value.float .f64 a, .float .f64 b, .float .f64 c].getD i undef) := by
  have hj : i = 0 ∨ i = 1 ∨ i = 2 := by omega
  rcases hj with rfl | rfl | rfl <;> simp [go_sem]
theorem vec_below {w v : World} {a b c n : Nat} (k : Below ((w.alloc (Obj.cells #[.float .f64 a, .float .f64 b, .float .f64 c] 35)).drewN n).heap.size ((w.alloc (Obj.cells #[.float .f64 a, .float .f64 b, .float .f64 c] 35)).drewN n) v) : Below w.heap.size w v := by
  have h1 := below_drewN ((Below.refl w.heap.size w).alloc (Nat.le_refl _) (Obj.cells #[.float .f64 a, .float .f64 b, .float .f64 c] 35)) n
  exact h1.trans (k.mono h1.size)
theorem vec_cell {w v : World} {a b c n : Nat} (k : Below ((w.alloc (Obj.cells #[.float .f64 a, .float .f64 b, .float .f64 c] 35)).drewN n).heap.size ((w.alloc (Obj.cells #[.float .f64 a, .float .f64 b, .float .f64 c] 35)).drewN n) v) (i : Nat) (h : i < 3) :
    v.cell? ⟨w.heap.size, i, none⟩ = some (#[Value.float .f64 a, .float .f64 b, .float .f64 c].getD i undef) := by
  rw [k.cell (by show w.heap.size < (w.alloc _).heap.size; simp)]
  exact vec_at w a b c i h
set_option maxHeartbeats 4000000 in
theorem roots_walk (x a b c : Nat) (w : World) :
    Calls Try.prog 7 #[.float .f64 x, .agg #[.float .f64 a, .float .f64 b, .float .f64 c]] w fun e w' => e = .returned (.bool true) ∧ Below w.heap.size w w' := by
  have ho1 : FloatKind.f64.format.order 4611686018427387904 4611686018427387904 = some .eq := by decide +kernel
  have h4 : ∀ r, FSq 4616189618054758400 r → r = 4611686018427387904 := fun r hr => by
    have e : FloatKind.f64.format.sqrt 4616189618054758400 = some 4611686018427387904 := by decide +kernel
    unfold FSq at hr
    rw [e] at hr
    exact hr
  have hb := fun x y v (h : FSame x y) => (same_iff.2 h) ▸ sameBits_any x y v
  have HR := hideR (fun v => root_any x v)
  have HL := hideR (fun v => length_any a b c v)
  have HM := hideR (fun v => lengthOf_any a b c v)
  go_enter Try.func7, Try.ntmps7
  go_wp2_with fail
  refine (root_any _ _).mono ?_
  rintro e w1 ⟨r, rfl, hr, n, rfl⟩
  obtain rfl := h4 r hr
  clear hr h4
  go_wp2_with fail
  refine (unhideR HR _).mono ?_
  rintro e w1 ⟨r1, rfl, h1, n1, rfl⟩
  have H1 := hideR h1
  clear h1
  go_wp2_with fail
  refine (mathSqrt_any _ _).mono ?_
  rintro e w1 ⟨r2, rfl, h2, n2, rfl⟩
  have H2 := hideR ((unhideR H1).same h2 (.refl x))
  clear h2 H1
  go_wp2_with fail
  refine (hb _ _ _ (unhideR H2)).mono ?_
  rintro e w1 ⟨rfl, rfl⟩
  clear H2
  go_wp2_with fail
  go_region_with (first
    | (go_at_call 18; refine (unhideR HL _).mono ?_; rintro e w1 ⟨r3, t3, rfl, e3, h3, b3⟩; have C0 := vec_cell b3 0 (by omega); have C1 := vec_cell b3 1 (by omega); have C2 := vec_cell b3 2 (by omega); have B3 := hideR (vec_below b3); have H3 := hideR (And.intro e3 h3); clear b3 e3 h3)
    | (go_at_call 19; refine (unhideR HM _).mono ?_; rintro e w2 ⟨r4, t4, rfl, e4, h4, b4⟩; have B4 := hideR ((unhideR B3).trans (b4.mono (unhideR B3).size)); have H4 := hideR ((unhideR H3).2.same h4 ((unhideR H3).1.same e4)); clear e4 h4 b4)
    | (go_at_call 9; refine (hb _ _ _ (unhideR H4)).mono ?_; rintro e w3 ⟨rfl, rfl⟩))
  all_goals
    go_wp2
    go_ret
    exact ⟨rfl, unhideR B4⟩

theorem own : ownKnob Try.prog.godebug = none := by kernel_rfl
theorem laidOut : laidOutB Try.prog = true := by kernel_rfl

set_option maxRecDepth 100000 in
theorem roots_lifted (os : Os) (started : os.Started) (H : Type) (enc : TypeId × Value → H) :
    ReturnsInHanded {} Try.checked os 7 .any (Rows.bitsRootsSpec.pre6 enc Try.prog Try.f7 Rows.bitsRootsRow.domain false) (Rows.bitsRootsSpec.post enc Try.prog Try.f7 false true false false) := by
  refine returnsInHanded_of_change (C := Try.checked) own started (by kernel_rfl) Try.func7
    (ChangeSpec.witness6 (enc := enc) (C := Try.checked) false ⟨#[], #[.float .f64 0, .agg #[.float .f64 0, .float .f64 0, .float .f64 0]], []⟩ 8 (by kernel_rfl) (by kernel_rfl) (by kernel_rfl) (by kernel_rfl)) ?_
  intro W base args ds gs before hval0 hW _ _
  have hval : ∀ (j : Nat) t v, Try.f7.params[j]? = some t → args[j]? = some v → Value.okWide Try.prog W .any base t v := hval0
  have hW' := hW
  obtain ⟨p, q, hA0, hV, rfl, hfz, hnd⟩ := hW
  have hA : DataW.TrodAll enc Try.prog W 0 (fun _ => true) true Try.f7.params.toList args.toList ds p := hA0
  rw [Try.params7] at hA hval
  obtain ⟨v0, v1, d0, d1, p0, p1, rfl, rfl, rfl, h0, h1⟩ := trodAll_two hA
  obtain ⟨rfl, rfl⟩ := trodVars_none hV
  obtain ⟨a0, rfl, _⟩ := okWide_float Try.underlying23 (hval 0 23 v0 rfl rfl)
  obtain ⟨x, y, z, rfl⟩ := okWide_three Try.underlying35 Try.underlying23 (by kernel_rfl) (by kernel_rfl) (hval 1 35 v1 rfl rfl)
  clear hA0 hval0
  simp only [List.append_nil] at hW'
  have hlt : ∀ x ∈ (p0 ++ p1), x.block < W.heap.size := fun x hx => hW'.lt x hx
  have e1 : Rows.bitsRootsSpec.fn H ([d0, d1] ++ []) = { results := [.lit (.bool true)], args := [d0, d1] } := by simp [Rows.bitsRootsSpec]
  refine (roots_walk a0 x y z W).mono fun e W' ⟨he, hb⟩ => ?_
  subst he
  refine ⟨_, rfl, _, _, _, [], (p0 ++ p1), [], hW', ?_, ?_, ?_, hb.frame _, fun h => by cases h⟩
  · rw [e1]; exact trodAll_mk1 (shut_bool Try.underlying4 true)
  · rw [e1]; exact trodAll_mk2 (Below.trod laidOut (by kernel_rfl) (by decide +kernel) h0 hb fun x hx => hlt x (List.mem_append_left _ hx)) (Below.trod laidOut (by kernel_rfl) (by decide +kernel) h1 hb fun x hx => hlt x (List.mem_append_right _ hx))
  · rw [e1]; rfl

theorem roots_holds : Rows.BitsRootsSaid :=
  OpenClaim.holds_of_wide 7 Try.f7 rfl rfl rfl rfl rfl rfl rfl ⟨rfl, rfl, rfl, rfl, rfl⟩ rfl rfl rfl rfl rfl (by kernel_rfl) Try.func7 (by kernel_rfl)
    (of_decide_eq_true (by kernel_rfl)) (by unfold Func.isWrapper; first | (rw [if_pos (by decide +kernel)]; kernel_rfl) | (rw [if_neg (by decide +kernel)]; exact ⟨rfl, rfl⟩))
    (fun os started H enc _ => roots_lifted os started H enc)
#print axioms roots_holds
end Go.Proofs.Ytekbhjacgdncbac
