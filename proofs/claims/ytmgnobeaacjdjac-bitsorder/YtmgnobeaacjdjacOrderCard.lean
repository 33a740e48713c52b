/-
  The law BitsOrder walked out of the contracts: no numbers; its row.
-/
import Derived.Test.YtmgnobeaacjdjacBOrder2
import Derived.Test.YtmgnobeaacjdjacFloatArg
import Derived.Test.YtmgnobeaacjdjacRows
import Derived.OpenShut
import Derived.ChangeSlices
import Derived.Carry
namespace Go.Proofs.Ytmgnobeaacjdjac
open Go.ChangeShapes Go.WideShapes Go.ChangeAt Go.RowKit

theorem rnd_nought : rnd 0 = 0 := rnd_zero.2 rfl
theorem nil_sum : sumV [] = 0 := ((sumV_def []).2.2 rfl rfl).trans ((finV_pos (z := sumZ []) (d := 0) rfl).trans rnd_nought)
set_option maxHeartbeats 4000000 in
theorem order_nil (x : Nat) (w : World) :
    Calls Try.prog 4 #[.slice none 0 0, .int .i64 0, .float .f64 x] w fun e w' => e = .returned (.bool true) ∧ Below w.heap.size w w' := by
  obtain ⟨i0, hi, _, _, _⟩ := info_parts infoF
  have hfin := fun v => finite_any x v
  have hsv : sumV [] = 0 := nil_sum
  have hnil := fun v => dsum_nil v
  rw [hsv] at hnil
  have hsame := fun v => sameBits_any 0 0 v
  rw [same_iff.2 (.refl 0)] at hsame
  have ho0 : FloatKind.f64.format.order 0 0 = some .eq := by decide
  have ho1 : FloatKind.f64.format.order 4607182418800017408 4607182418800017408 = some .eq := by decide +kernel
  have hrow : FloatRow (w.alloc (.cells #[.float .f64 9094988921128908188, .float .f64 4607182418800017408, .float .f64 18318360957983683996] 23)) w.heap.size 0 [9094988921128908188, 4607182418800017408, 18318360957983683996] := by
    intro j hj
    have hj : j = 0 ∨ j = 1 ∨ j = 2 := by simp at hj; omega
    rcases hj with rfl | rfl | rfl <;> simp [go_sem]
  have B0 := hideE ((Below.refl w.heap.size w).alloc (Nat.le_refl _) (.cells #[.float .f64 9094988921128908188, .float .f64 4607182418800017408, .float .f64 18318360957983683996] 23))
  have C0 := hideE (dsum_any w.heap.size 0 3 _ _ hrow (by decide) (by decide) (by simp))
  rw [first_three] at C0
  clear hrow
  go_enter Try.func4, Try.ntmps4
  go_wp2_with fail
  refine (unhideE C0).mono ?_
  rintro e w1 ⟨r, rfl, hr, b1⟩
  obtain rfl := same_num hr (by decide)
  have B1 := hideE ((unhideE B0).trans (b1.mono (unhideE B0).size))
  clear hr b1 C0 B0
  go_wp2_with (first
    | (at_builtin; refine wpList_append_own_none rfl _ _ 22 rfl w.heap.size 23 i0 1 Try.underlying22 hi _ _ _ rfl (World.ownsRow_nil _ _ _ _) rfl ?_))
  go_loop [8, 9] (fun mv iv => mv = .slice none 0 0 ∧ iv = .int .i64 (-1)) (fun _ _ => 0)
  case atStart => exact ⟨rfl, rfl⟩
  case round =>
    obtain ⟨rfl, rfl⟩ := hrel
    go_wp2_with fail
    refine (hnil _).mono ?_
    rintro e w2 ⟨ra, rfl, fa, b2⟩
    obtain rfl := same_num fa (by decide)
    have B2 := hideE ((unhideE B1).trans (b2.mono (unhideE B1).size))
    clear fa b2 B1
    go_wp2_with fail
    refine (hnil _).mono ?_
    rintro e w3 ⟨rb, rfl, fb, b3⟩
    obtain rfl := same_num fb (by decide)
    have B3 := hideE ((unhideE B2).trans (b3.mono (unhideE B2).size))
    clear fb b3 B2
    go_wp2_with fail
    refine (hsame _).mono ?_
    rintro e w4 ⟨rfl, rfl⟩
    go_wp2_with fail
    refine (hfin _).mono ?_
    rintro e w5 ⟨rfl, nf, rfl⟩
    generalize finB x = fx at *
    cases fx <;> cases hox : (FloatKind.f64.format.order x 0 == some .eq)
    all_goals
      go_wp2
      go_ret
      exact ⟨rfl, below_drewN (unhideE B3) _⟩

theorem slice_has {P : Program} {w : World} {r : Reach} {base : Nat} {t e : TypeId} {a : Addr} {len cap : Nat} (ht : P.underlying t = some (.slice e)) (h : Value.okWide P w r base t (.slice (some a) len cap)) : a.spot = none ∧ a.block < w.heap.size := by
  simp only [Value.okWide, ht, Cell.okWide, Cell.ok] at h
  obtain ⟨_, _, _, hs, row, cells, hsh, _⟩ := h
  refine ⟨hs, ?_⟩
  rcases Nat.lt_or_ge a.block w.heap.size with h | h
  · exact h
  · simp [World.shape?, Array.getElem?_eq_none h] at hsh
theorem own : ownKnob Try.prog.godebug = none := by kernel_rfl
theorem laidOut : laidOutB Try.prog = true := by kernel_rfl
theorem cellsF : Try.prog.cellsOf 23 = 1 := by kernel_rfl

set_option maxRecDepth 100000 in
theorem order_lifted (os : Os) (started : os.Started) (H : Type) (enc : TypeId × Value → H) :
    ReturnsInHanded {} Try.checked os 4 .any (Rows.bitsOrderSpec.pre6 enc Try.prog Try.f4 Rows.bitsOrderRow.domain false) (Rows.bitsOrderSpec.post enc Try.prog Try.f4 false true false false) := by
  refine returnsInHanded_of_change (C := Try.checked) own started (by kernel_rfl) Try.func4
    (ChangeSpec.witness6 (enc := enc) (C := Try.checked) false ⟨#[], #[.slice none 0 0, .int .i64 0, .float .f64 0], []⟩ 8 (by kernel_rfl) (by kernel_rfl) (by kernel_rfl) (by kernel_rfl)) ?_
  intro W base args ds gs before hval0 hW _ _
  have hval : ∀ (j : Nat) t v, Try.f4.params[j]? = some t → args[j]? = some v → Value.okWide Try.prog W .any base t v := hval0
  have hW' := hW
  obtain ⟨p, q, hA0, hV, rfl, hfz, hnd⟩ := hW
  have hA : DataW.TrodAll enc Try.prog W 0 (fun _ => true) true Try.f4.params.toList args.toList ds p := hA0
  rw [Try.params4] at hA hval
  obtain ⟨v0, v1, v2, d0, d1, d2, p0, p1, p2, rfl, rfl, rfl, h0, h1, h2⟩ := trodAll_three hA
  obtain ⟨rfl, rfl⟩ := trodVars_none hV
  obtain ⟨a0, len, cap, rfl⟩ := okWide_slice Try.underlying22 (hval 0 22 v0 rfl rfl)
  obtain ⟨k, rfl⟩ := okWide_int Try.underlying3 (hval 1 3 v1 rfl rfl)
  obtain ⟨x, rfl, hx⟩ := okWide_float Try.underlying23 (hval 2 23 v2 rfl rfl)
  have hread := h0
  obtain ⟨fuel, hf⟩ := h0
  clear hA0 hval0
  simp only [List.append_nil] at hW'
  have hlt : ∀ x ∈ (p0 ++ p1 ++ p2), x.block < W.heap.size := fun x hx => hW'.lt x hx
  have walk : Calls Try.prog 4 #[.slice a0 len cap, .int .i64 k, .float .f64 x] W fun e w' => e = .returned (.bool true) ∧ Below W.heap.size W w' := by
    cases a0 with
    | none =>
      have hz : len = 0 ∧ cap = 0 := by
        rcases DataW.trod_slice Try.underlying22 hf with ⟨h, _⟩ | ⟨a', len', cap', _, _, _, _, h, _⟩
        · simpa [Value.cells] using h
        · simp [Value.cells] at h
      obtain ⟨rfl, rfl⟩ := hz
      by_cases hk : k = 0
      · subst hk
        exact order_nil x W
      · exact order_out none 0 0 k x W (by omega) (by omega)
    | some a =>
      obtain ⟨hc, hm, zs, hzl, hcell, hzx⟩ := open_floats Try.underlying22 Try.underlying23 cellsF hf
      unfold maxLen at hm
      by_cases hin : len ≤ 300 ∧ 0 ≤ k ∧ k ≤ len
      · obtain ⟨hl, hk0, hk1⟩ := hin
        obtain ⟨kn, rfl⟩ := Int.eq_ofNat_of_zero_le hk0
        subst hzl
        obtain ⟨hsp, hbl⟩ := slice_has Try.underlying22 (hval 0 22 _ rfl rfl)
        obtain ⟨b, off, spot⟩ := a
        subst hsp
        refine order_some b off cap kn zs x W (fun j hj => ?_) hl (by omega) hzx hx hbl hc (by omega)
        rw [← add_pl]
        exact hcell j hj
      · exact order_out (some a) len cap k x W (by omega) (by omega)
  have e1 : Rows.bitsOrderSpec.fn H ([d0, d1, d2] ++ []) = { results := [.lit (.bool true)], args := [d0, d1, d2] } := by simp [Rows.bitsOrderSpec]
  refine walk.mono fun e W' ⟨he, hb⟩ => ?_
  subst he
  refine ⟨_, rfl, _, _, _, [], (p0 ++ p1 ++ p2), [], hW', ?_, ?_, ?_, hb.frame _, fun h => by cases h⟩
  · rw [e1]; exact trodAll_mk1 (shut_bool Try.underlying4 true)
  · rw [e1, List.append_assoc]; exact trodAll_mk3 (Below.trod laidOut (by kernel_rfl) (by decide +kernel) hread hb fun x hx => hlt x (List.mem_append_left _ (List.mem_append_left _ hx))) (Below.trod laidOut (by kernel_rfl) (by decide +kernel) h1 hb fun x hx => hlt x (List.mem_append_left _ (List.mem_append_right _ hx))) (Below.trod laidOut (by kernel_rfl) (by decide +kernel) h2 hb fun x hx => hlt x (List.mem_append_right _ hx))
  · rw [e1]; rfl

theorem order_holds : Rows.BitsOrderSaid :=
  OpenClaim.holds_of_wide 4 Try.f4 rfl rfl rfl rfl rfl rfl rfl ⟨rfl, rfl, rfl, rfl, rfl⟩ rfl rfl rfl rfl rfl (by kernel_rfl) Try.func4 (by kernel_rfl)
    (of_decide_eq_true (by kernel_rfl)) (by unfold Func.isWrapper; first | (rw [if_pos (by decide +kernel)]; kernel_rfl) | (rw [if_neg (by decide +kernel)]; exact ⟨rfl, rfl⟩))
    (fun os started H enc _ => order_lifted os started H enc)
#print axioms order_holds
end Go.Proofs.Ytmgnobeaacjdjac
