/-
  The law BitsSums: its row.
-/
import Derived.Test.YtmgnobeaacjdjacBSums
import Derived.Test.YtmgnobeaacjdjacFloatArg
import Derived.Test.YtmgnobeaacjdjacRows
import Derived.OpenShut
import Derived.ChangeSlices
import Derived.Carry
namespace Go.Proofs.Ytmgnobeaacjdjac
open Go.ChangeShapes Go.WideShapes Go.ChangeAt Go.RowKit

theorem rnd_nought : rnd 0 = 0 := rnd_zero.2 rfl
theorem nil_sum : sumV [] = 0 := ((sumV_def []).2.2 rfl rfl).trans ((finV_pos (z := sumZ []) (d := 0) rfl).trans rnd_nought)
theorem add_pl (b o j : Nat) : (⟨b, o, none⟩ : Addr).add j = ⟨b, o + j, none⟩ := by
  by_cases h : j = 0 <;> simp [Addr.add, h]
theorem slice_has {P : Program} {w : World} {r : Reach} {base : Nat} {t e : TypeId} {a : Addr} {len cap : Nat} (ht : P.underlying t = some (.slice e)) (h : Value.okWide P w r base t (.slice (some a) len cap)) : a.spot = none ∧ a.block < w.heap.size := by
  simp only [Value.okWide, ht, Cell.okWide, Cell.ok] at h
  obtain ⟨_, _, _, hs, row, cells, hsh, _⟩ := h
  refine ⟨hs, ?_⟩
  rcases Nat.lt_or_ge a.block w.heap.size with h | h
  · exact h
  · simp [World.shape?, Array.getElem?_eq_none h] at hsh
theorem own : ownKnob Try.prog.godebug = none := by kernel_rfl
theorem laidOut : laidOutB Try.prog = true := by kernel_rfl
theorem cellsF : Try.prog.cellsOf 23 = 1 := by kernel_rfl

set_option maxRecDepth 100000 in
theorem sums_lifted (os : Os) (started : os.Started) (H : Type) (enc : TypeId × Value → H) :
    ReturnsInHanded {} Try.checked os 3 .any (Rows.bitsSumsSpec.pre6 enc Try.prog Try.f3 Rows.bitsSumsRow.domain false) (Rows.bitsSumsSpec.post enc Try.prog Try.f3 false true false false) := by
  refine returnsInHanded_of_change (C := Try.checked) own started (by kernel_rfl) Try.func3
    (ChangeSpec.witness6 (enc := enc) (C := Try.checked) false ⟨#[], #[.slice none 0 0], []⟩ 8 (by kernel_rfl) (by kernel_rfl) (by kernel_rfl) (by kernel_rfl)) ?_
  intro W base args ds gs before hval0 hW _ _
  have hval : ∀ (j : Nat) t v, Try.f3.params[j]? = some t → args[j]? = some v → Value.okWide Try.prog W .any base t v := hval0
  have hW' := hW
  obtain ⟨p, q, hA0, hV, rfl, hfz, hnd⟩ := hW
  have hA : DataW.TrodAll enc Try.prog W 0 (fun _ => true) true Try.f3.params.toList args.toList ds p := hA0
  rw [Try.params3] at hA hval
  obtain ⟨v0, d0, rfl, rfl, h0⟩ := trodAll_one hA
  obtain ⟨rfl, rfl⟩ := trodVars_none hV
  obtain ⟨a0, len, cap, rfl⟩ := okWide_slice Try.underlying22 (hval 0 22 v0 rfl rfl)
  have hread := h0
  obtain ⟨fuel, hf⟩ := h0
  clear hA0 hval0
  simp only [List.append_nil] at hW'
  have hlt : ∀ x ∈ p, x.block < W.heap.size := fun x hx => hW'.lt x hx
  have walk : Calls Try.prog 3 #[.slice a0 len cap] W fun e w' => e = .returned (.bool true) ∧ Below W.heap.size W w' := by
    cases a0 with
    | none =>
      have hz : len = 0 ∧ cap = 0 := by
        rcases DataW.trod_slice Try.underlying22 hf with ⟨h, _⟩ | ⟨a', len', cap', _, _, _, _, h, _⟩
        · simpa [Value.cells] using h
        · simp [Value.cells] at h
      obtain ⟨rfl, rfl⟩ := hz
      refine sums_in none 0 0 [] W (by omega) (fun v _ => dsum_nil v) fun v _ => (rsum_nil v).mono ?_
      rintro e w' ⟨rfl, hb⟩
      exact ⟨0, rfl, .inl nil_sum.symm, hb⟩
    | some a =>
      obtain ⟨hc, hm, zs, hzl, hcell, hzx⟩ := open_floats Try.underlying22 Try.underlying23 cellsF hf
      unfold maxLen at hm
      by_cases hin : len ≤ 300
      · subst hzl
        obtain ⟨hsp, hbl⟩ := slice_has Try.underlying22 (hval 0 22 _ rfl rfl)
        obtain ⟨b, off, spot⟩ := a
        subst hsp
        have hrow : FloatRow W b off zs := fun j hj => by
          rw [← add_pl]
          exact hcell j hj
        refine sums_in _ _ _ zs W hin (fun v hv => dsum_any b off cap zs v (hrow.below hv hbl) (by omega) hzx (Nat.lt_of_lt_of_le hbl hv.size)) fun v hv => rsum_any b off cap zs v (hrow.below hv hbl) (by omega) hzx (Nat.lt_of_lt_of_le hbl hv.size)
      · exact sums_out (some a) len cap W (by omega) (by omega)
  have e1 : Rows.bitsSumsSpec.fn H ([d0] ++ []) = { results := [.lit (.bool true)], args := [d0] } := by simp [Rows.bitsSumsSpec]
  refine walk.mono fun e W' ⟨he, hb⟩ => ?_
  subst he
  refine ⟨_, rfl, _, _, _, [], p, [], hW', ?_, ?_, ?_, hb.frame _, fun h => by cases h⟩
  · rw [e1]; exact trodAll_mk1 (shut_bool Try.underlying4 true)
  · rw [e1]; exact trodAll_mk1 (Below.trod laidOut (by kernel_rfl) (by decide +kernel) hread hb hlt)
  · rw [e1]; rfl

theorem sums_holds : Rows.BitsSumsSaid :=
  OpenClaim.holds_of_wide 3 Try.f3 rfl rfl rfl rfl rfl rfl rfl ⟨rfl, rfl, rfl, rfl, rfl⟩ rfl rfl rfl rfl rfl (by kernel_rfl) Try.func3 (by kernel_rfl)
    (of_decide_eq_true (by kernel_rfl)) (by unfold Func.isWrapper; first | (rw [if_pos (by decide +kernel)]; kernel_rfl) | (rw [if_neg (by decide +kernel)]; exact ⟨rfl, rfl⟩))
    (fun os started H enc _ => sums_lifted os started H enc)
#print axioms sums_holds
end Go.Proofs.Ytmgnobeaacjdjac
