/-
  The law ArcMean: its walk out of the contracts, and its row.
-/
import Derived.Test.YtfifbcoedfdnjabMeanRef
import Derived.Test.YtfifbcoedfdnjabRows
import Derived.OpenShut
import Derived.ChangeSlices
import Derived.Carry
namespace Go.Proofs.Ytfifbcoedfdnjab
open Go.ChangeShapes Go.WideShapes Go.ChangeAt Go.RowKit

theorem mean_first (b : Nat) (w : World) (h0 : w.cell? ⟨b, 0, none⟩ = some (.int .i64 (-1))) (h1 : w.cell? ⟨b, 1, none⟩ = some (.int .i64 4)) :
    Calls Try.prog 11 #[.slice (some ⟨b, 0, none⟩) 2 2] w fun e w' => e = .returned (.tuple #[.int .i64 1, .bool true]) ∧ w' = w := by
  have hm : mean [-1, 4] = (1, true) := by decide
  have h := mean_some b 0 2 [-1, 4] w (by decide) (by decide) (fun j hj => by
    rcases (show j = 0 ∨ j = 1 by simp at hj; omega) with rfl | rfl
    · simpa using h0
    · simpa using h1)
  rw [hm] at h
  exact h

theorem below_new {w w' : World} (o : Obj) (h : ∃ n, w' = (w.alloc o).drewN n) : Below w.heap.size w w' := by
  obtain ⟨n, rfl⟩ := h
  exact ⟨rfl, rfl, rfl, ((Below.refl w.heap.size w).alloc (Nat.le_refl _) o).size, ((Below.refl w.heap.size w).alloc (Nat.le_refl _) o).block⟩

set_option maxHeartbeats 400000 in
theorem mean_law (b off cap : Nat) (L : List Int) (w : World) (h0 : 0 < L.length) (h1 : L.length ≤ 4000) (hb : b < w.heap.size) (hc : ∀ j, j < L.length → w.cell? ⟨b, off + j, none⟩ = some (.int .i64 (L.getD j 0))) :
    Calls Try.prog 4 #[.slice (some ⟨b, off, none⟩) L.length cap] w fun e w' => e = .returned (.bool true) ∧ Below w.heap.size w w' := by
  have hca : ∀ o : Obj, ∀ j, j < L.length → (w.alloc o).cell? ⟨b, off + j, none⟩ = some (.int .i64 (L.getD j 0)) := fun o j hj => (((Below.refl w.heap.size w).alloc (Nat.le_refl _) o).cell hb).trans (hc j hj)
  have HC := hide hca
  clear hca hc
  go_enter Try.func4, Try.ntmps4
  go_wp2_with fail
  refine (mean_first w.heap.size _ (by simp [go_sem]) (by simp [go_sem])).mono ?_
  rintro e w1 ⟨rfl, rfl⟩
  go_wp2_with fail
  refine (mean_some b off cap L _ h0 h1 (unhide HC _)).mono ?_
  rintro e w1 ⟨rfl, rfl⟩
  go_wp2_with fail
  refine (meanOf_some b off cap L _ h0 h1 (unhide HC _)).mono ?_
  rintro e w1 ⟨rfl, hw⟩
  have HB := hide (below_new _ hw)
  clear hw
  go_wp2
  go_ret
  exact ⟨rfl, unhide HB⟩

set_option maxHeartbeats 400000 in
theorem mean_law_none (a : Option Addr) (len cap : Nat) (w : World) (h : len = 0 ∨ 4000 < len) (h2 : len ≤ 4002) :
    Calls Try.prog 4 #[.slice a len cap] w fun e w' => e = .returned (.bool true) ∧ Below w.heap.size w w' := by
  have HB := hide (fun o => below_new (w := w) (w' := w.alloc o) o ⟨0, rfl⟩)
  go_enter Try.func4, Try.ntmps4
  go_wp2_with fail
  refine (mean_first w.heap.size _ (by simp [go_sem]) (by simp [go_sem])).mono ?_
  rintro e w1 ⟨rfl, rfl⟩
  go_wp2_with fail
  refine (mean_none a len cap _ h (by omega)).mono ?_
  rintro e w1 ⟨rfl, rfl⟩
  go_wp2_with fail
  refine (meanOf_none a len cap _ h (by omega)).mono ?_
  rintro e w1 ⟨rfl, rfl⟩
  go_wp2
  go_ret
  exact ⟨rfl, unhide HB _⟩

theorem mean_law_great (a : Option Addr) (len cap : Nat) (w : World) (h : 4002 < len) (h2 : len ≤ 9223372036854775807) :
    Calls Try.prog 4 #[.slice a len cap] w fun e w' => e = .returned (.bool true) ∧ Below w.heap.size w w' := by
  have HB := hide (fun o => below_new (w := w) (w' := w.alloc o) o ⟨0, rfl⟩)
  go_enter Try.func4, Try.ntmps4
  go_wp2_with fail
  refine (mean_first w.heap.size _ (by simp [go_sem]) (by simp [go_sem])).mono ?_
  rintro e w1 ⟨rfl, rfl⟩
  go_wp2
  go_ret
  exact ⟨rfl, unhide HB _⟩

theorem own : ownKnob Try.prog.godebug = none := by kernel_rfl
theorem laidOut : laidOutB Try.prog = true := by kernel_rfl
theorem cellsI : Try.prog.cellsOf 3 = 1 := by kernel_rfl

set_option maxRecDepth 100000 in
theorem mean_lifted (os : Os) (started : os.Started) (H : Type) (enc : TypeId × Value → H) :
    ReturnsInHanded {} Try.checked os 4 .any (Rows.arcMeanSpec.pre6 enc Try.prog Try.f4 Rows.arcMeanRow.domain false) (Rows.arcMeanSpec.post enc Try.prog Try.f4 false true false false) := by
  refine returnsInHanded_of_change (C := Try.checked) own started (by kernel_rfl) Try.func4
    (ChangeSpec.witness6 (enc := enc) (C := Try.checked) false ⟨#[], #[.slice none 0 0], []⟩ 8 (by kernel_rfl) (by kernel_rfl) (by kernel_rfl) (by kernel_rfl)) ?_
  intro W base args ds gs before hval0 hW _ _
  have hval : ∀ (j : Nat) t v, Try.f4.params[j]? = some t → args[j]? = some v → Value.okWide Try.prog W .any base t v := hval0
  have hW' := hW
  obtain ⟨p, q, hA0, hV, rfl, hfz, hnd⟩ := hW
  have hA : DataW.TrodAll enc Try.prog W 0 (fun _ => true) true Try.f4.params.toList args.toList ds p := hA0
  rw [Try.params4] at hA hval
  obtain ⟨v0, d0, rfl, rfl, h0⟩ := trodAll_one hA
  obtain ⟨rfl, rfl⟩ := trodVars_none hV
  obtain ⟨a0, len, cap, rfl⟩ := okWide_slice Try.underlying25 (hval 0 25 v0 rfl rfl)
  have hread := h0
  obtain ⟨fuel, hf⟩ := h0
  clear hA0 hval0
  simp only [List.append_nil] at hW'
  have hlt : ∀ x ∈ p, x.block < W.heap.size := fun x hx => hW'.lt x hx
  have walk : Calls Try.prog 4 #[.slice a0 len cap] W fun e w' => e = .returned (.bool true) ∧ Below W.heap.size W w' := by
    rcases open_ints Try.underlying25 Try.underlying3 cellsI hf with ⟨hcs, hx⟩ | ⟨a, len', cap', zs, hcs, _, hl, hm, hz, hx, hcell, hwz⟩
    · simp [Value.cells] at hcs
      obtain ⟨rfl, rfl, rfl⟩ := hcs
      exact mean_law_none none 0 0 W (.inl rfl) (by omega)
    · simp [Value.cells] at hcs
      obtain ⟨rfl, rfl, rfl⟩ := hcs
      simp only [Prod.mk.injEq] at hx
      obtain ⟨rfl, rfl⟩ := hx
      simp only [if_true] at hz
      unfold maxLen at hm
      rcases (show 4002 < len ∨ (len = 0 ∨ 4000 < len) ∧ len ≤ 4002 ∨ 0 < len ∧ len ≤ 4000 by omega) with h | ⟨h, h'⟩ | ⟨h, h'⟩
      · exact mean_law_great _ _ _ W h (by omega)
      · exact mean_law_none _ _ _ W h h'
      · obtain ⟨b, off, spot⟩ := a
        have hspot : spot = none := by simpa [Addr.add] using World.cell?_spot (hcell 0 (by omega))
        subst hspot
        have hb : b < W.heap.size := hlt _ (MemPlace.mem_row.2 ⟨0, by omega, rfl⟩)
        have hlen : (zs.take len).length = len := by rw [List.length_take]; omega
        have := mean_law b off cap (zs.take len) W (by omega) (by omega) hb (fun j hj => by
          rw [hlen] at hj
          have e : (zs.take len).getD j 0 = zs.getD j 0 := by simp [List.getD, hj]
          rw [e, ← add_plain]; exact hcell j (by omega))
        rw [hlen] at this
        exact this
  have e1 : Rows.arcMeanSpec.fn H ([d0] ++ []) = { results := [.lit (.bool true)], args := [d0] } := by simp [Rows.arcMeanSpec]
  refine walk.mono fun e W' ⟨he, hb⟩ => ?_
  subst he
  refine ⟨_, rfl, _, _, _, [], p, [], hW', ?_, ?_, ?_, hb.frame _, fun h => by cases h⟩
  · rw [e1]; exact trodAll_mk1 (shut_bool Try.underlying4 true)
  · rw [e1]; exact trodAll_mk1 (Below.trod laidOut (by kernel_rfl) (by decide +kernel) hread hb hlt)
  · rw [e1]; rfl

theorem mean_holds : Rows.ArcMeanSaid :=
  OpenClaim.holds_of_wide 4 Try.f4 rfl rfl rfl rfl rfl rfl rfl ⟨rfl, rfl, rfl, rfl, rfl⟩ rfl rfl rfl rfl rfl (by kernel_rfl) Try.func4 (by kernel_rfl)
    (of_decide_eq_true (by kernel_rfl)) (by unfold Func.isWrapper; first | (rw [if_pos (by decide +kernel)]; kernel_rfl) | (rw [if_neg (by decide +kernel)]; exact ⟨rfl, rfl⟩))
    (fun os started H enc _ => mean_lifted os started H enc)
#print axioms mean_holds
end Go.Proofs.Ytfifbcoedfdnjab
