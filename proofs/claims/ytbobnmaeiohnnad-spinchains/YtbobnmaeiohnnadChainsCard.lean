/-
  The law SpinChains: none; a slice of four numbers that came in; its row.
-/
import Derived.Test.YtbobnmaeiohnnadChain3
import Derived.Test.YtbobnmaeiohnnadFloatArg
import Derived.Test.YtbobnmaeiohnnadRows
import Derived.OpenShut
import Derived.ChangeSlices
import Derived.Carry
namespace Go.Proofs.Ytbobnmaeiohnnad
open Go.ChangeShapes Go.WideShapes Go.ChangeAt Go.RowKit

set_option maxHeartbeats 8000000 in
theorem chains_nil (w : World) : Calls Try.prog 7 #[.slice none 0 0] w fun e w' => e = .returned (.bool true) ∧ Below w.heap.size w w' := by
  have hsf := run_store_float Try.prog
  go_enter Try.func7, Try.ntmps7
  go_wp2_with fail
  refine (turns_any _).mono ?_
  rintro e w1 ⟨rfl, b1⟩
  have HW := hideR b1
  clear b1
  go_wp2
  go_loopw [4, 5] (fun mv kv wl => mv = .slice none 0 0 ∧ kv = .int .i64 0 ∧ HeldR (Below w.heap.size w wl)) (fun _ _ _ => 0)
  case atStart => exact ⟨rfl, rfl, HW⟩
  case round =>
    obtain ⟨rfl, rfl, HB⟩ := hrel
    go_wp2_with fail
    refine (chain_nil _).mono ?_
    rintro e w2 ⟨hc, k2⟩
    obtain ⟨⟨s0, s1, s2, s3⟩, tb, rfl⟩ := chain_form hc
    rw [retQ_is]
    have HC := hideR hc
    have HB2 := hideR (below_go (unhideR HB) k2)
    clear hc k2
    go_wp2_with fail
    refine (chainOf_nil _).mono ?_
    rintro e w3 ⟨hc, k3⟩
    obtain ⟨⟨r0, r1, r2, r3⟩, tb2, rfl⟩ := chain_form hc
    obtain ⟨rfl, j0, j1, j2, j3⟩ := chain_same2 (unhideR HC) hc
    rw [retQ_is]
    have J := hideR (And.intro j0 (And.intro j1 (And.intro j2 j3)))
    have U := hideR (keepB (alloc_last w2 _) k3)
    have HB3 := hideR (below_go ((unhideR HB2).alloc (unhideR HB2).size _) k3)
    clear hc k3 j0 j1 j2 j3 HC
    obtain ⟨⟨c0, c1, c2, c3⟩, _⟩ := four_at (unhideR U)
    have l0 := ltB (unhideR U)
    go_wp2_with fail
    refine (sameQ_any _ _ _ _ _ _ _ _ _ (unhideR J).1 (unhideR J).2.1 (unhideR J).2.2.1 (unhideR J).2.2.2).mono ?_
    rintro e w4 ⟨rfl, k4⟩
    have HB4 := hideR (below_go ((unhideR HB3).alloc (unhideR HB3).size _) k4)
    clear k4
    go_wp2
    go_ret
    exact ⟨rfl, unhideR HB4⟩
theorem add_pl (b o j : Nat) : (⟨b, o, none⟩ : Addr).add j = ⟨b, o + j, none⟩ := by
  by_cases h : j = 0 <;> simp [Addr.add, h]
section
variable {H : Type} {enc : TypeId × Value → H} {P : Program} {w : World} {base : Nat} {spare : Nat → Bool} {held : Bool}
theorem quad_of_trod {t e : TypeId} {f0 f1 f2 f3 : Field} {n : Nat} {cs : List Value} {y : DataW H × List MemPlace} (ht : P.underlying t = some (.struct #[f0, f1, f2, f3])) (he : P.underlying e = some (.float .f64)) (hc : P.cellsOf e = 1) (h4 : P.cellsOf t = 4)
    (t0 : f0.type = e ∧ f0.offset = 0) (t1 : f1.type = e ∧ f1.offset = 1) (t2 : f2.type = e ∧ f2.offset = 2) (t3 : f3.type = e ∧ f3.offset = 3) (h : DataW.trod enc P w base spare held n t cs = some y) : ∃ q : Q4, cs = vals q := by
  obtain ⟨xs, m, _, _, hl, hlen, hf⟩ := DataW.trod_struct ht h
  rw [h4] at hl
  match cs, hl with
  | [c0, c1, c2, c3], _ =>
    have g : ∀ i f, #[f0, f1, f2, f3][i]? = some f → f.type = e → f.offset = i → i < 4 → ∃ b, [c0, c1, c2, c3][i]? = some (.float .f64 b) := by
      intro i f hi h1 h2 h3
      have h5 := hf i f hi
      have h6 : ∃ yy, xs[i]? = some yy := by
        have : i < xs.length := by rw [hlen]; simpa using h3
        exact ⟨_, List.getElem?_eq_getElem this⟩
      obtain ⟨yy, hyy⟩ := h6
      rw [h1, h2, hc, hyy] at h5
      obtain ⟨b, hb, _⟩ := float_of_trod he h5
      refine ⟨b, ?_⟩
      rcases (show i = 0 ∨ i = 1 ∨ i = 2 ∨ i = 3 by omega) with rfl | rfl | rfl | rfl <;> simpa using hb
    obtain ⟨a, ha⟩ := g 0 f0 rfl t0.1 t0.2 (by omega)
    obtain ⟨b, hb⟩ := g 1 f1 rfl t1.1 t1.2 (by omega)
    obtain ⟨c, hc⟩ := g 2 f2 rfl t2.1 t2.2 (by omega)
    obtain ⟨d, hd⟩ := g 3 f3 rfl t3.1 t3.2 (by omega)
    simp at ha hb hc hd
    exact ⟨⟨a, b, c, d⟩, by simp [vals, ha, hb, hc, hd]⟩
end
theorem own : ownKnob Try.prog.godebug = none := by kernel_rfl
theorem laidOut : laidOutB Try.prog = true := by kernel_rfl
theorem cellsF : Try.prog.cellsOf 22 = 1 := by kernel_rfl
theorem cellsQ : Try.prog.cellsOf 30 = 4 := by kernel_rfl
theorem slice_has {P : Program} {w : World} {r : Reach} {base : Nat} {t e : TypeId} {a : Addr} {len cap : Nat} (ht : P.underlying t = some (.slice e)) (h : Value.okWide P w r base t (.slice (some a) len cap)) : a.spot = none ∧ a.block < w.heap.size := by
  simp only [Value.okWide, ht, Cell.okWide, Cell.ok] at h
  obtain ⟨_, _, _, hs, row, cells, hsh, _⟩ := h
  refine ⟨hs, ?_⟩
  rcases Nat.lt_or_ge a.block w.heap.size with h | h
  · exact h
  · simp [World.shape?, Array.getElem?_eq_none h] at hsh
section
variable {H : Type} {enc : TypeId × Value → H} {w : World} {base : Nat} {spare : Nat → Bool} {held : Bool}
theorem open_quads {fuel b off len cap : Nat} {x : DataW H × List MemPlace} (h : DataW.trod enc Try.prog w base spare held fuel 60 [.slice (some ⟨b, off, none⟩) len cap] = some x) :
    len ≤ cap ∧ cap ≤ maxLen ∧ ∃ L : List Q4, L.length = len ∧ QRow w b off L := by
  rcases DataW.trod_slice Try.underlying60 h with ⟨h0, _⟩ | ⟨a', len', cap', elems, rest, n, _, hcs, rfl, hb, hl, hm, hlen, hel, _, _⟩
  · cases h0
  simp only [List.cons.injEq, Value.slice.injEq, Option.some.injEq, and_true] at hcs
  obtain ⟨rfl, rfl, rfl⟩ := hcs
  refine ⟨hl, hm, ?_⟩
  have each : ∀ i, i < len → ∃ q : Q4, w.cell? ⟨b, off + i * 4, none⟩ = some (.float .f64 q.a) ∧ w.cell? ⟨b, off + i * 4 + 1, none⟩ = some (.float .f64 q.b) ∧ w.cell? ⟨b, off + i * 4 + 2, none⟩ = some (.float .f64 q.c) ∧ w.cell? ⟨b, off + i * 4 + 3, none⟩ = some (.float .f64 q.d) := by
    intro i hi
    have h1 := hel i hi
    have h2 : elems[i]? = some (elems[i]'(by omega)) := by simp
    rw [h2, cellsQ, Option.bind_eq_some_iff] at h1
    obtain ⟨cs', hcs, hy'⟩ := h1
    obtain ⟨q, rfl⟩ := quad_of_trod Try.underlying30 Try.underlying22 cellsF cellsQ ⟨rfl, rfl⟩ ⟨rfl, rfl⟩ ⟨rfl, rfl⟩ ⟨rfl, rfl⟩ hy'
    obtain ⟨_, _, hcell⟩ := World.cells?_some hcs
    rw [add_pl] at hcell
    refine ⟨q, ?_, ?_, ?_, ?_⟩
    · have := hcell 0 (by omega); rw [add_pl] at this; exact this
    · have := hcell 1 (by omega); rw [add_pl] at this; exact this
    · have := hcell 2 (by omega); rw [add_pl] at this; exact this
    · have := hcell 3 (by omega); rw [add_pl] at this; exact this
  let num : Nat → Nat := fun k => match w.cell? ⟨b, k, none⟩ with | some (.float _ y) => y | _ => 0
  have hnum : ∀ k y, w.cell? ⟨b, k, none⟩ = some (.float .f64 y) → num k = y := fun k y h => by simp only [num, h]
  refine ⟨(List.range len).map fun i => ⟨num (off + i * 4), num (off + i * 4 + 1), num (off + i * 4 + 2), num (off + i * 4 + 3)⟩, by simp, ?_⟩
  have hget : ∀ j, j < len → ((List.range len).map fun i => (⟨num (off + i * 4), num (off + i * 4 + 1), num (off + i * 4 + 2), num (off + i * 4 + 3)⟩ : Q4)).getD j oneQ = ⟨num (off + j * 4), num (off + j * 4 + 1), num (off + j * 4 + 2), num (off + j * 4 + 3)⟩ := fun j hj => by
    simp [List.getD, hj]
  refine ⟨fun j hj => ?_, fun j hj => ?_, fun j hj => ?_, fun j hj => ?_⟩
  all_goals
    have hj : j < len := by simpa using hj
    rw [hget j hj]
    obtain ⟨q, h0, h1, h2, h3⟩ := each j hj
  · rw [h0, hnum _ _ h0]
  · rw [h1, hnum _ _ h1]
  · rw [h2, hnum _ _ h2]
  · rw [h3, hnum _ _ h3]
end
set_option maxRecDepth 100000 in
theorem chains_lifted (os : Os) (started : os.Started) (H : Type) (enc : TypeId × Value → H) :
    ReturnsInHanded {} Try.checked os 7 .any (Rows.spinChainsSpec.pre6 enc Try.prog Try.f7 Rows.spinChainsRow.domain false) (Rows.spinChainsSpec.post enc Try.prog Try.f7 false true false false) := by
  refine returnsInHanded_of_change (C := Try.checked) own started (by kernel_rfl) Try.func7
    (ChangeSpec.witness6 (enc := enc) (C := Try.checked) false ⟨#[], #[.slice none 0 0], []⟩ 8 (by kernel_rfl) (by kernel_rfl) (by kernel_rfl) (by kernel_rfl)) ?_
  intro W base args ds gs before hval0 hW _ _
  have hval : ∀ (j : Nat) t v, Try.f7.params[j]? = some t → args[j]? = some v → Value.okWide Try.prog W .any base t v := hval0
  have hW' := hW
  obtain ⟨p, q, hA0, hV, rfl, hfz, hnd⟩ := hW
  have hA : DataW.TrodAll enc Try.prog W 0 (fun _ => true) true Try.f7.params.toList args.toList ds p := hA0
  rw [Try.params7] at hA hval
  obtain ⟨v0, d0, rfl, rfl, h0⟩ := trodAll_one hA
  obtain ⟨rfl, rfl⟩ := trodVars_none hV
  obtain ⟨a0, len, cap, rfl⟩ := okWide_slice Try.underlying60 (hval 0 60 v0 rfl rfl)
  have hread := h0
  obtain ⟨fuel, hf⟩ := h0
  clear hA0 hval0
  simp only [List.append_nil] at hW'
  have hlt : ∀ x ∈ p, x.block < W.heap.size := fun x hx => hW'.lt x hx
  have walk : Calls Try.prog 7 #[.slice a0 len cap] W fun e w' => e = .returned (.bool true) ∧ Below W.heap.size W w' := by
    cases a0 with
    | none =>
      have hz : len = 0 ∧ cap = 0 := by
        rcases DataW.trod_slice Try.underlying60 hf with ⟨h, _⟩ | ⟨a', len', cap', _, _, _, _, h, _⟩
        · simpa [Value.cells] using h
        · simp [Value.cells] at h
      obtain ⟨rfl, rfl⟩ := hz
      exact chains_nil W
    | some a =>
      obtain ⟨hsp, hbl⟩ := slice_has Try.underlying60 (hval 0 60 _ rfl rfl)
      obtain ⟨b, off, spot⟩ := a
      subst hsp
      obtain ⟨hc, hm, L, hL, hrow⟩ := open_quads hf
      unfold maxLen at hm
      by_cases hin : len ≤ 200
      · subst hL
        exact chains_in b off cap L W hrow hbl hin
      · exact chains_out _ len cap W (by omega) (by omega)
  have e1 : Rows.spinChainsSpec.fn H ([d0] ++ []) = { results := [.lit (.bool true)], args := [d0] } := by simp [Rows.spinChainsSpec]
  refine walk.mono fun e W' ⟨he, hb⟩ => ?_
  subst he
  refine ⟨_, rfl, _, _, _, [], p, [], hW', ?_, ?_, ?_, hb.frame _, fun h => by cases h⟩
  · rw [e1]; exact trodAll_mk1 (shut_bool Try.underlying4 true)
  · rw [e1]; exact trodAll_mk1 (Below.trod laidOut (by kernel_rfl) (by decide +kernel) hread hb hlt)
  · rw [e1]; rfl

theorem chains_holds : Rows.SpinChainsSaid :=
  OpenClaim.holds_of_wide 7 Try.f7 rfl rfl rfl rfl rfl rfl rfl ⟨rfl, rfl, rfl, rfl, rfl⟩ rfl rfl rfl rfl rfl (by kernel_rfl) Try.func7 (by kernel_rfl)
    (of_decide_eq_true (by kernel_rfl)) (by unfold Func.isWrapper; first | (rw [if_pos (by decide +kernel)]; kernel_rfl) | (rw [if_neg (by decide +kernel)]; exact ⟨rfl, rfl⟩))
    (fun os started H enc _ => chains_lifted os started H enc)
#print axioms chains_holds
end Go.Proofs.Ytbobnmaeiohnnad
