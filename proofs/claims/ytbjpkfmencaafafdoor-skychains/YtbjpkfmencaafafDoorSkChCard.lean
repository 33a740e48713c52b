/-
  The law SkyChains: long chains; steps that came in; its row, and the tied card.
-/
import Derived.Test.YtbjpkfmencaafafDoorSkChains
import Derived.Test.YtbjpkfmencaafafDoorLaid
import Derived.Test.YtbjpkfmencaafafDoorCards
import Derived.Test.YtbjpkfmencaafafDoorTie
import Derived.ProofKit
import Derived.Stop.Joined
import Derived.OpenShut
import Derived.ChangeSlices
import Derived.Carry
namespace Go.Proofs.YtbjpkfmencaafafDoor
open Go.ChangeShapes Go.WideShapes Go.ChangeAt Go.RowKit

theorem cell_float {P : Program} {w : World} {r : Reach} {base : Nat} {t : TypeId} {v : Value} (ht : P.underlying t = some (.float .f64)) (h : Cell.okWide P w r base t v) : ∃ b, v = .float .f64 b ∧ b < 18446744073709551616 := by
  simp only [Cell.okWide, ht] at h
  cases v <;> simp_all [Cell.ok]
  simpa [FloatKind.has] using h.2
theorem okWide_three {P : Program} {w : World} {r : Reach} {base : Nat} {t e : TypeId} {fs : Array Field} {v : Value} (ht : P.underlying t = some (.struct fs)) (he : P.underlying e = some (.float .f64))
    (hc : P.cellsOf t = 3) (hts : P.cellTypes P.depth t = some [e, e, e]) (h : Value.okWide P w r base t v) :
    ∃ x y z, v = .agg #[.float .f64 x, .float .f64 y, .float .f64 z] := by
  simp only [Value.okWide, ht] at h
  obtain ⟨cs, rfl, h1, ts, h2, _, h4⟩ := h
  rw [hts] at h2
  cases h2
  rw [hc] at h1
  have g : ∀ i, i < 3 → ∃ b, cs[i]? = some (.float .f64 b) := by
    intro i hi
    have hs : i < cs.size := by omega
    obtain ⟨u, hu, hk⟩ := h4 i cs[i] (by simp [hs])
    have : u = e := by
      rcases (show i = 0 ∨ i = 1 ∨ i = 2 by omega) with rfl | rfl | rfl <;> simpa using hu.symm
    subst this
    obtain ⟨b, hb, _⟩ := cell_float he hk
    exact ⟨b, by simp [hs, hb]⟩
  obtain ⟨x, hx⟩ := g 0 (by omega)
  obtain ⟨y, hy⟩ := g 1 (by omega)
  obtain ⟨z, hz⟩ := g 2 (by omega)
  refine ⟨x, y, z, ?_⟩
  congr 1
  apply Array.ext_getElem?
  intro i
  rcases (show i = 0 ∨ i = 1 ∨ i = 2 ∨ 3 ≤ i by omega) with rfl | rfl | rfl | hi
  · rw [hx]; rfl
  · rw [hy]; rfl
  · rw [hz]; rfl
  · rw [Array.getElem?_eq_none (by omega), Array.getElem?_eq_none (by simpa using hi)]
set_option maxRecDepth 100000 in
set_option maxHeartbeats 8000000 in
theorem chains_out (ad : Option Addr) (n cap : Nat) (v : V3) (w : World) (h : 60 < n) (hn : n ≤ 9223372036854775807) :
    Calls Tryd.prog 3 #[.slice ad n cap, v.val] w fun e w' => e = .returned (.bool true) ∧ Below w.heap.size w w' := by
  unfold V3.val
  go_enter Tryd.func3, Tryd.ntmps3
  go_wp2_with fail
  refine (pointed_any _).mono ?_
  rintro e w1 ⟨rfl, k1⟩
  have HW := hideR (below_go ((Below.refl w.heap.size w).alloc (Nat.le_refl _) _) k1)
  clear k1
  go_wp2
  go_ret
  exact ⟨rfl, unhideR HW⟩
theorem stepsError_nil (w : World) : Calls Tryd.prog 5 #[.slice none 0 0] w fun e w' => ∃ r, e = .returned (.int .i64 r) ∧ StepsAre [] r ∧ w' = w := by
  go_enter Tryd.func5, Tryd.ntmps5
  go_wp2
  go_loop [3] (fun kv => kv = .int .i64 0) (fun _ => 1)
  case atStart => exact rfl
  case round =>
    subst hrel
    go_wp2
    go_ret
    exact ⟨0, rfl, .inl ⟨rfl, fun j hj => absurd hj (by simp)⟩, rfl⟩
theorem chains_any {a : Nat → Addr} (ad : Option Addr) (cap : Nat) (L : List St) (v : V3) (w : World) (hS : Sents w a) (hm : L.length ≤ 9223372036854775807) (hr : (ad = none ∧ L = [] ∧ cap = 0) ∨ ∃ b off, ad = some ⟨b, off, none⟩ ∧ b < w.heap.size ∧ SRow w b off L) :
    Calls Tryd.prog 3 #[.slice ad L.length cap, v.val] w fun e w' => e = .returned (.bool true) ∧ Below w.heap.size w w' := by
  by_cases hl : L.length ≤ 60
  · rcases hr with ⟨rfl, rfl, rfl⟩ | ⟨b, off, rfl, hb, hr⟩
    · exact chains_in none 0 [] v w hS ⟨fun k hk => absurd hk (by simp)⟩ hl (fun u _ => stepsError_nil u)
    · exact chains_in _ cap L v w hS ⟨fun k hk => ⟨b, off, rfl, hb, hr.ca k hk, hr.cb k hk⟩⟩ hl (fun u hu => stepsError_any b off cap L u (hr.below hu hb) (by omega))
  · exact chains_out ad _ cap v w (by omega) hm
theorem add_pl (b o j : Nat) : (⟨b, o, none⟩ : Addr).add j = ⟨b, o + j, none⟩ := by
  by_cases h : j = 0 <;> simp [Addr.add, h]
section
variable {H : Type} {enc : TypeId × Value → H} {P : Program} {w : World} {base : Nat} {spare : Nat → Bool} {held : Bool}
theorem int_of_trod {e : TypeId} {n : Nat} {cs : List Value} {y : DataW H × List MemPlace} (he : P.underlying e = some (.int .i64)) (h : DataW.trod enc P w base spare held n e cs = some y) : ∃ b, cs = [.int .i64 b] := by
  cases n with
  | zero => simp [DataW.trod] at h
  | succ n =>
    unfold DataW.trod at h
    rw [he] at h
    split at h
    all_goals try (rename_i e1; cases e1)
    all_goals try (rename_i e1 e2; cases e1)
    all_goals try cases h
    · split at h
      · exact ⟨_, rfl⟩
      · cases h
theorem step_of_trod {t e : TypeId} {f0 f1 : Field} {n : Nat} {cs : List Value} {y : DataW H × List MemPlace} (ht : P.underlying t = some (.struct #[f0, f1])) (he : P.underlying e = some (.int .i64)) (hc : P.cellsOf e = 1) (h2 : P.cellsOf t = 2)
    (t0 : f0.type = e ∧ f0.offset = 0) (t1 : f1.type = e ∧ f1.offset = 1) (h : DataW.trod enc P w base spare held n t cs = some y) : ∃ s : St, cs = valS s := by
  obtain ⟨xs, m, _, _, hl, hlen, hf⟩ := DataW.trod_struct ht h
  rw [h2] at hl
  match cs, hl with
  | [c0, c1], _ =>
    have g : ∀ i f, #[f0, f1][i]? = some f → f.type = e → f.offset = i → i < 2 → ∃ b, [c0, c1][i]? = some (.int .i64 b) := by
      intro i f hi h1 h2 h3
      have h5 := hf i f hi
      have h6 : ∃ yy, xs[i]? = some yy := by
        have : i < xs.length := by rw [hlen]; simpa using h3
        exact ⟨_, List.getElem?_eq_getElem this⟩
      obtain ⟨yy, hyy⟩ := h6
      rw [h1, h2, hc, hyy] at h5
      obtain ⟨b, hb⟩ := int_of_trod he h5
      refine ⟨b, ?_⟩
      rcases (show i = 0 ∨ i = 1 by omega) with rfl | rfl <;> simpa using hb
    obtain ⟨a, ha⟩ := g 0 f0 rfl t0.1 t0.2 (by omega)
    obtain ⟨b, hb⟩ := g 1 f1 rfl t1.1 t1.2 (by omega)
    simp at ha hb
    exact ⟨⟨a, b⟩, by simp [valS, ha, hb]⟩
end
theorem cellsI : Tryd.prog.cellsOf 3 = 1 := by kernel_rfl
theorem cellsRS : Tryd.prog.cellsOf 29 = 2 := by kernel_rfl
theorem slice_has {P : Program} {w : World} {r : Reach} {base : Nat} {t e : TypeId} {a : Addr} {len cap : Nat} (ht : P.underlying t = some (.slice e)) (h : Value.okWide P w r base t (.slice (some a) len cap)) : a.spot = none ∧ a.block < w.heap.size := by
  simp only [Value.okWide, ht, Cell.okWide, Cell.ok] at h
  obtain ⟨_, _, _, hs, row, cells, hsh, _⟩ := h
  refine ⟨hs, ?_⟩
  rcases Nat.lt_or_ge a.block w.heap.size with h | h
  · exact h
  · simp [World.shape?, Array.getElem?_eq_none h] at hsh
section
variable {H : Type} {enc : TypeId × Value → H} {w : World} {base : Nat} {spare : Nat → Bool} {held : Bool}
theorem open_steps {fuel b off len cap : Nat} {x : DataW H × List MemPlace} (h : DataW.trod enc Tryd.prog w base spare held fuel 22 [.slice (some ⟨b, off, none⟩) len cap] = some x) :
    len ≤ cap ∧ cap ≤ maxLen ∧ ∃ L : List St, L.length = len ∧ SRow w b off L := by
  rcases DataW.trod_slice Tryd.underlying22 h with ⟨h0, _⟩ | ⟨a', len', cap', elems, rest, n, _, hcs, rfl, hb, hl, hm, hlen, hel, _, _⟩
  · cases h0
  simp only [List.cons.injEq, Value.slice.injEq, Option.some.injEq, and_true] at hcs
  obtain ⟨rfl, rfl, rfl⟩ := hcs
  refine ⟨hl, hm, ?_⟩
  have each : ∀ i, i < len → ∃ s : St, w.cell? ⟨b, off + i * 2, none⟩ = some (.int .i64 s.k) ∧ w.cell? ⟨b, off + i * 2 + 1, none⟩ = some (.int .i64 s.d) := by
    intro i hi
    have h1 := hel i hi
    have h2 : elems[i]? = some (elems[i]'(by omega)) := by simp
    rw [h2, cellsRS, Option.bind_eq_some_iff] at h1
    obtain ⟨cs', hcs, hy'⟩ := h1
    obtain ⟨s, rfl⟩ := step_of_trod Tryd.underlying29 Tryd.underlying3 cellsI cellsRS ⟨rfl, rfl⟩ ⟨rfl, rfl⟩ hy'
    obtain ⟨_, _, hcell⟩ := World.cells?_some hcs
    rw [add_pl] at hcell
    refine ⟨s, ?_, ?_⟩
    · have := hcell 0 (by omega); rw [add_pl] at this; exact this
    · have := hcell 1 (by omega); rw [add_pl] at this; exact this
  let num : Nat → Int := fun k => match w.cell? ⟨b, k, none⟩ with | some (.int _ y) => y | _ => 0
  have hnum : ∀ k y, w.cell? ⟨b, k, none⟩ = some (.int .i64 y) → num k = y := fun k y h => by simp only [num, h]
  refine ⟨(List.range len).map fun i => ⟨num (off + i * 2), num (off + i * 2 + 1)⟩, by simp, ?_⟩
  have hget : ∀ j, j < len → ((List.range len).map fun i => (⟨num (off + i * 2), num (off + i * 2 + 1)⟩ : St)).getD j st0 = ⟨num (off + j * 2), num (off + j * 2 + 1)⟩ := fun j hj => by
    simp [List.getD, hj]
  refine ⟨fun j hj => ?_, fun j hj => ?_⟩
  all_goals
    have hj : j < len := by simpa using hj
    rw [hget j hj]
    obtain ⟨q, h0, h1⟩ := each j hj
  · rw [h0, hnum _ _ h0]
  · rw [h1, hnum _ _ h1]
end
theorem laidOut : laidOutB Tryd.prog = true := by kernel_rfl
theorem door_met (os : Os) (args : Array Value) : laidMetH Tryd.prog Rows.skyChainsRow.laid ((World.doorLaid Tryd.prog 206 os).forCall (fun _ _ => 0) ⟨#[], args, []⟩).memory :=
  laidMetH_of_parts3 (fuel := 8) (laidMet_of_run' 8 (by kernel_rfl) (by kernel_rfl)) (by kernel_rfl) (by kernel_rfl)
set_option maxRecDepth 100000 in
theorem law_lifted (os : Os) (started : os.Started) (H : Type) (enc : TypeId × Value → H) :
    ReturnsInHanded {} Tryd.checked os 3 .any (fun w args => (Rows.skyChainsSpec.pre enc Tryd.prog Tryd.f3 [] false w args ∧ laidMetH Tryd.prog Rows.skyChainsRow.laid w) ∧ sizedMet enc Tryd.prog Tryd.f3 (OpenSpec.ofChange Rows.skyChainsSpec) false w args)
      (Rows.skyChainsSpec.post enc Tryd.prog Tryd.f3 false true false false) := by
  refine returnsInHanded_of_change_and (C := Tryd.checked) (X := fun w _ => laidMetH Tryd.prog Rows.skyChainsRow.laid w) (fun _ _ _ hh h => h.of_heap hh) own started (by kernel_rfl) Tryd.func3
    (ChangeSpec.witness_shaped (enc := enc) (C := Tryd.checked) (os := os) (X := fun w _ => laidMetH Tryd.prog Rows.skyChainsRow.laid w) false (World.doorLaid Tryd.prog 206 os) #[.slice none 0 0, .agg #[.float .f64 0, .float .f64 0, .float .f64 0]] 8 rfl (World.shaped_of_RefB (by kernel_rfl) (by kernel_rfl)) (by kernel_rfl) (by kernel_rfl) (by kernel_rfl) (door_met os _)) ?_
  intro W base args ds gs before hval0 hW _ _ hL _
  have hval : ∀ (j : Nat) t v, Tryd.f3.params[j]? = some t → args[j]? = some v → Value.okWide Tryd.prog W .any base t v := hval0
  have hW' := hW
  obtain ⟨p, q, hA0, hV, rfl, hfz, hnd⟩ := hW
  have hA : DataW.TrodAll enc Tryd.prog W 0 (fun _ => true) true Tryd.f3.params.toList args.toList ds p := hA0
  rw [Tryd.params3] at hA hval
  obtain ⟨v0, v1, d0, d1, p0, p1, rfl, rfl, rfl, h0, h1⟩ := trodAll_two hA
  obtain ⟨rfl, rfl⟩ := trodVars_none hV
  obtain ⟨a0, len, cap, rfl⟩ := okWide_slice Tryd.underlying22 (hval 0 22 v0 rfl rfl)
  obtain ⟨x, y, z, rfl⟩ := okWide_three Tryd.underlying25 Tryd.underlying23 (by kernel_rfl) (by kernel_rfl) (hval 1 25 v1 rfl rfl)
  obtain ⟨a, hS⟩ := sents_of_laid hL
  have hread := h0
  obtain ⟨fuel, hf⟩ := h0
  clear hA0 hval0
  simp only [List.append_nil] at hW'
  have hlt : ∀ x ∈ (p0 ++ p1), x.block < W.heap.size := fun x hx => hW'.lt x hx
  have walk : Calls Tryd.prog 3 #[.slice a0 len cap, .agg #[.float .f64 x, .float .f64 y, .float .f64 z]] W fun e w' => e = .returned (.bool true) ∧ Below W.heap.size W w' := by
    cases a0 with
    | none =>
      have hz : len = 0 ∧ cap = 0 := by
        rcases DataW.trod_slice Tryd.underlying22 hf with ⟨h, _⟩ | ⟨a', len', cap', _, _, _, _, h, _⟩
        · simpa [Value.cells] using h
        · simp [Value.cells] at h
      obtain ⟨rfl, rfl⟩ := hz
      exact chains_any none 0 [] ⟨x, y, z⟩ W hS (by simp) (.inl ⟨rfl, rfl, rfl⟩)
    | some ad =>
      obtain ⟨hsp, hbl⟩ := slice_has Tryd.underlying22 (hval 0 22 _ rfl rfl)
      obtain ⟨b, off, spot⟩ := ad
      subst hsp
      obtain ⟨hc, hm, L, hL', hrow⟩ := open_steps hf
      unfold maxLen at hm
      subst hL'
      exact chains_any _ cap L ⟨x, y, z⟩ W hS (by omega) (.inr ⟨b, off, rfl, hbl, hrow⟩)
  have e1 : Rows.skyChainsSpec.fn H ([d0, d1] ++ []) = { results := [.lit (.bool true)], args := [d0, d1] } := by simp [Rows.skyChainsSpec]
  refine walk.mono fun e W' ⟨he, hb⟩ => ?_
  subst he
  refine ⟨_, rfl, _, _, _, [], (p0 ++ p1), [], hW', ?_, ?_, ?_, hb.frame _, fun h => by cases h⟩
  · rw [e1]; exact trodAll_mk1 (shut_bool Tryd.underlying4 true)
  · rw [e1]; exact trodAll_mk2 (Below.trod laidOut (by kernel_rfl) (by decide +kernel) hread hb fun x hx => hlt x (List.mem_append_left _ hx)) (Below.trod laidOut (by kernel_rfl) (by decide +kernel) h1 hb fun x hx => hlt x (List.mem_append_right _ hx))
  · rw [e1]; rfl
theorem law_holds : Rows.SkyChainsSaid :=
  OpenClaim.holds_of_wide 3 Tryd.f3 rfl rfl rfl rfl rfl rfl rfl ⟨rfl, rfl, rfl, rfl, rfl⟩ rfl rfl rfl rfl rfl (by kernel_rfl) Tryd.func3 (by kernel_rfl)
    (of_decide_eq_true (by kernel_rfl)) (by unfold Func.isWrapper; first | (rw [if_pos (by decide +kernel)]; kernel_rfl) | (rw [if_neg (by decide +kernel)]; exact ⟨rfl, rfl⟩))
    (fun os started H enc _ => law_lifted os started H enc)
theorem law_card : Rows.SkyChainsCardSaid :=
  Claim7.holds_tied_plain_at .later [] Rows.skyChainsCard.laidKinds true Rows.skyChainsCard.stood.harness true
    law_holds (fun _ h => by cases h) (by kernel_rfl) (fun _ h => by cases h) skyChains_row_tie rfl ⟨rfl, rfl⟩ (by kernel_rfl) rfl
    (fun f fn hf hfn => by
      obtain rfl : f = 3 := Option.some.inj ((show Tryd.prog.funcNamed Rows.skyChainsRow.func = some 3 by kernel_rfl).symm.trans hf) |>.symm
      obtain rfl : fn = Tryd.f3 := (Option.some.inj (Tryd.func3.symm.trans hfn)).symm
      exact ⟨by kernel_rfl, fun j t ht => by
        rw [Tryd.params3] at ht
        have hm : t ∈ [22, 25] := by simpa using Array.mem_of_getElem? ht
        have hall : ([22, 25].all fun u => !Tryd.prog.wantsStandIn u) = true := by kernel_rfl
        exact (show Tryd.prog.wantsStandIn t = false by simpa using List.all_eq_true.1 hall t hm)⟩)
    (by kernel_rfl)
#print axioms law_card
end Go.Proofs.YtbjpkfmencaafafDoor
