/-
  Against a chain: the loop over what comes from the end.
-/
import Derived.Test.YtbjpkfmencaafafDoorDAgainst
namespace Go.Proofs.YtbjpkfmencaafafDoor
open Go Go.RowKit Go.Shelf
attribute [local go_sem] Oper.semAt_some

set_option maxRecDepth 100000 in
set_option maxHeartbeats 8000000 in
theorem against_good {a : Nat → Addr} (L : List St) (sv : Value) (x y z : Nat) (w : World) (hS : Sents w a) (hI : Steps3 w.heap.size w sv L) (hl : L.length ≤ 200) (hg : ∀ j, j < L.length → (L.getD j st0).good) :
    Calls Tryd.prog 7 #[sv, .agg #[.float .f64 x, .float .f64 y, .float .f64 z]] w fun e w' => (∃ q, Ag L ⟨x, y, z⟩ L.length q ∧ e = .returned (.tuple #[q.val, .nilIface])) ∧ Below w.heap.size w w' := by
  have hsf := run_store_float Tryd.prog
  have hb2 := below_al2 w (.cells #[.float .f64 x, .float .f64 y, .float .f64 z] 25) (.cells #[.float .f64 0, .float .f64 0, .float .f64 0] 25)
  have HV := hideR (valid_good (hI.below hb2 (Nat.le_refl _)) hb2.size (hS.below hb2 (Nat.le_refl _)) hl hg)
  obtain ⟨ad, cap, rfl⟩ := steps_form hI
  have HI := hideR hI
  clear hS hI hg hb2
  refine (callsIn_wide (n := 6)).1 ?_
  refine callsIn_of_wp_marks Tryd.func7 rfl trivial ?_ rfl
  simp only [Tryd.ntmps7, List.size_toArray, List.length_cons, List.length_nil, Nat.reduceAdd, Nat.reduceSub, Array.replicate_succ, Array.replicate_zero, List.push_toArray, List.append_toArray, List.nil_append, List.cons_append]
  gi_wp2
  refine ⟨trivial, (callsIn_wide.2 (unhideR HV)).mono ?_⟩
  rintro e w1 ⟨rfl, k1⟩
  obtain ⟨h0, h1, hB1⟩ := two_blocks k1
  have A0 := hideR (VBox.mk (q := ⟨x, y, z⟩) h0)
  have A1 := hideR (VBox.mk (q := ⟨0, 0, 0⟩) h1)
  have HW := hideR hB1
  clear k1 h0 h1 hB1 HV
  gi_wp2
  refine ⟨trivial, (callsIn_wide.2 (backward_any _ ⟨_, _, _, rfl⟩ _)).mono ?_⟩
  rintro e w2 ⟨rfl, rfl⟩
  gi_wp2
  have ls := (unhideR HW).size
  have l1 := ltB (unhideR A1).at_
  obtain ⟨W0, hW0⟩ : ∃ W0, w1.alloc (.cells #[.slice ad L.length cap] 27) = W0 := ⟨_, rfl⟩
  have B0 : VBox W0 w.heap.size ⟨x, y, z⟩ := ⟨hW0 ▸ keepA (unhideR A0).at_⟩
  have B1 : VBox W0 (w.heap.size + 1) ⟨0, 0, 0⟩ := ⟨hW0 ▸ keepA (unhideR A1).at_⟩
  have hB : Below w.heap.size w W0 := hW0 ▸ (unhideR HW).alloc ls _
  have hbox : W0.heap[w1.heap.size]? = some (.cells #[.slice ad L.length cap] 27) := hW0 ▸ alloc_last w1 _
  have hst := back_stops (6 - 1) w1.heap.size w.heap.size _ L hl W0 hB.size hbox ((unhideR HI).below hB (Nat.le_refl _))
  have l0 := ltB hbox
  rw [hW0]
  clear hW0 A0 A1 HW HI hbox
  have nb : ∀ (V V' : World) (row : Option Nat) (b : Nat) (c : Array Value) (t : TypeId), V.grownBy V' row → (∀ r, row = some r → W0.heap.size ≤ r ∧ ∃ o : Obj, V.heap[r]? = some o ∧ o.isCells = false) → V.heap[b]? = some (.cells c t) → V'.heap[b]? = some (.cells c t) := by
    intro V V' row b c t hg hr h
    refine (hg.block b (ltB h) (fun e => ?_)).trans h
    obtain ⟨_, o, ho, hc⟩ := hr b e.symm
    rw [h] at ho
    cases ho
    cases hc
  refine wpIn_rangeFunc_ownH rfl (by omega) (gf := 31) (lb := #[.pointer (some ⟨w1.heap.size, 0, none⟩)]) rfl trivial (enters_of Tryd.func31 (by kernel_rfl) rfl) hst KpB.trans
    (fun V l o o' hle hv h1 h2 => ⟨belowK_b (w := W0) hB.size V l o o' hle hv h1 h2, ?hkb⟩) (Below.refl _ _) (fun _ => rfl)
    (fun pre V => ∃ q, Tl ⟨x, y, z⟩ pre q ∧ VBox V w.heap.size q ∧ VBox V (w.heap.size + 1) ⟨0, 0, 0⟩ ∧ Below w.heap.size w V ∧ W0.heap.size ≤ V.heap.size)
    (fun _ _ _ => False) ?hI (fun _ _ _ _ _ hs _ _ => hs) ⟨_, .nil, B0, B1, hB, Nat.le_refl _⟩
    (fun s a' V => ∃ Bx, w.heap.size + 1 < Bx ∧ V.heap[Bx]? = some (.cells #[.int .i64 s.2.k, .int .i64 s.2.d] 30) ∧ a' = { tmps := #[.slice ad L.length cap, .agg #[.float .f64 x, .float .f64 y, .float .f64 z], undef, .pointer (some ⟨w.heap.size, 0, none⟩), .pointer (some ⟨w.heap.size + 1, 0, none⟩), .nilIface, .nilIface, undef, .pointer (some ⟨Bx, 0, none⟩), .slice ad L.length cap, .nilIface, .nilIface, .bool false, undef, undef, .slice ad L.length cap, .func (.func 31) #[] #[.pointer (some ⟨w1.heap.size, 0, none⟩)], .int .i64 s.1, .agg #[.int .i64 s.2.k, .int .i64 s.2.d], undef, undef, undef, undef, undef, undef, undef, undef, undef, undef], defers := [] }) ?hAx ?assign ?body ?done ?stop
  case hkb => exact (grownBy_putObj' V l o').block _ (by have := (Array.getElem?_eq_some_iff.1 hv).1; omega) (fun e => by cases e; omega)
  case hI =>
    rintro pre V V' row ⟨q, h1, h2, h3, h4, h5⟩ hg hr
    exact ⟨q, h1, ⟨nb _ _ _ _ _ _ hg hr h2.at_⟩, ⟨nb _ _ _ _ _ _ hg hr h3.at_⟩, h4.grown hg h4.size (fun k e => Nat.le_trans hB.size (hr k e).1), Nat.le_trans h5 hg.size⟩
  case hAx =>
    rintro s a' _ V V' row ⟨Bx, h1, h2, h3⟩ hg hr
    exact ⟨Bx, h1, nb _ _ _ _ _ _ hg hr h2, h3⟩
  case assign =>
    rintro l pre s V K ⟨q, h1, h2, h3, h4, h5⟩ hK
    have l3 := ltB h3.at_
    unfold encS
    gi_wp2
    exact hK _ _ ((KeepsOthers.alloc _ _).from _) ⟨(Below.refl _ V).alloc h4.size _, alloc_block (by omega)⟩ ⟨q, h1, ⟨keepA h2.at_⟩, ⟨keepA h3.at_⟩, h4.alloc h4.size _, by simp; omega⟩ ⟨V.heap.size, l3, alloc_last V _, rfl⟩
  case body =>
    rintro l pre s a' V hle ⟨r, hr⟩ ⟨q, h1, h2, h3, h4, h5⟩ ⟨Bx, hBx, hbx, rfl⟩ hlt
    have HTl := hideR h1
    have H2 := hideR h2
    have H3 := hideR h3
    have H4 := hideR h4
    have HX := hideR hbx
    have hnn := nrm_range s.2.d
    have hwr : IntKind.i64.wrap (-nrm s.2.d) = -nrm s.2.d := by rw [IntKind.wrap_i64]; omega
    have lx := ltB hbx
    have lq := ltB h3.at_
    clear h1 h2 h3 h4 hbx hr hst B0 B1 nb
    refine wpIn_block ?_
    refine region_in (by kernel_rfl) (fun _ _ h => h) (by kernel_rfl) ?_
    refine any_made 0 #[true, true, true, true, true, true, true, true, true, false] [.lets (· = .pointer (some ⟨Bx, 0, none⟩)),
      .lets (· = .int .i64 s.2.k),
      .lets (· = .agg #[.float .f64 q.x, .float .f64 q.y, .float .f64 q.z]),
      .lets (· = .pointer (some ⟨Bx, 1, none⟩)),
      .lets (· = .int .i64 s.2.d),
      .lets (· = .int .i64 (nrm s.2.d)),
      .lets (· = .int .i64 (-nrm s.2.d)),
      .made TfS (RdS (-nrm s.2.d)),
      .uses (TuS s.2.k (-nrm s.2.d) q)] [7] [8] (by kernel_rfl) rfl ?kinds (by kernel_rfl) (by kernel_rfl) (by kernel_rfl) ?_
    case kinds =>
      constructor
      · intro i h
        rcases i with _ | _ | _ | _ | _ | _ | _ | _ | _ | i <;> simp [Kx.isMade] at h ⊢
      · intro i h
        rcases i with _ | _ | _ | _ | _ | _ | _ | _ | _ | i <;> simp [Kx.isUse] at h ⊢
    refine lexX_step (fun K hK => ⟨by kernel_rfl, ⟨_, rfl⟩, fun v hv => ?_, fun v hv => ?_⟩)
    · go_simp
      exact mUpon_b
    subst hv
    go_simp
    refine hK _ ?_
    clear hK K
    refine lexX_step (fun K hK => ⟨by kernel_rfl, ⟨_, rfl⟩, fun v hv => ?_, fun v hv => ?_⟩)
    · obtain ⟨⟨c0, c1⟩, _⟩ := pair_at (keepB (unhideR HX) hv)
      go_simp
      exact mUpon_b
    subst hv
    go_simp
    refine hK _ ?_
    clear hK K
    refine lexX_step (fun K hK => ⟨by kernel_rfl, ⟨_, rfl⟩, fun v hv => ?_, fun v hv => ?_⟩)
    · obtain ⟨⟨c0, c1, c2⟩, _⟩ := three_at (keepB (unhideR H2).at_ hv)
      go_simp
      exact mUpon_b
    subst hv
    go_simp
    refine hK _ ?_
    clear hK K
    refine lexX_step (fun K hK => ⟨by kernel_rfl, ⟨_, rfl⟩, fun v hv => ?_, fun v hv => ?_⟩)
    · go_simp
      exact mUpon_b
    subst hv
    go_simp
    refine hK _ ?_
    clear hK K
    refine lexX_step (fun K hK => ⟨by kernel_rfl, ⟨_, rfl⟩, fun v hv => ?_, fun v hv => ?_⟩)
    · obtain ⟨⟨c0, c1⟩, _⟩ := pair_at (keepB (unhideR HX) hv)
      go_simp
      exact mUpon_b
    subst hv
    go_simp
    refine hK _ ?_
    clear hK K
    refine lexX_step (fun K hK => ⟨by kernel_rfl, ⟨_, rfl⟩, fun v hv => ?_, fun v hv => ?_⟩)
    · go_simp
      refine (norm_any _ _).mono ?_
      rintro e w9 ⟨rfl, rfl⟩
      exact ⟨_, rfl, rfl, Below.refl _ _⟩
    subst hv
    go_simp
    refine hK _ ?_
    clear hK K
    refine lexX_step (fun K hK => ⟨by kernel_rfl, ⟨_, rfl⟩, fun v hv => ?_, fun v hv => ?_⟩)
    · go_simp
      exact mUpon_b
    subst hv
    go_simp
    refine hK _ ?_
    clear hK K
    refine lexX_made ⟨by kernel_rfl, ⟨_, 0, 0, rfl⟩, rd_stb _, fun v hv => ?_, ?_⟩
    · go_simp
      refine (by_any _ _).mono ?_
      rintro e w9 ⟨bc, bs, rfl, hR, k⟩
      refine ⟨_, rfl, ⟨⟨bc, bs, rfl⟩, fun bc' bs' e => ?_⟩, k⟩
      unfold turnF at e
      cases e
      exact hR
    rintro _ ⟨bc, bs, rfl⟩ K hK
    go_simp
    refine hK _ ?_
    clear hK K
    refine lexX_uses (fun K hK => ⟨by kernel_rfl, tu_some _ _ _, fun v hv hγ => ?_, fun v hv => ?_⟩)
    · have hR := hγ.2 bc bs rfl
      go_simp
      refine (about_any _ _ _ _ _ _ _ _ hR).mono ?_
      rintro e w9 ⟨u, rfl, hu, k⟩
      exact ⟨_, rfl, hu, k⟩
    obtain ⟨p, rfl, hp⟩ := turned_form (p := q) hv
    go_simp
    refine hK _ ?_
    clear hK K hv
    have HP := hideR hp
    clear hp
    refine lexX_end (fun v hv => ?_)
    have hb := hv.low
    clear hv
    have B2 := hideR (VBox.mk (keepB (unhideR H2).at_ hb))
    have B3 := hideR (VBox.mk (keepB (unhideR H3).at_ hb))
    have HBv := hideR (below_go (unhideR H4) hb)
    have hsz := hb.size
    have HLow := hideR hb
    clear hb
    obtain ⟨⟨c0, c1, c2⟩, f0, f1, f2⟩ := three_at (unhideR B2).at_
    unfold V3.val
    refine wpAny_step (i := 9) (by kernel_rfl) rfl (by kernel_rfl) (fun K hK => ?_)
    unfold Oper.wp
    go_simp
    refine hK _ _ ?_
    clear hK K
    refine wpAny_end (by kernel_rfl) ?_
    refine ⟨?keeps, ⟨?low, ?box⟩, p, .snoc (unhideR HTl) (unhideR HP), (unhideR B2).set p, ⟨(set3_other (by omega)).trans (unhideR B3).at_⟩, below_three (unhideR HBv) (Nat.le_refl _) _ _ _, ?size⟩
    case keeps => exact ((((KeepsOthers.mk hsz fun k o hk _ => keepB hk (unhideR HLow)).trans (KeepsOthers.setCell _ _ _)).trans (KeepsOthers.setCell _ _ _)).trans (KeepsOthers.setCell _ _ _)).from _
    case low => exact ((((unhideR HLow).mono (unhideR H4).size).setCell (p := ⟨w.heap.size, 0, none⟩) (Nat.le_refl _) _).setCell (p := ⟨w.heap.size, 1, none⟩) (Nat.le_refl _) _).setCell (p := ⟨w.heap.size, 2, none⟩) (Nat.le_refl _) _
    case box => exact (set3_other (by omega)).trans ((unhideR HLow).block _ (by omega))
    case size => exact Nat.le_trans h5 (Nat.le_trans hsz (((Below.refl 0 v).setCell (p := ⟨w.heap.size, 0, none⟩) (Nat.zero_le _) _).setCell (p := ⟨w.heap.size, 1, none⟩) (Nat.zero_le _) _ |>.setCell (p := ⟨w.heap.size, 2, none⟩) (Nat.zero_le _) _).size)
  case done =>
    rintro D ys V hD rfl ⟨q, h1, h2, h3, h4, h5⟩ hK
    obtain ⟨⟨c0, c1, c2⟩, _⟩ := three_at h2.at_
    obtain ⟨⟨d0, d1, d2⟩, f0, f1, f2⟩ := three_at h3.at_
    have HA := hideR (tl_ag (Nat.le_refl _) h1)
    clear h1
    gi_wp2
    have hK2 := (((KeepsOthers.setCell V ⟨w.heap.size + 1, 0, none⟩ (.float .f64 q.x)).trans (KeepsOthers.setCell _ ⟨w.heap.size + 1, 1, none⟩ (.float .f64 q.y))).trans (KeepsOthers.setCell _ ⟨w.heap.size + 1, 2, none⟩ (.float .f64 q.z))).same D _ hK rfl
    refine ⟨by simp, .inl ⟨_, _, rfl, run_takeDeferred hK2, ?_⟩⟩
    have hb3 := below_three h4 (show w.heap.size ≤ w.heap.size + 1 by omega) (.float .f64 q.x) (.float .f64 q.y) (.float .f64 q.z)
    have hlt := ltB hK2
    have hU : ((((V.setCell ⟨w.heap.size + 1, 0, none⟩ (.float .f64 q.x)).setCell ⟨w.heap.size + 1, 1, none⟩ (.float .f64 q.y)).setCell ⟨w.heap.size + 1, 2, none⟩ (.float .f64 q.z)).putObj D (.deferred none)).heap[w.heap.size + 1]? = some (.cells #[.float .f64 q.x, .float .f64 q.y, .float .f64 q.z] 25) :=
      ((grownBy_putObj' _ D _).block (w.heap.size + 1) (by omega) (fun e => by cases e; omega)).trans (set3 h3.at_)
    have hBU : Below w.heap.size w ((((V.setCell ⟨w.heap.size + 1, 0, none⟩ (.float .f64 q.x)).setCell ⟨w.heap.size + 1, 1, none⟩ (.float .f64 q.y)).setCell ⟨w.heap.size + 1, 2, none⟩ (.float .f64 q.z)).putObj D (.deferred none)) := hb3.trans (belowK_b (w := w) (Nat.le_refl _) _ D _ _ (by omega) hK2 rfl rfl)
    generalize (((V.setCell ⟨w.heap.size + 1, 0, none⟩ (.float .f64 q.x)).setCell ⟨w.heap.size + 1, 1, none⟩ (.float .f64 q.y)).setCell ⟨w.heap.size + 1, 2, none⟩ (.float .f64 q.z)).putObj D (.deferred none) = U at *
    obtain ⟨⟨u0, u1, u2⟩, _⟩ := three_at hU
    refine ⟨.tuple #[q.val, .nilIface], ?_, ⟨q, unhideR HA, rfl⟩, hBU⟩
    unfold V3.val
    simp [results, Tryd.results7, go_sem, u0, u1, u2]
  case stop =>
    rintro D c pre V _ _ h _
    exact h.elim
end Go.Proofs.YtbjpkfmencaafafDoor
