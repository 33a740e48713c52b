/-
  The order in which events stand, and slices.SortFunc by it, by contract.
-/
import Derived.Test.YtlhjmmcimhceeahDoorEvPut0
import Derived.Test.YtlhjmmcimhceeahDoorSortL
import Derived.Test.YtlhjmmcimhceeahDoorLooseG
namespace Go.Proofs.YtlhjmmcimhceeahDoor
open Go Go.RowKit Go.Sort Go.Shelf

theorem isNaN_any (x : Int) (w : World) : Calls Tryd.prog 77 #[.int .i64 x] w fun e w' => e = .returned (.bool false) ∧ w' = w := by
  go_enter Tryd.func77, Tryd.ntmps77
  go_wp2
  go_ret
  exact ⟨rfl, rfl⟩
def cmp2 (x y : Int) : Int := if x < y then -1 else if y < x then 1 else 0
set_option maxHeartbeats 800000 in
theorem compare_any (x y : Int) (w : World) : Calls Tryd.prog 55 #[.int .i64 x, .int .i64 y] w fun e w' => e = .returned (.int .i64 (cmp2 x y)) ∧ w' = w := by
  unfold cmp2
  by_cases h1 : x < y
  · rw [if_pos h1]
    go_enter Tryd.func55, Tryd.ntmps55
    go_wp2_with (go_at_call 77; refine (isNaN_any _ _).mono ?_; rintro e w' ⟨rfl, rfl⟩)
    all_goals
      go_ret
      exact ⟨rfl, rfl⟩
  · rw [if_neg h1]
    by_cases h2 : y < x
    · rw [if_pos h2]
      go_enter Tryd.func55, Tryd.ntmps55
      go_wp2_with (go_at_call 77; refine (isNaN_any _ _).mono ?_; rintro e w' ⟨rfl, rfl⟩)
      all_goals
        go_ret
        exact ⟨rfl, rfl⟩
    · rw [if_neg h2]
      go_enter Tryd.func55, Tryd.ntmps55
      go_wp2_with (go_at_call 77; refine (isNaN_any _ _).mono ?_; rintro e w' ⟨rfl, rfl⟩)
      all_goals
        go_ret
        exact ⟨rfl, rfl⟩
def or3 (x y z : Int) : Int := if x = 0 then (if y = 0 then z else y) else x
set_option maxRecDepth 100000 in
set_option maxHeartbeats 800000 in
theorem or_any (x y z : Int) {b : Nat} {w : World} (h : w.heap[b]? = some (.cells #[.int .i64 x, .int .i64 y, .int .i64 z] 3)) : Calls Tryd.prog 54 #[.slice (some ⟨b, 0, none⟩) 3 3] w fun e w' => e = .returned (.int .i64 (or3 x y z)) ∧ w' = w := by
  obtain ⟨R, HR⟩ : ∃ R, HeldR (or3 x y z = R) := ⟨_, rfl⟩
  rw [unhideR HR]
  obtain ⟨⟨c0, c1, c2⟩, _⟩ := cell_at h
  clear h
  go_enter Tryd.func54, Tryd.ntmps54
  go_wp2
  go_loop [8] (fun kv => (kv = .int .i64 0) ∨ (kv = .int .i64 1 ∧ HeldR (x = 0)) ∨ (kv = .int .i64 2 ∧ HeldR (x = 0) ∧ HeldR (y = 0)) ∨ (kv = .int .i64 3 ∧ HeldR (x = 0) ∧ HeldR (y = 0) ∧ HeldR (z = 0))) (fun kv => 4 - (intOf kv).toNat)
  case atStart => exact .inl rfl
  case round =>
    rcases hrel with rfl | ⟨rfl, h0⟩ | ⟨rfl, h0, h1⟩ | ⟨rfl, h0, h1, h2⟩
    · by_cases hx : x = 0
      · have tx : (x == 0) = true := by simp [hx]
        go_wp2
        exact ⟨.inr (.inl ⟨rfl, hx⟩), by simp [intOf]⟩
      · have tx : (x == 0) = false := by simp [hx]
        have e3 := unhideR HR
        unfold or3 at e3
        rw [if_neg hx] at e3
        subst e3
        clear HR
        go_wp2
        go_ret
        exact ⟨rfl, rfl⟩
    · by_cases hx : y = 0
      · have tx : (y == 0) = true := by simp [hx]
        go_wp2
        exact ⟨.inr (.inr (.inl ⟨rfl, h0, hx⟩)), by simp [intOf]⟩
      · have tx : (y == 0) = false := by simp [hx]
        have e3 := unhideR HR
        unfold or3 at e3
        rw [if_pos (unhideR h0), if_neg hx] at e3
        subst e3
        clear HR
        go_wp2
        go_ret
        exact ⟨rfl, rfl⟩
    · by_cases hx : z = 0
      · have tx : (z == 0) = true := by simp [hx]
        go_wp2
        exact ⟨.inr (.inr (.inr ⟨rfl, h0, h1, hx⟩)), by simp [intOf]⟩
      · have tx : (z == 0) = false := by simp [hx]
        have e3 := unhideR HR
        unfold or3 at e3
        rw [if_pos (unhideR h0), if_pos (unhideR h1)] at e3
        subst e3
        clear HR
        go_wp2
        go_ret
        exact ⟨rfl, rfl⟩
    · have e3 := unhideR HR
      unfold or3 at e3
      rw [if_pos (unhideR h0), if_pos (unhideR h1), unhideR h2] at e3
      subst e3
      clear HR
      go_wp2
      go_ret
      exact ⟨rfl, rfl⟩
def ordV (x y : Evt) : Int := or3 (cmp2 x.at_ y.at_) (cmp2 x.ix y.ix) (cmp2 x.k y.k)
theorem cmp2_neg {x y : Int} : cmp2 x y < 0 ↔ x < y := by unfold cmp2; split <;> (try split) <;> omega
theorem cmp2_zero {x y : Int} : cmp2 x y = 0 ↔ x = y := by unfold cmp2; split <;> (try split) <;> omega
theorem ordV_neg (x y : Evt) : ordV x y < 0 ↔ x.Ahead y := by
  unfold ordV or3 Evt.Ahead
  have a1 := cmp2_neg (x := x.at_) (y := y.at_)
  have a2 := cmp2_zero (x := x.at_) (y := y.at_)
  have b1 := cmp2_neg (x := x.ix) (y := y.ix)
  have b2 := cmp2_zero (x := x.ix) (y := y.ix)
  have c1 := cmp2_neg (x := x.k) (y := y.k)
  split
  · split <;> omega
  · omega
theorem ltV (x y : Evt) : ltOf ordV x y = true ↔ x.Ahead y := by
  unfold ltOf
  rw [decide_eq_true_eq]
  exact ordV_neg x y
theorem ltV' (x y : Evt) : ltOf ordV x y = false ↔ ¬ x.Ahead y := by
  rw [← ltV]
  cases ltOf ordV x y <;> simp
theorem swoV : SWO (ltOf ordV) where
  irrefl x := by rw [ltV']; unfold Evt.Ahead; omega
  trans x y z h1 h2 := by rw [ltV] at *; exact ahead_trans h1 h2
  ntrans x y z h1 h2 := by rw [ltV'] at *; unfold Evt.Ahead at *; omega
theorem totV (x y : Evt) (h1 : ltOf ordV x y = false) (h2 : ltOf ordV y x = false) : x = y := by
  rw [ltV'] at *
  rcases ahead_total h1 with h | h
  · exact absurd h h2
  · exact h
theorem merge_is (L : List Evt) : L.mergeSort (fun x y => !(ltOf ordV) y x) = sortV L := by
  refine sortV_unique ?_ (List.mergeSort_perm L _)
  have h := List.pairwise_mergeSort (le := fun x y : Evt => !(ltOf ordV) y x) (fun a b c h1 h2 => by
    simp only [Bool.not_eq_true'] at *
    exact swoV.ntrans c b a h2 h1) (fun a b => by
    simp only [Bool.or_eq_true, Bool.not_eq_true']
    rcases Decidable.em (a.Ahead b) with q | q
    · exact .inl ((ltV' b a).2 (by unfold Evt.Ahead at *; omega))
    · exact .inr ((ltV' a b).2 q)) L
  refine h.imp ?_
  intro a b q
  simp only [Bool.not_eq_true'] at q
  rw [ltV'] at q
  unfold Evt.Le
  rcases ahead_total q with k | k
  · exact .inl k
  · exact .inr k.symm
set_option maxRecDepth 100000 in
set_option maxHeartbeats 1600000 in
theorem order_any (x y : Evt) (W : World) : Calls Tryd.prog 37 #[.agg #[.int .i64 x.k, .int .i64 x.at_, .int .i64 x.ix], .agg #[.int .i64 y.k, .int .i64 y.at_, .int .i64 y.ix]] W fun e w' => e = .returned (.int .i64 (ordV x y)) ∧ ∃ q os', w' = grow (W.drewN q) os' := by
  unfold ordV
  have ha := fun u => compare_any x.at_ y.at_ u
  have hb := fun u => compare_any x.ix y.ix u
  have hc := fun u => compare_any x.k y.k u
  generalize cmp2 x.at_ y.at_ = a at *
  generalize cmp2 x.ix y.ix = b at *
  generalize cmp2 x.k y.k = c at *
  have hor := fun (u : World) (g : Nat) (h : u.heap[g]? = some (.cells #[.int .i64 a, .int .i64 b, .int .i64 c] 3)) => or_any a b c h
  generalize or3 a b c = R at *
  go_enter Tryd.func37, Tryd.ntmps37
  go_wp2_with fail
  have HE1 := hideR (keepA (o' := .cells #[.int .i64 y.k, .int .i64 y.at_, .int .i64 y.ix] 56) (alloc_last W (.cells #[.int .i64 x.k, .int .i64 x.at_, .int .i64 x.ix] 56)))
  have HE2 := hideR (alloc_two' W (.cells #[.int .i64 x.k, .int .i64 x.at_, .int .i64 x.ix] 56) (.cells #[.int .i64 y.k, .int .i64 y.at_, .int .i64 y.ix] 56))
  have HG := hideR (((G.Gr.refl W).alloc (.cells #[.int .i64 x.k, .int .i64 x.at_, .int .i64 x.ix] 56)).alloc (.cells #[.int .i64 y.k, .int .i64 y.at_, .int .i64 y.ix] 56))
  generalize (W.alloc (.cells #[.int .i64 x.k, .int .i64 x.at_, .int .i64 x.ix] 56)).alloc (.cells #[.int .i64 y.k, .int .i64 y.at_, .int .i64 y.ix] 56) = W1 at *
  refine G.wp_region_new 2 #[true, true, true, true, true, true, true, true, true, true, true, true, true, true, true, false, false, false] [.lets (· = .pointer (some ⟨W.heap.size, 1, none⟩)),
    .lets (· = .int .i64 x.at_),
    .lets (· = .pointer (some ⟨W.heap.size + 1, 1, none⟩)),
    .lets (· = .int .i64 y.at_),
    .lets (· = .int .i64 a),
    .lets (· = .pointer (some ⟨W.heap.size, 2, none⟩)),
    .lets (· = .int .i64 x.ix),
    .lets (· = .pointer (some ⟨W.heap.size + 1, 2, none⟩)),
    .lets (· = .int .i64 y.ix),
    .lets (· = .int .i64 b),
    .lets (· = .pointer (some ⟨W.heap.size, 0, none⟩)),
    .lets (· = .int .i64 x.k),
    .lets (· = .pointer (some ⟨W.heap.size + 1, 0, none⟩)),
    .lets (· = .int .i64 y.k),
    .lets (· = .int .i64 c)] (by kernel_rfl) (by kernel_rfl) rfl (by kernel_rfl) (by kernel_rfl) ?_
  refine G.lexK_step (fun K hK => ⟨by kernel_rfl, ⟨_, rfl⟩, fun v hv => ?_, fun v hv => ?_⟩)
  · go_simp
    exact G.mUpon_b
  subst hv
  go_simp
  refine hK _ ?_
  clear hK K
  refine G.lexK_step (fun K hK => ⟨by kernel_rfl, ⟨_, rfl⟩, fun v hv => ?_, fun v hv => ?_⟩)
  · obtain ⟨⟨d0, d1, d2⟩, _⟩ := cell_at ((hv.block _ (ltB (unhideR HE1))).trans (unhideR HE1))
    go_simp
    exact G.mUpon_b
  subst hv
  go_simp
  refine hK _ ?_
  clear hK K
  refine G.lexK_step (fun K hK => ⟨by kernel_rfl, ⟨_, rfl⟩, fun v hv => ?_, fun v hv => ?_⟩)
  · go_simp
    exact G.mUpon_b
  subst hv
  go_simp
  refine hK _ ?_
  clear hK K
  refine G.lexK_step (fun K hK => ⟨by kernel_rfl, ⟨_, rfl⟩, fun v hv => ?_, fun v hv => ?_⟩)
  · obtain ⟨⟨d0, d1, d2⟩, _⟩ := cell_at ((hv.block _ (ltB (unhideR HE2))).trans (unhideR HE2))
    go_simp
    exact G.mUpon_b
  subst hv
  go_simp
  refine hK _ ?_
  clear hK K
  refine G.lexK_step (fun K hK => ⟨by kernel_rfl, ⟨_, rfl⟩, fun v hv => ?_, fun v hv => ?_⟩)
  · go_simp
    refine (ha _).mono ?_
    rintro e w9 ⟨rfl, rfl⟩
    exact ⟨_, rfl, rfl, G.Gr.refl _⟩
  subst hv
  go_simp
  refine hK _ ?_
  clear hK K
  refine G.lexK_step (fun K hK => ⟨by kernel_rfl, ⟨_, rfl⟩, fun v hv => ?_, fun v hv => ?_⟩)
  · go_simp
    exact G.mUpon_b
  subst hv
  go_simp
  refine hK _ ?_
  clear hK K
  refine G.lexK_step (fun K hK => ⟨by kernel_rfl, ⟨_, rfl⟩, fun v hv => ?_, fun v hv => ?_⟩)
  · obtain ⟨⟨d0, d1, d2⟩, _⟩ := cell_at ((hv.block _ (ltB (unhideR HE1))).trans (unhideR HE1))
    go_simp
    exact G.mUpon_b
  subst hv
  go_simp
  refine hK _ ?_
  clear hK K
  refine G.lexK_step (fun K hK => ⟨by kernel_rfl, ⟨_, rfl⟩, fun v hv => ?_, fun v hv => ?_⟩)
  · go_simp
    exact G.mUpon_b
  subst hv
  go_simp
  refine hK _ ?_
  clear hK K
  refine G.lexK_step (fun K hK => ⟨by kernel_rfl, ⟨_, rfl⟩, fun v hv => ?_, fun v hv => ?_⟩)
  · obtain ⟨⟨d0, d1, d2⟩, _⟩ := cell_at ((hv.block _ (ltB (unhideR HE2))).trans (unhideR HE2))
    go_simp
    exact G.mUpon_b
  subst hv
  go_simp
  refine hK _ ?_
  clear hK K
  refine G.lexK_step (fun K hK => ⟨by kernel_rfl, ⟨_, rfl⟩, fun v hv => ?_, fun v hv => ?_⟩)
  · go_simp
    refine (hb _).mono ?_
    rintro e w9 ⟨rfl, rfl⟩
    exact ⟨_, rfl, rfl, G.Gr.refl _⟩
  subst hv
  go_simp
  refine hK _ ?_
  clear hK K
  refine G.lexK_step (fun K hK => ⟨by kernel_rfl, ⟨_, rfl⟩, fun v hv => ?_, fun v hv => ?_⟩)
  · go_simp
    exact G.mUpon_b
  subst hv
  go_simp
  refine hK _ ?_
  clear hK K
  refine G.lexK_step (fun K hK => ⟨by kernel_rfl, ⟨_, rfl⟩, fun v hv => ?_, fun v hv => ?_⟩)
  · obtain ⟨⟨d0, d1, d2⟩, _⟩ := cell_at ((hv.block _ (ltB (unhideR HE1))).trans (unhideR HE1))
    go_simp
    exact G.mUpon_b
  subst hv
  go_simp
  refine hK _ ?_
  clear hK K
  refine G.lexK_step (fun K hK => ⟨by kernel_rfl, ⟨_, rfl⟩, fun v hv => ?_, fun v hv => ?_⟩)
  · go_simp
    exact G.mUpon_b
  subst hv
  go_simp
  refine hK _ ?_
  clear hK K
  refine G.lexK_step (fun K hK => ⟨by kernel_rfl, ⟨_, rfl⟩, fun v hv => ?_, fun v hv => ?_⟩)
  · obtain ⟨⟨d0, d1, d2⟩, _⟩ := cell_at ((hv.block _ (ltB (unhideR HE2))).trans (unhideR HE2))
    go_simp
    exact G.mUpon_b
  subst hv
  go_simp
  refine hK _ ?_
  clear hK K
  refine G.lexK_step (fun K hK => ⟨by kernel_rfl, ⟨_, rfl⟩, fun v hv => ?_, fun v hv => ?_⟩)
  · go_simp
    refine (hc _).mono ?_
    rintro e w9 ⟨rfl, rfl⟩
    exact ⟨_, rfl, rfl, G.Gr.refl _⟩
  subst hv
  go_simp
  refine hK _ ?_
  clear hK K
  refine G.lexK_end (fun v hv => ?_)
  replace HG := hideR ((unhideR HG).trans hv.low)
  clear hv HE1 HE2 ha hb hc
  refine wpAny_step (i := 15) (by kernel_rfl) rfl (by kernel_rfl) (fun K hK => ?_)
  unfold Oper.wp
  go_simp
  refine hK _ _ ?_
  clear hK K
  refine wpAny_step (i := 16) (by kernel_rfl) rfl (by kernel_rfl) (fun K hK => ?_)
  unfold Oper.wp
  go_simp
  refine (hor _ _ (alloc_last v _)).mono ?_
  rintro e w5 ⟨rfl, rfl⟩
  go_simp
  refine hK _ _ ?_
  clear hK K
  refine wpAny_step (i := 17) (by kernel_rfl) rfl (by kernel_rfl) (fun K hK => ?_)
  unfold Oper.wp
  go_simp
  refine hK _ _ ?_
  clear hK K
  refine wpAny_end (by kernel_rfl) ?_
  go_wp2
  go_ret
  exact ⟨rfl, (unhideR HG).alloc _⟩
end Go.Proofs.YtlhjmmcimhceeahDoor
