/-
  Where a point is: the program's, by its contract.
-/
import Derived.Test.YtfamndjiaebmbaeDSky1
namespace Go.Proofs.Ytfamndjiaebmbae
open Go Go.RowKit

def PI (m : Nat) : Prop := Nan m ∨ FloatKind.f64.format.read m = .infinity false
theorem read_low {r : Nat} (h : r ≤ 9218868437227405312) : FloatKind.f64.format.read r = .infinity false ∨ finB r = true := by
  unfold finB Ieee.Format.read
  simp only [f64_sw, f64_bn, f64_ir]
  have hs : (r / 9223372036854775808 % 2 == 1) = false := by simp; omega
  rw [hs]
  by_cases h1 : r % 9223372036854775808 < 4503599627370496
  · rw [if_pos h1]
    exact .inr rfl
  · rw [if_neg h1]
    by_cases h2 : r % 9223372036854775808 < 9218868437227405312
    · rw [if_pos h2]
      exact .inr rfl
    · rw [if_neg h2, if_pos (by omega)]
      exact .inl rfl
theorem nearest_low (m : Nat) (p : Int) : FloatKind.f64.format.nearest false m p ≤ 9218868437227405312 := by
  unfold Ieee.Format.nearest
  have : FloatKind.f64.format.infRung = 9218868437227405312 := f64_ir
  split
  · simp [Ieee.Format.word]
  · simp only [Ieee.Format.word]
    simp
    omega
theorem inf_is : FloatKind.f64.format.read (FloatKind.f64.format.write (.infinity false)) = .infinity false := by decide +kernel
theorem sq_kind {x m : Nat} (h : FOp .mul x x m) : (finB x = false → PI m) ∧ (PI m ∨ finB m = true) := by
  have h' : match FloatKind.f64.format.mul x x with | some v => m = v | none => Nan m := h
  unfold Ieee.Format.mul at h'
  unfold PI finB
  cases e : FloatKind.f64.format.read x with
  | number s a i =>
    rw [e] at h'
    have hx : (s ^^ s) = false := by cases s <;> rfl
    simp only [Ieee.Datum.product, hx, Option.map_some] at h'
    have h2 := read_low (nearest_low (a * a) (i + i))
    have h3 : m = FloatKind.f64.format.nearest false (a * a) (i + i) := h'
    rw [← h3] at h2
    refine ⟨fun k => (by cases k), ?_⟩
    rcases h2 with h2 | h2
    · exact .inl (.inr h2)
    · exact .inr h2
  | infinity s =>
    rw [e] at h'
    have hx : (s ^^ s) = false := by cases s <;> rfl
    simp only [Ieee.Datum.product, hx, Option.map_some] at h'
    have h3 : FloatKind.f64.format.read m = .infinity false := by rw [h']; exact inf_is
    exact ⟨fun _ => .inr h3, .inl (.inr h3)⟩
  | nan s t =>
    rw [e] at h'
    have h3 : Nan m := h'
    exact ⟨fun _ => .inl h3, .inl (.inl h3)⟩
theorem sum_pi {a b t : Nat} (h : FOp .add a b t) (k : (PI a ∧ (PI b ∨ finB b = true)) ∨ (PI b ∧ (PI a ∨ finB a = true))) : PI t := by
  have h' : match FloatKind.f64.format.add a b with | some v => t = v | none => Nan t := h
  unfold Ieee.Format.add at h'
  unfold PI finB Nan at *
  cases ea : FloatKind.f64.format.read a with
  | nan s f =>
    rw [ea] at h'
    simp only [Ieee.Datum.sum, Option.map_none] at h'
    exact .inl h'
  | infinity s =>
    cases eb : FloatKind.f64.format.read b with
    | nan s2 f =>
      rw [ea, eb] at h'
      simp only [Ieee.Datum.sum, Option.map_none] at h'
      exact .inl h'
    | infinity s2 =>
      rw [ea, eb] at h' k
      have hs : s = false := by cases s <;> simp_all [Ieee.Datum.isNaN]
      have hs2 : s2 = false := by cases s2 <;> simp_all [Ieee.Datum.isNaN]
      subst hs hs2
      simp only [Ieee.Datum.sum, if_true, Option.map_some] at h'
      exact .inr (by rw [h']; exact inf_is)
    | number s2 m i =>
      rw [ea, eb] at h' k
      have hs : s = false := by cases s <;> simp_all [Ieee.Datum.isNaN]
      subst hs
      simp only [Ieee.Datum.sum, Option.map_some] at h'
      exact .inr (by rw [h']; exact inf_is)
  | number s m i =>
    cases eb : FloatKind.f64.format.read b with
    | nan s2 f =>
      rw [ea, eb] at h'
      simp only [Ieee.Datum.sum, Option.map_none] at h'
      exact .inl h'
    | infinity s2 =>
      rw [ea, eb] at h' k
      have hs2 : s2 = false := by cases s2 <;> simp_all [Ieee.Datum.isNaN]
      subst hs2
      simp only [Ieee.Datum.sum, Option.map_some] at h'
      exact .inr (by rw [h']; exact inf_is)
    | number s2 m2 i2 =>
      rw [ea, eb] at k
      simp [Ieee.Datum.isNaN] at k
theorem sq_pi {t r : Nat} (h : PI t) (k : FSq t r) : finB r = false := by
  have k' : match FloatKind.f64.format.sqrt t with | some v => r = v | none => Nan r := k
  unfold Ieee.Format.sqrt at k'
  unfold PI Nan at h
  have hn : ∀ r, Nan r → finB r = false := fun r hr => by
    unfold Nan at hr
    unfold finB
    cases e : FloatKind.f64.format.read r with
    | number s m i => rw [e] at hr; cases hr
    | infinity s => rfl
    | nan s f => rfl
  rcases h with h | h
  · cases e : FloatKind.f64.format.read t with
    | number s m i => rw [e] at h; cases h
    | infinity s => rw [e] at h; cases h
    | nan s f =>
      rw [e] at k'
      simp only [Ieee.Datum.root, Option.map_none] at k'
      exact hn r k'
  · rw [h] at k'
    simp only [Ieee.Datum.root, Bool.false_eq_true, if_false, Option.map_some] at k'
    unfold finB
    rw [k', inf_is]
theorem fin_root {x y t r : Nat} (ht : Ev (.op .add (mE x x) (mE y y)) t) (hr : FSq t r) (hf : finB r = true) : finB x = true ∧ finB y = true := by
  cases ht with
  | op ha hb hc =>
    obtain ⟨a1, a2⟩ := sq_kind (ev_m_inv ha)
    obtain ⟨b1, b2⟩ := sq_kind (ev_m_inv hb)
    cases hx : finB x with
    | false =>
      have := sq_pi (sum_pi hc (.inl ⟨a1 hx, b2⟩)) hr
      rw [this] at hf
      cases hf
    | true =>
      cases hy : finB y with
      | false =>
        have := sq_pi (sum_pi hc (.inr ⟨b1 hy, a2⟩)) hr
        rw [this] at hf
        cases hf
      | true => exact ⟨rfl, rfl⟩
theorem nan_fin {r : Nat} (hr : Nan r) : finB r = false := by
  unfold Nan at hr
  unfold finB
  cases e : FloatKind.f64.format.read r with
  | number s m i => rw [e] at hr; cases hr
  | infinity s => rfl
  | nan s f => rfl
theorem has_same {z r r' : Nat} (h : FSame r r') : hasV z r = hasV z r' ∧ angV z r = angV z r' := by
  rcases h with rfl | ⟨h1, h2⟩
  · exact ⟨rfl, rfl⟩
  · have e1 : hasV z r = false := by unfold hasV; rw [nan_fin h1]; rfl
    have e2 : hasV z r' = false := by unfold hasV; rw [nan_fin h2]; rfl
    refine ⟨by rw [e1, e2], ?_⟩
    unfold angV
    rw [e1, e2]
    rfl
theorem root_same {x y r r' t t' : Nat} (h1 : Ev (.op .add (mE x x) (mE y y)) t) (h2 : FSq t r) (k1 : Ev (.op .add (mE x x) (mE y y)) t') (k2 : FSq t' r') : FSame r r' := h2.same k2 (h1.same k1)
theorem placeIs_of {x y z r t : Nat} (ht : Ev (.op .add (mE x x) (mE y y)) t) (hr : FSq t r) :
    (hasV z r = true → PlaceIs x y z (.returned (.tuple #[.agg #[.int .i64 (angV y x), .int .i64 (sgd (angV z r))], .bool true]))) ∧
    (hasV z r = false → PlaceIs x y z (.returned (.tuple #[.agg #[.int .i64 0, .int .i64 0], .bool false]))) := by
  refine ⟨fun h => ⟨r, t, ht, hr, .inl ⟨?_, rfl⟩⟩, fun h => ⟨r, t, ht, hr, .inr ⟨?_, rfl⟩⟩⟩
  · have h' := h
    unfold hasV at h'
    rw [Bool.and_eq_true, Bool.and_eq_true] at h'
    obtain ⟨f1, f2⟩ := fin_root ht hr h'.1.1
    rw [f1, f2, h'.1.2, h]
    rfl
  · rw [h, Bool.and_false]
set_option maxHeartbeats 8000000 in
theorem where_any (x y z : Nat) (w : World) (lx : Lw x) (ly : Lw y) (lz : Lw z) : Calls Try.prog 12 #[.agg #[.float .f64 x, .float .f64 y, .float .f64 z]] w fun e w' => PlaceIs x y z e ∧ Below w.heap.size w w' := by
  have hsf := run_store_float Try.prog
  have hm := fun t x y v => run_fmul (P := Try.prog) t x y v
  have hp := fun t x y v => run_fadd (P := Try.prog) t x y v
  have hyx := fun v => angle_lw y x v ly lx
  have hsg := fun a v => signed_any a v
  obtain ⟨r0, t0, ht0, hr0⟩ := root_some x y
  have HP := hideR (placeIs_of (z := z) ht0 hr0)
  have HZ : HeldR (∀ t r, Ev (.op .add (mE x x) (mE y y)) t → FSq t r → ∀ v, Calls Try.prog 24 #[.float .f64 z, .float .f64 r] v fun e w' => e = .returned (.tuple #[.int .i64 (angV z r0), .bool (hasV z r0)]) ∧ Below v.heap.size v w') := by
    intro t r h1 h2 v
    obtain ⟨e1, e2⟩ := has_same (z := z) (root_same h1 h2 ht0 hr0)
    rw [← e1, ← e2]
    exact angle_lw z r v lz (lw_sq h2)
  clear ht0 hr0 lx ly lz
  generalize angV z r0 = az at *
  generalize hasV z r0 = hz at *
  generalize angV y x = ax at *
  go_enter Try.func12, Try.ntmps12
  go_wp2_with fail
  obtain ⟨W, hW⟩ : ∃ W, W = ((w.alloc (.cells #[.float .f64 x, .float .f64 y, .float .f64 z] 26)).alloc (.cells #[.int .i64 0, .int .i64 0] 30)) := ⟨_, rfl⟩
  have htwo : ∀ v, Below W.heap.size W v → v.heap[w.heap.size]? = some (.cells #[.float .f64 x, .float .f64 y, .float .f64 z] 26) ∧ v.heap[w.heap.size + 1]? = some (.cells #[.int .i64 0, .int .i64 0] 30) ∧ Below w.heap.size w v := fun v hv => two_blocks (hW ▸ hv)
  rw [← hW]
  have HT := hideR htwo
  clear htwo hW
  refine wp_region_letsB W.heap.size [(· = .pointer (some ⟨w.heap.size, 2, none⟩)),
    (· = .float .f64 z),
    (· = .pointer (some ⟨w.heap.size, 0, none⟩)),
    (· = .float .f64 x),
    (· = .pointer (some ⟨w.heap.size, 0, none⟩)),
    (· = .float .f64 x),
    FSet (mE x x),
    (· = .pointer (some ⟨w.heap.size, 1, none⟩)),
    (· = .float .f64 y),
    (· = .pointer (some ⟨w.heap.size, 1, none⟩)),
    (· = .float .f64 y),
    FSet (mE y y),
    FSet (.op .add (mE x x) (mE y y)),
    QSet (.op .add (mE x x) (mE y y)),
    (· = .tuple #[.int .i64 az, .bool hz]),
    (· = .tuple #[.int .i64 az, .bool hz]),
    (· = .int .i64 az),
    (· = .bool hz),
    (· = .int .i64 az),
    (· = .bool hz)] (by kernel_rfl) (by kernel_rfl) ?_
  refine lexB_step (fun K hK => ⟨by kernel_rfl, ⟨_, rfl⟩, fun v hv => ?_, fun v hv => ?_⟩)
  · go_simp
    exact lUpon_b hv
  subst hv
  go_simp
  refine hK _ ?_
  clear hK K
  refine lexB_step (fun K hK => ⟨by kernel_rfl, ⟨_, rfl⟩, fun v hv => ?_, fun v hv => ?_⟩)
  · obtain ⟨⟨c0, c1, c2⟩, _⟩ := three_at (unhideR HT _ hv).1
    go_simp
    exact lUpon_b hv
  subst hv
  go_simp
  refine hK _ ?_
  clear hK K
  refine lexB_step (fun K hK => ⟨by kernel_rfl, ⟨_, rfl⟩, fun v hv => ?_, fun v hv => ?_⟩)
  · go_simp
    exact lUpon_b hv
  subst hv
  go_simp
  refine hK _ ?_
  clear hK K
  refine lexB_step (fun K hK => ⟨by kernel_rfl, ⟨_, rfl⟩, fun v hv => ?_, fun v hv => ?_⟩)
  · obtain ⟨⟨c0, c1, c2⟩, _⟩ := three_at (unhideR HT _ hv).1
    go_simp
    exact lUpon_b hv
  subst hv
  go_simp
  refine hK _ ?_
  clear hK K
  refine lexB_step (fun K hK => ⟨by kernel_rfl, ⟨_, rfl⟩, fun v hv => ?_, fun v hv => ?_⟩)
  · go_simp
    exact lUpon_b hv
  subst hv
  go_simp
  refine hK _ ?_
  clear hK K
  refine lexB_step (fun K hK => ⟨by kernel_rfl, ⟨_, rfl⟩, fun v hv => ?_, fun v hv => ?_⟩)
  · obtain ⟨⟨c0, c1, c2⟩, _⟩ := three_at (unhideR HT _ hv).1
    go_simp
    exact lUpon_b hv
  subst hv
  go_simp
  refine hK _ ?_
  clear hK K
  refine lexB_step (fun K hK => ⟨by kernel_rfl, fset_some _, fun v hv => ?_, fun v hv => ?_⟩)
  · go_simp
    exact ⟨below_drewN hv _, _, rfl, .op (.num _) (.num _) (fnum_is _ _ _ _)⟩
  obtain ⟨m0, rfl, e_m0⟩ := hv
  go_simp
  refine hK _ ?_
  clear hK K
  have E_m0 := hideR e_m0
  clear e_m0
  refine lexB_step (fun K hK => ⟨by kernel_rfl, ⟨_, rfl⟩, fun v hv => ?_, fun v hv => ?_⟩)
  · go_simp
    exact lUpon_b hv
  subst hv
  go_simp
  refine hK _ ?_
  clear hK K
  refine lexB_step (fun K hK => ⟨by kernel_rfl, ⟨_, rfl⟩, fun v hv => ?_, fun v hv => ?_⟩)
  · obtain ⟨⟨c0, c1, c2⟩, _⟩ := three_at (unhideR HT _ hv).1
    go_simp
    exact lUpon_b hv
  subst hv
  go_simp
  refine hK _ ?_
  clear hK K
  refine lexB_step (fun K hK => ⟨by kernel_rfl, ⟨_, rfl⟩, fun v hv => ?_, fun v hv => ?_⟩)
  · go_simp
    exact lUpon_b hv
  subst hv
  go_simp
  refine hK _ ?_
  clear hK K
  refine lexB_step (fun K hK => ⟨by kernel_rfl, ⟨_, rfl⟩, fun v hv => ?_, fun v hv => ?_⟩)
  · obtain ⟨⟨c0, c1, c2⟩, _⟩ := three_at (unhideR HT _ hv).1
    go_simp
    exact lUpon_b hv
  subst hv
  go_simp
  refine hK _ ?_
  clear hK K
  refine lexB_step (fun K hK => ⟨by kernel_rfl, fset_some _, fun v hv => ?_, fun v hv => ?_⟩)
  · go_simp
    exact ⟨below_drewN hv _, _, rfl, .op (.num _) (.num _) (fnum_is _ _ _ _)⟩
  obtain ⟨m1, rfl, e_m1⟩ := hv
  go_simp
  refine hK _ ?_
  clear hK K
  have E_m1 := hideR e_m1
  clear e_m1
  refine lexB_step (fun K hK => ⟨by kernel_rfl, fset_some _, fun v hv => ?_, fun v hv => ?_⟩)
  · go_simp
    exact ⟨below_drewN hv _, _, rfl, .op (unhideR E_m0) (unhideR E_m1) (fnum_is _ _ _ _)⟩
  obtain ⟨m2, rfl, e_m2⟩ := hv
  go_simp
  refine hK _ ?_
  clear hK K
  have E_m2 := hideR e_m2
  clear e_m2
  refine lexB_step (fun K hK => ⟨by kernel_rfl, qset_some _, fun v hv => ?_, fun v hv => ?_⟩)
  · go_simp
    refine (root_any _ _).mono ?_
    rintro e w9 ⟨r, rfl, hr, n, rfl⟩
    exact ⟨_, rfl, ⟨r, _, rfl, unhideR E_m2, hr⟩, below_drewN hv n⟩
  obtain ⟨rr, tt, rfl, h1, h2⟩ := hv
  go_simp
  refine hK _ ?_
  clear hK K
  have HA := hideR (unhideR HZ tt rr h1 h2)
  clear h1 h2 HZ E_m0 E_m1 E_m2
  refine lexB_step (fun K hK => ⟨by kernel_rfl, ⟨_, rfl⟩, fun v hv => ?_, fun v hv => ?_⟩)
  · go_simp
    refine (unhideR HA _).mono ?_
    rintro e w9 ⟨rfl, k⟩
    exact ⟨_, rfl, rfl, below_on2 hv (Nat.le_refl _) k⟩
  subst hv
  go_simp
  refine hK _ ?_
  clear hK K
  refine lexB_step (fun K hK => ⟨by kernel_rfl, ⟨_, rfl⟩, fun v hv => ?_, fun v hv => ?_⟩)
  · go_simp
    exact lUpon_b hv
  subst hv
  go_simp
  refine hK _ ?_
  clear hK K
  refine lexB_step (fun K hK => ⟨by kernel_rfl, ⟨_, rfl⟩, fun v hv => ?_, fun v hv => ?_⟩)
  · go_simp
    exact lUpon_b hv
  subst hv
  go_simp
  refine hK _ ?_
  clear hK K
  refine lexB_step (fun K hK => ⟨by kernel_rfl, ⟨_, rfl⟩, fun v hv => ?_, fun v hv => ?_⟩)
  · go_simp
    exact lUpon_b hv
  subst hv
  go_simp
  refine hK _ ?_
  clear hK K
  refine lexB_step (fun K hK => ⟨by kernel_rfl, ⟨_, rfl⟩, fun v hv => ?_, fun v hv => ?_⟩)
  · go_simp
    exact lUpon_b hv
  subst hv
  go_simp
  refine hK _ ?_
  clear hK K
  refine lexB_step (fun K hK => ⟨by kernel_rfl, ⟨_, rfl⟩, fun v hv => ?_, fun v hv => ?_⟩)
  · go_simp
    exact lUpon_b hv
  subst hv
  go_simp
  refine hK _ ?_
  clear hK K
  clear HA
  refine lexL_end ?_
  intro w3 k3
  obtain ⟨h0, h1, hBw⟩ := unhideR HT _ k3
  have HW := hideR hBw
  have A0 := hideR h0
  have A1 := hideR h1
  have lw := (unhideR HW).size
  clear k3 h0 h1 hBw HT
  cases hz
  case false =>
    have HN := hideR ((unhideR HP).2 rfl)
    obtain ⟨⟨d0, d1⟩, f0, f1⟩ := pair_at (unhideR A1)
    clear HP A0 A1 hyx hsg
    go_wp2
    simp [bodyPost, results, Try.results12, go_sem, d0, d1]
    exact ⟨unhideR HN, below_two (unhideR HW) (by omega) _ _⟩
  case true =>
    have HN := hideR ((unhideR HP).1 rfl)
    obtain ⟨⟨c0, c1, c2⟩, _⟩ := three_at (unhideR A0)
    clear HP A0
    go_wp2_with fail
    refine (hyx _).mono ?_
    rintro e w4 ⟨rfl, k4⟩
    replace A1 := hideR (keepB (unhideR A1) k4)
    replace HW := hideR (below_go (unhideR HW) k4)
    clear k4 hyx c0 c1 c2
    obtain ⟨⟨d0, d1⟩, f0, f1⟩ := pair_at (unhideR A1)
    generalize hasV y x = hyx' at *
    go_wp2_with fail
    refine (hsg _ _).mono ?_
    rintro e w5 ⟨rfl, rfl⟩
    clear hsg A1
    go_wp2
    simp [bodyPost, results, Try.results12, go_sem, d0, d1]
    exact ⟨unhideR HN, below_two (unhideR HW) (by omega) _ _⟩
end Go.Proofs.Ytfamndjiaebmbae
