/-
  The program's mount: a tick, by contract.
-/
import Derived.Test.YteoappoijihomahDoorDM2
namespace Go.Proofs.YteoappoijihomahDoor
open Go Go.RowKit

theorem PB.same {w u : World} {g : Nat} {p : PM} (h : PB u g p) (k : w.heap[g]? = u.heap[g]?) : PB w g p := ⟨k.trans h.blk⟩
def apX (p : PM) : Int := towards p.x p.ga p.A.fast
def apY (p : PM) : Int := towards p.y p.gb p.B.fast
def nearP (p : PM) (t : Int) : PM := { p with x := apX p, y := apY p, st := if apX p = p.ga ∧ apY p = p.gb then t else p.st }
structure InB (p : PM) : Prop where
  x : -1099511627776 ≤ p.x ∧ p.x ≤ 1099511627776
  y : -1099511627776 ≤ p.y ∧ p.y ≤ 1099511627776
  fa : 1 ≤ p.A.fast ∧ p.A.fast ≤ 1099511627776
  fb : 1 ≤ p.B.fast ∧ p.B.fast ≤ 1099511627776
set_option maxRecDepth 100000 in
set_option maxHeartbeats 3200000 in
theorem near_any {g : Nat} {p : PM} {w : World} (t : Int) (hM : PB w g p) (hB : InB p) (hga : -1099511627776 ≤ p.ga ∧ p.ga ≤ 1099511627776) (hgb : -1099511627776 ≤ p.gb ∧ p.gb ≤ 1099511627776) :
    Calls Tryd.prog 62 #[.pointer (some ⟨g, 0, none⟩), .int .i64 t] w fun e w' => e = .returned (.tuple #[]) ∧ PB w' g (nearP p t) ∧ Chg g w w' := by
  have h1 := fun (u : World) (h : PB u g p) => axis_any (g := g) (o := 0) (x := p.x) (to := p.ga) (f := p.A.fast) (w := u) (ltB h.blk) (h.cell 2 (by decide)).1 (h.cell 4 (by decide)).1 (h.cell 5 (by decide)).1 (h.cell 4 (by decide)).2 hB.x hga hB.fa
  have h2 := fun (u : World) (h : PB u g { p with x := apX p }) => axis_any (g := g) (o := 7) (x := p.y) (to := p.gb) (f := p.B.fast) (w := u) (ltB h.blk) (h.cell 9 (by decide)).1 (h.cell 11 (by decide)).1 (h.cell 12 (by decide)).1 (h.cell 11 (by decide)).2 hB.y hgb hB.fb
  have HN : HeldR (∀ X Y, X = apX p → Y = apY p → ∀ b1 b2, (X == p.ga) = b1 → (Y == p.gb) = b2 → (b1 = true → b2 = true → ∀ u, PB u g { p with x := X, y := Y, st := t } → PB u g (nearP p t)) ∧ (¬ (b1 = true ∧ b2 = true) → ∀ u, PB u g { p with x := X, y := Y } → PB u g (nearP p t))) := by
    intro X Y hX hY b1 b2 e1 e2
    subst hX hY
    constructor
    · intro q1 q2 u hu
      unfold nearP
      rw [if_pos ⟨by rw [q1] at e1; exact eq_of_beq e1, by rw [q2] at e2; exact eq_of_beq e2⟩]
      exact hu
    · intro q u hu
      unfold nearP
      rw [if_neg (fun k => q ⟨by rw [← e1]; simp [k.1], by rw [← e2]; simp [k.2]⟩)]
      exact hu
  have h1' : ∀ (u : World), PB u g p → Calls Tryd.prog 86 #[.pointer (some ⟨g, 0, none⟩)] u fun e w' => e = .returned (.bool (apX p == p.ga)) ∧ PB w' g { p with x := apX p } ∧ Chg g u w' := fun u hu =>
    (h1 u hu).mono (by rintro e w' ⟨rfl, k1, k2⟩; exact ⟨rfl, (hu.x (apX p)).same k2, k1⟩)
  have h2' : ∀ (u : World), PB u g { p with x := apX p } → Calls Tryd.prog 86 #[.pointer (some ⟨g, 7, none⟩)] u fun e w' => e = .returned (.bool (apY p == p.gb)) ∧ PB w' g { p with x := apX p, y := apY p } ∧ Chg g u w' := fun u hu =>
    (h2 u hu).mono (by rintro e w' ⟨rfl, k1, k2⟩; exact ⟨rfl, (hu.y (apY p)).same k2, k1⟩)
  clear h1 h2 hga hgb hB
  replace HN := hideR (unhideR HN (apX p) (apY p) rfl rfl)
  generalize apX p = X at *
  generalize apY p = Y at *
  replace HN := hideR (unhideR HN (X == p.ga) (Y == p.gb) rfl rfl)
  generalize (X == p.ga) = b1 at *
  generalize (Y == p.gb) = b2 at *
  go_enter Tryd.func62, Tryd.ntmps62
  go_wp2
  refine wp_loop_rounds 3 ?_
  rw [rounds_succ]
  go_wp2_with fail
  refine (h1' _ hM).mono ?_
  rintro e w1 ⟨rfl, m1, k1⟩
  have HK := hideR k1
  have HM := hideR m1
  clear k1 m1 h1' hM
  cases b1 <;> cases b2
  all_goals
    go_wp2
    rw [rounds_succ]
    go_wp2_with fail
    refine (h2' _ (unhideR HM)).mono ?_
    rintro e w2 ⟨rfl, m2, k2⟩
    replace HK := hideR ((unhideR HK).trans k2)
    replace HM := hideR m2
    clear m2 k2 h2'
    have c14 : w2.cell? ⟨g, 14, none⟩ = some (.int .i64 p.st) := ((unhideR HM).cell 14 (by decide)).1
    have f14 : w2.frozen? ⟨g, 14, none⟩ = false := ((unhideR HM).cell 14 (by decide)).2
    go_wp2
    try rw [rounds_succ]
    try go_wp2
    go_end0
    first
      | exact ⟨rfl, (unhideR HN).2 (by decide) _ (unhideR HM), unhideR HK⟩
      | exact ⟨rfl, (unhideR HN).1 trivial trivial _ ((unhideR HM).st t), (unhideR HK).put 14 _⟩
      | exact ⟨rfl, (unhideR HN).1 rfl rfl _ ((unhideR HM).st t), (unhideR HK).put 14 _⟩
def followP (p : PM) : PM := if out p.A (p.x + p.pa) ∨ out p.B (p.y + p.pb) then { p with st := 5 } else { p with x := p.x + p.pa, y := p.y + p.pb }
set_option maxRecDepth 100000 in
set_option maxHeartbeats 6400000 in
theorem follow_any {g : Nat} {p : PM} {w : World} (hM : PB w g p) (hB : InB p) (hpa : -1099511627776 ≤ p.pa ∧ p.pa ≤ 1099511627776) (hpb : -1099511627776 ≤ p.pb ∧ p.pb ≤ 1099511627776) :
    Calls Tryd.prog 63 #[.pointer (some ⟨g, 0, none⟩)] w fun e w' => e = .returned (.tuple #[]) ∧ PB w' g (followP p) ∧ Chg g w w' := by
  have HM := hideR hM
  have HK := hideR (Chg.refl g w)
  have hx := hB.x
  have hy := hB.y
  clear hB
  have HX1 : HeldR (∀ u, (out p.A (p.x + p.pa) ∨ out p.B (p.y + p.pb)) → PB u g { p with st := 5 } → PB u g (followP p)) := by
    intro u q h1
    unfold followP
    rw [if_pos q]
    exact h1
  have HX2 : HeldR (∀ u, ¬ (out p.A (p.x + p.pa) ∨ out p.B (p.y + p.pb)) → PB u g { p with x := p.x + p.pa, y := p.y + p.pb } → PB u g (followP p)) := by
    intro u q h1
    unfold followP
    rw [if_neg q]
    exact h1
  have i0 := idx2a (.int .i64 p.A.lo) (.int .i64 p.A.hi) (.int .i64 p.A.fast) (.int .i64 p.A.home) (.int .i64 p.x) (.int .i64 p.ga) (.int .i64 p.pa) (.int .i64 p.B.lo) (.int .i64 p.B.hi) (.int .i64 p.B.fast) (.int .i64 p.B.home) (.int .i64 p.y) (.int .i64 p.gb) (.int .i64 p.pb)
  have i1 := idx2b (.int .i64 p.A.lo) (.int .i64 p.A.hi) (.int .i64 p.A.fast) (.int .i64 p.A.home) (.int .i64 p.x) (.int .i64 p.ga) (.int .i64 p.pa) (.int .i64 p.B.lo) (.int .i64 p.B.hi) (.int .i64 p.B.fast) (.int .i64 p.B.home) (.int .i64 p.y) (.int .i64 p.gb) (.int .i64 p.pb)
  have c0 : w.cell? ⟨g, 0, none⟩ = some (.int .i64 p.A.lo) := (hM.cell 0 (by decide)).1
  have c1 : w.cell? ⟨g, 1, none⟩ = some (.int .i64 p.A.hi) := (hM.cell 1 (by decide)).1
  have c2 : w.cell? ⟨g, 2, none⟩ = some (.int .i64 p.A.fast) := (hM.cell 2 (by decide)).1
  have c3 : w.cell? ⟨g, 3, none⟩ = some (.int .i64 p.A.home) := (hM.cell 3 (by decide)).1
  have c4 : w.cell? ⟨g, 4, none⟩ = some (.int .i64 p.x) := (hM.cell 4 (by decide)).1
  have c5 : w.cell? ⟨g, 5, none⟩ = some (.int .i64 p.ga) := (hM.cell 5 (by decide)).1
  have c6 : w.cell? ⟨g, 6, none⟩ = some (.int .i64 p.pa) := (hM.cell 6 (by decide)).1
  have c7 : w.cell? ⟨g, 7, none⟩ = some (.int .i64 p.B.lo) := (hM.cell 7 (by decide)).1
  have c8 : w.cell? ⟨g, 8, none⟩ = some (.int .i64 p.B.hi) := (hM.cell 8 (by decide)).1
  have c9 : w.cell? ⟨g, 9, none⟩ = some (.int .i64 p.B.fast) := (hM.cell 9 (by decide)).1
  have c10 : w.cell? ⟨g, 10, none⟩ = some (.int .i64 p.B.home) := (hM.cell 10 (by decide)).1
  have c11 : w.cell? ⟨g, 11, none⟩ = some (.int .i64 p.y) := (hM.cell 11 (by decide)).1
  have c12 : w.cell? ⟨g, 12, none⟩ = some (.int .i64 p.gb) := (hM.cell 12 (by decide)).1
  have c13 : w.cell? ⟨g, 13, none⟩ = some (.int .i64 p.pb) := (hM.cell 13 (by decide)).1
  clear hM
  go_enter Tryd.func63, Tryd.ntmps63
  go_wp2
  clear c0 c1 c2 c3 c4 c5 c6 c7 c8 c9 c10 c11 c12 c13
  refine wp_loop_rounds 3 ?_
  rw [rounds_succ]
  go_wp2_with fail
  replace HM := hideR ((unhideR HM).keep (below_a w (.cells #[.int .i64 p.A.lo, .int .i64 p.A.hi, .int .i64 p.A.fast, .int .i64 p.A.home, .int .i64 p.x, .int .i64 p.ga, .int .i64 p.pa] 109)))
  replace HK := hideR ((unhideR HK).go (below_a w (.cells #[.int .i64 p.A.lo, .int .i64 p.A.hi, .int .i64 p.A.fast, .int .i64 p.A.home, .int .i64 p.x, .int .i64 p.ga, .int .i64 p.pa] 109)))
  have HXa := hideR (alloc_last w (.cells #[.int .i64 p.A.lo, .int .i64 p.A.hi, .int .i64 p.A.fast, .int .i64 p.A.home, .int .i64 p.x, .int .i64 p.ga, .int .i64 p.pa] 109))
  generalize w.alloc (.cells #[.int .i64 p.A.lo, .int .i64 p.A.hi, .int .i64 p.A.fast, .int .i64 p.A.home, .int .i64 p.x, .int .i64 p.ga, .int .i64 p.pa] 109) = V0 at *
  generalize hbb0 : w.heap.size = b0 at *
  clear hbb0
  have hr := fun u => reach_any p.A (p.x + p.pa) u
  obtain ⟨r0, hq0⟩ : ∃ r : Bool, decide (¬ out p.A (p.x + p.pa)) = r := ⟨_, rfl⟩
  rw [hq0] at hr
  have HR0 := hideR hq0
  clear hq0
  have hnx := fun (u : World) (h : Below V0.heap.size V0 u) => next_any (g := b0) (o := 0) (x := p.x) (q := p.pa) (w := u) (cells_at (keepB (unhideR HXa) h) 4 (by simp)).1 (cells_at (keepB (unhideR HXa) h) 6 (by simp)).1 hx hpa
  refine wp_region_letsB V0.heap.size [(· = .pointer (some ⟨b0, 0, none⟩)), (· = .agg #[.int .i64 p.A.lo, .int .i64 p.A.hi, .int .i64 p.A.fast, .int .i64 p.A.home]), (· = .int .i64 (p.x + p.pa)), (· = .bool r0), (· = .bool !r0)] (by kernel_rfl) (by kernel_rfl) ?_
  refine lexB_step (fun K hK => ⟨by kernel_rfl, ⟨_, rfl⟩, fun v hv => ?_, fun v hv => ?_⟩)
  · go_simp
    exact lUpon_b hv
  subst hv
  go_simp
  refine hK _ ?_
  clear hK K
  refine lexB_step (fun K hK => ⟨by kernel_rfl, ⟨_, rfl⟩, fun v hv => ?_, fun v hv => ?_⟩)
  · have y0 : v.cell? ⟨b0, 0, none⟩ = some (.int .i64 p.A.lo) := (cells_at (keepB (unhideR HXa) hv) 0 (by simp)).1
    have y1 : v.cell? ⟨b0, 1, none⟩ = some (.int .i64 p.A.hi) := (cells_at (keepB (unhideR HXa) hv) 1 (by simp)).1
    have y2 : v.cell? ⟨b0, 2, none⟩ = some (.int .i64 p.A.fast) := (cells_at (keepB (unhideR HXa) hv) 2 (by simp)).1
    have y3 : v.cell? ⟨b0, 3, none⟩ = some (.int .i64 p.A.home) := (cells_at (keepB (unhideR HXa) hv) 3 (by simp)).1
    go_simp
    exact lUpon_b hv
  subst hv
  go_simp
  refine hK _ ?_
  clear hK K
  refine lexB_step (fun K hK => ⟨by kernel_rfl, ⟨_, rfl⟩, fun v hv => ?_, fun v hv => ?_⟩)
  · go_simp
    refine (hnx _ hv).mono ?_
    rintro e w9 ⟨rfl, k⟩
    exact ⟨_, rfl, rfl, below_on2 hv (Nat.le_refl _) k⟩
  subst hv
  go_simp
  refine hK _ ?_
  clear hK K
  refine lexB_step (fun K hK => ⟨by kernel_rfl, ⟨_, rfl⟩, fun v hv => ?_, fun v hv => ?_⟩)
  · go_simp
    refine (hr _).mono ?_
    rintro e w9 ⟨rfl, k⟩
    exact ⟨_, rfl, rfl, below_on2 hv (Nat.le_refl _) k⟩
  subst hv
  go_simp
  refine hK _ ?_
  clear hK K
  refine lexB_step (fun K hK => ⟨by kernel_rfl, ⟨_, rfl⟩, fun v hv => ?_, fun v hv => ?_⟩)
  · go_simp
    exact lUpon_b hv
  subst hv
  go_simp
  refine hK _ ?_
  clear hK K
  refine lexL_end ?_
  intro W1 hW1
  replace HM := hideR ((unhideR HM).keep hW1)
  replace HK := hideR ((unhideR HK).go hW1)
  clear HXa hr hW1 hnx
  cases r0
  case' false =>
    have c14 : W1.cell? ⟨g, 14, none⟩ = some (.int .i64 p.st) := ((unhideR HM).cell 14 (by decide)).1
    have f14 : W1.frozen? ⟨g, 14, none⟩ = false := ((unhideR HM).cell 14 (by decide)).2
    have HF := hideR (unhideR HX1 _ (.inl (Decidable.not_not.1 (of_decide_eq_false (p := ¬ out p.A (p.x + p.pa)) (unhideR HR0)))) ((unhideR HM).st 5))
    go_wp2
    simp [bodyPost, results, Tryd.results63, go_sem]
    exact ⟨unhideR HF, (unhideR HK).put 14 _⟩
  have HN0 := hideR (of_decide_eq_true (p := ¬ out p.A (p.x + p.pa)) (unhideR HR0))
  clear HR0
  go_wp2
  rw [rounds_succ]
  go_wp2_with fail
  replace HM := hideR ((unhideR HM).keep (below_a W1 (.cells #[.int .i64 p.B.lo, .int .i64 p.B.hi, .int .i64 p.B.fast, .int .i64 p.B.home, .int .i64 p.y, .int .i64 p.gb, .int .i64 p.pb] 109)))
  replace HK := hideR ((unhideR HK).go (below_a W1 (.cells #[.int .i64 p.B.lo, .int .i64 p.B.hi, .int .i64 p.B.fast, .int .i64 p.B.home, .int .i64 p.y, .int .i64 p.gb, .int .i64 p.pb] 109)))
  have HXa := hideR (alloc_last W1 (.cells #[.int .i64 p.B.lo, .int .i64 p.B.hi, .int .i64 p.B.fast, .int .i64 p.B.home, .int .i64 p.y, .int .i64 p.gb, .int .i64 p.pb] 109))
  generalize W1.alloc (.cells #[.int .i64 p.B.lo, .int .i64 p.B.hi, .int .i64 p.B.fast, .int .i64 p.B.home, .int .i64 p.y, .int .i64 p.gb, .int .i64 p.pb] 109) = V1 at *
  generalize hbb1 : W1.heap.size = b1 at *
  clear hbb1
  have hr := fun u => reach_any p.B (p.y + p.pb) u
  obtain ⟨r1, hq1⟩ : ∃ r : Bool, decide (¬ out p.B (p.y + p.pb)) = r := ⟨_, rfl⟩
  rw [hq1] at hr
  have HR1 := hideR hq1
  clear hq1
  have hnx := fun (u : World) (h : Below V1.heap.size V1 u) => next_any (g := b1) (o := 0) (x := p.y) (q := p.pb) (w := u) (cells_at (keepB (unhideR HXa) h) 4 (by simp)).1 (cells_at (keepB (unhideR HXa) h) 6 (by simp)).1 hy hpb
  refine wp_region_letsB V1.heap.size [(· = .pointer (some ⟨b1, 0, none⟩)), (· = .agg #[.int .i64 p.B.lo, .int .i64 p.B.hi, .int .i64 p.B.fast, .int .i64 p.B.home]), (· = .int .i64 (p.y + p.pb)), (· = .bool r1), (· = .bool !r1)] (by kernel_rfl) (by kernel_rfl) ?_
  refine lexB_step (fun K hK => ⟨by kernel_rfl, ⟨_, rfl⟩, fun v hv => ?_, fun v hv => ?_⟩)
  · go_simp
    exact lUpon_b hv
  subst hv
  go_simp
  refine hK _ ?_
  clear hK K
  refine lexB_step (fun K hK => ⟨by kernel_rfl, ⟨_, rfl⟩, fun v hv => ?_, fun v hv => ?_⟩)
  · have y0 : v.cell? ⟨b1, 0, none⟩ = some (.int .i64 p.B.lo) := (cells_at (keepB (unhideR HXa) hv) 0 (by simp)).1
    have y1 : v.cell? ⟨b1, 1, none⟩ = some (.int .i64 p.B.hi) := (cells_at (keepB (unhideR HXa) hv) 1 (by simp)).1
    have y2 : v.cell? ⟨b1, 2, none⟩ = some (.int .i64 p.B.fast) := (cells_at (keepB (unhideR HXa) hv) 2 (by simp)).1
    have y3 : v.cell? ⟨b1, 3, none⟩ = some (.int .i64 p.B.home) := (cells_at (keepB (unhideR HXa) hv) 3 (by simp)).1
    go_simp
    exact lUpon_b hv
  subst hv
  go_simp
  refine hK _ ?_
  clear hK K
  refine lexB_step (fun K hK => ⟨by kernel_rfl, ⟨_, rfl⟩, fun v hv => ?_, fun v hv => ?_⟩)
  · go_simp
    refine (hnx _ hv).mono ?_
    rintro e w9 ⟨rfl, k⟩
    exact ⟨_, rfl, rfl, below_on2 hv (Nat.le_refl _) k⟩
  subst hv
  go_simp
  refine hK _ ?_
  clear hK K
  refine lexB_step (fun K hK => ⟨by kernel_rfl, ⟨_, rfl⟩, fun v hv => ?_, fun v hv => ?_⟩)
  · go_simp
    refine (hr _).mono ?_
    rintro e w9 ⟨rfl, k⟩
    exact ⟨_, rfl, rfl, below_on2 hv (Nat.le_refl _) k⟩
  subst hv
  go_simp
  refine hK _ ?_
  clear hK K
  refine lexB_step (fun K hK => ⟨by kernel_rfl, ⟨_, rfl⟩, fun v hv => ?_, fun v hv => ?_⟩)
  · go_simp
    exact lUpon_b hv
  subst hv
  go_simp
  refine hK _ ?_
  clear hK K
  refine lexL_end ?_
  intro W2 hW2
  replace HM := hideR ((unhideR HM).keep hW2)
  replace HK := hideR ((unhideR HK).go hW2)
  clear HXa hr hW2 hnx
  cases r1
  case' false =>
    have c14 : W2.cell? ⟨g, 14, none⟩ = some (.int .i64 p.st) := ((unhideR HM).cell 14 (by decide)).1
    have f14 : W2.frozen? ⟨g, 14, none⟩ = false := ((unhideR HM).cell 14 (by decide)).2
    have HF := hideR (unhideR HX1 _ (.inr (Decidable.not_not.1 (of_decide_eq_false (p := ¬ out p.B (p.y + p.pb)) (unhideR HR1)))) ((unhideR HM).st 5))
    go_wp2
    simp [bodyPost, results, Tryd.results63, go_sem]
    exact ⟨unhideR HF, (unhideR HK).put 14 _⟩
  have HN1 := hideR (of_decide_eq_true (p := ¬ out p.B (p.y + p.pb)) (unhideR HR1))
  clear HR1
  go_wp2
  have HX := hideR (fun u => unhideR HX2 u (fun q => q.elim (unhideR HN0) (unhideR HN1)))
  clear HX1 HX2 HN0 HN1 i0 i1
  rw [rounds_succ]
  go_wp2
  refine wp_loop_rounds 3 ?_
  rw [rounds_succ]
  go_wp2_with fail
  have hnx : ∀ u : World, PB u g p → Calls Tryd.prog 87 #[.pointer (some ⟨g, 0, none⟩)] u fun e w' => e = .returned (.int .i64 (p.x + p.pa)) ∧ Below u.heap.size u w' := fun u h => next_any (g := g) (o := 0) (x := p.x) (q := p.pa) (h.cell 4 (by decide)).1 (h.cell 6 (by decide)).1 hx hpa
  refine wp_region_made 0 #[true, true, true, true, true, true, true, true, true, true, true, true, false] [.lets (· = .pointer (some ⟨g, 0, none⟩)),
    .lets (· = .int .i64 0),
    .lets (· = .pointer (some ⟨g, 0, none⟩)),
    .lets (· = .int .i64 0),
    .lets (· = .pointer (some ⟨g, 0, none⟩)),
    .lets (· = .pointer (some ⟨g, 0, none⟩)),
    .lets (· = .pointer (some ⟨g, 0, none⟩)),
    .lets (· = .int .i64 (p.x + p.pa)),
    .lets (· = .pointer (some ⟨g, 0, none⟩)),
    .lets (· = .pointer (some ⟨g, 0, none⟩)),
    .lets (· = .pointer (some ⟨g, 0, none⟩)),
    .lets (· = .pointer (some ⟨g, 4, none⟩))] [] [] (by kernel_rfl) (by kernel_rfl) rfl ?kinds (by kernel_rfl) (by kernel_rfl) (by kernel_rfl) ?_
  case kinds =>
    constructor
    · intro i h
      rcases i with _ | _ | _ | _ | _ | _ | _ | _ | _ | _ | _ | _ | i <;> simp [Kx.isMade] at h
    · intro i h
      rcases i with _ | _ | _ | _ | _ | _ | _ | _ | _ | _ | _ | _ | i <;> simp [Kx.isUse] at h
  refine lexX_step (fun K hK => ⟨by kernel_rfl, ⟨_, rfl⟩, fun v hv => ?_, fun v hv => ?_⟩)
  · go_simp
    exact mUpon_b
  subst hv
  go_simp
  refine hK _ ?_
  clear hK K
  refine lexX_step (fun K hK => ⟨by kernel_rfl, ⟨_, rfl⟩, fun v hv => ?_, fun v hv => ?_⟩)
  · go_simp
    exact mUpon_b
  subst hv
  go_simp
  refine hK _ ?_
  clear hK K
  refine lexX_step (fun K hK => ⟨by kernel_rfl, ⟨_, rfl⟩, fun v hv => ?_, fun v hv => ?_⟩)
  · go_simp
    exact mUpon_b
  subst hv
  go_simp
  refine hK _ ?_
  clear hK K
  refine lexX_step (fun K hK => ⟨by kernel_rfl, ⟨_, rfl⟩, fun v hv => ?_, fun v hv => ?_⟩)
  · go_simp
    exact mUpon_b
  subst hv
  go_simp
  refine hK _ ?_
  clear hK K
  refine lexX_step (fun K hK => ⟨by kernel_rfl, ⟨_, rfl⟩, fun v hv => ?_, fun v hv => ?_⟩)
  · go_simp
    exact mUpon_b
  subst hv
  go_simp
  refine hK _ ?_
  clear hK K
  refine lexX_step (fun K hK => ⟨by kernel_rfl, ⟨_, rfl⟩, fun v hv => ?_, fun v hv => ?_⟩)
  · go_simp
    exact mUpon_b
  subst hv
  go_simp
  refine hK _ ?_
  clear hK K
  refine lexX_step (fun K hK => ⟨by kernel_rfl, ⟨_, rfl⟩, fun v hv => ?_, fun v hv => ?_⟩)
  · go_simp
    exact mUpon_b
  subst hv
  go_simp
  refine hK _ ?_
  clear hK K
  refine lexX_step (fun K hK => ⟨by kernel_rfl, ⟨_, rfl⟩, fun v hv => ?_, fun v hv => ?_⟩)
  · go_simp
    refine (hnx _ ((unhideR HM).keep hv)).mono ?_
    rintro e w9 ⟨rfl, k⟩
    exact ⟨_, rfl, rfl, k⟩
  subst hv
  go_simp
  refine hK _ ?_
  clear hK K
  refine lexX_step (fun K hK => ⟨by kernel_rfl, ⟨_, rfl⟩, fun v hv => ?_, fun v hv => ?_⟩)
  · go_simp
    exact mUpon_b
  subst hv
  go_simp
  refine hK _ ?_
  clear hK K
  refine lexX_step (fun K hK => ⟨by kernel_rfl, ⟨_, rfl⟩, fun v hv => ?_, fun v hv => ?_⟩)
  · go_simp
    exact mUpon_b
  subst hv
  go_simp
  refine hK _ ?_
  clear hK K
  refine lexX_step (fun K hK => ⟨by kernel_rfl, ⟨_, rfl⟩, fun v hv => ?_, fun v hv => ?_⟩)
  · go_simp
    exact mUpon_b
  subst hv
  go_simp
  refine hK _ ?_
  clear hK K
  refine lexX_step (fun K hK => ⟨by kernel_rfl, ⟨_, rfl⟩, fun v hv => ?_, fun v hv => ?_⟩)
  · go_simp
    exact mUpon_b
  subst hv
  go_simp
  refine hK _ ?_
  clear hK K
  refine lexX_end (fun v5 hv => ?_)
  have hq := ((unhideR HM).keep hv.low).cell 4 (by decide)
  have q1 : v5.cell? ⟨g, 4, none⟩ = some (.int .i64 p.x) := hq.1
  have q2 : v5.frozen? ⟨g, 4, none⟩ = false := hq.2
  replace HM := hideR (((unhideR HM).keep hv.low).x (p.x + p.pa))
  replace HK := hideR (((unhideR HK).go hv.low).put 4 (.int .i64 (p.x + p.pa)))
  clear hv hq hnx
  refine wpAny_step (i := 12) (by kernel_rfl) rfl (by kernel_rfl) (fun K hK => ?_)
  unfold Oper.wp
  go_simp
  refine hK _ _ ?_
  clear hK K
  refine wpAny_end (by kernel_rfl) ?_
  clear q1 q2
  generalize v5.setCell ⟨g, 4, none⟩ (.int .i64 (p.x + p.pa)) = X1 at *
  go_wp2
  rw [rounds_succ]
  go_wp2_with fail
  have hnx : ∀ u : World, PB u g { p with x := p.x + p.pa } → Calls Tryd.prog 87 #[.pointer (some ⟨g, 7, none⟩)] u fun e w' => e = .returned (.int .i64 (p.y + p.pb)) ∧ Below u.heap.size u w' := fun u h => next_any (g := g) (o := 7) (x := p.y) (q := p.pb) (h.cell 11 (by decide)).1 (h.cell 13 (by decide)).1 hy hpb
  refine wp_region_made 0 #[true, true, true, true, true, true, true, true, true, true, true, true, false] [.lets (· = .pointer (some ⟨g, 0, none⟩)),
    .lets (· = .int .i64 1),
    .lets (· = .pointer (some ⟨g, 0, none⟩)),
    .lets (· = .int .i64 1),
    .lets (· = .pointer (some ⟨g, 0, none⟩)),
    .lets (· = .pointer (some ⟨g, 0, none⟩)),
    .lets (· = .pointer (some ⟨g, 7, none⟩)),
    .lets (· = .int .i64 (p.y + p.pb)),
    .lets (· = .pointer (some ⟨g, 0, none⟩)),
    .lets (· = .pointer (some ⟨g, 0, none⟩)),
    .lets (· = .pointer (some ⟨g, 7, none⟩)),
    .lets (· = .pointer (some ⟨g, 11, none⟩))] [] [] (by kernel_rfl) (by kernel_rfl) rfl ?kinds (by kernel_rfl) (by kernel_rfl) (by kernel_rfl) ?_
  case kinds =>
    constructor
    · intro i h
      rcases i with _ | _ | _ | _ | _ | _ | _ | _ | _ | _ | _ | _ | i <;> simp [Kx.isMade] at h
    · intro i h
      rcases i with _ | _ | _ | _ | _ | _ | _ | _ | _ | _ | _ | _ | i <;> simp [Kx.isUse] at h
  refine lexX_step (fun K hK => ⟨by kernel_rfl, ⟨_, rfl⟩, fun v hv => ?_, fun v hv => ?_⟩)
  · go_simp
    exact mUpon_b
  subst hv
  go_simp
  refine hK _ ?_
  clear hK K
  refine lexX_step (fun K hK => ⟨by kernel_rfl, ⟨_, rfl⟩, fun v hv => ?_, fun v hv => ?_⟩)
  · go_simp
    exact mUpon_b
  subst hv
  go_simp
  refine hK _ ?_
  clear hK K
  refine lexX_step (fun K hK => ⟨by kernel_rfl, ⟨_, rfl⟩, fun v hv => ?_, fun v hv => ?_⟩)
  · go_simp
    exact mUpon_b
  subst hv
  go_simp
  refine hK _ ?_
  clear hK K
  refine lexX_step (fun K hK => ⟨by kernel_rfl, ⟨_, rfl⟩, fun v hv => ?_, fun v hv => ?_⟩)
  · go_simp
    exact mUpon_b
  subst hv
  go_simp
  refine hK _ ?_
  clear hK K
  refine lexX_step (fun K hK => ⟨by kernel_rfl, ⟨_, rfl⟩, fun v hv => ?_, fun v hv => ?_⟩)
  · go_simp
    exact mUpon_b
  subst hv
  go_simp
  refine hK _ ?_
  clear hK K
  refine lexX_step (fun K hK => ⟨by kernel_rfl, ⟨_, rfl⟩, fun v hv => ?_, fun v hv => ?_⟩)
  · go_simp
    exact mUpon_b
  subst hv
  go_simp
  refine hK _ ?_
  clear hK K
  refine lexX_step (fun K hK => ⟨by kernel_rfl, ⟨_, rfl⟩, fun v hv => ?_, fun v hv => ?_⟩)
  · go_simp
    exact mUpon_b
  subst hv
  go_simp
  refine hK _ ?_
  clear hK K
  refine lexX_step (fun K hK => ⟨by kernel_rfl, ⟨_, rfl⟩, fun v hv => ?_, fun v hv => ?_⟩)
  · go_simp
    refine (hnx _ ((unhideR HM).keep hv)).mono ?_
    rintro e w9 ⟨rfl, k⟩
    exact ⟨_, rfl, rfl, k⟩
  subst hv
  go_simp
  refine hK _ ?_
  clear hK K
  refine lexX_step (fun K hK => ⟨by kernel_rfl, ⟨_, rfl⟩, fun v hv => ?_, fun v hv => ?_⟩)
  · go_simp
    exact mUpon_b
  subst hv
  go_simp
  refine hK _ ?_
  clear hK K
  refine lexX_step (fun K hK => ⟨by kernel_rfl, ⟨_, rfl⟩, fun v hv => ?_, fun v hv => ?_⟩)
  · go_simp
    exact mUpon_b
  subst hv
  go_simp
  refine hK _ ?_
  clear hK K
  refine lexX_step (fun K hK => ⟨by kernel_rfl, ⟨_, rfl⟩, fun v hv => ?_, fun v hv => ?_⟩)
  · go_simp
    exact mUpon_b
  subst hv
  go_simp
  refine hK _ ?_
  clear hK K
  refine lexX_step (fun K hK => ⟨by kernel_rfl, ⟨_, rfl⟩, fun v hv => ?_, fun v hv => ?_⟩)
  · go_simp
    exact mUpon_b
  subst hv
  go_simp
  refine hK _ ?_
  clear hK K
  refine lexX_end (fun v5 hv => ?_)
  have hq := ((unhideR HM).keep hv.low).cell 11 (by decide)
  have q1 : v5.cell? ⟨g, 11, none⟩ = some (.int .i64 p.y) := hq.1
  have q2 : v5.frozen? ⟨g, 11, none⟩ = false := hq.2
  replace HM := hideR (((unhideR HM).keep hv.low).y (p.y + p.pb))
  replace HK := hideR (((unhideR HK).go hv.low).put 11 (.int .i64 (p.y + p.pb)))
  clear hv hq hnx
  refine wpAny_step (i := 12) (by kernel_rfl) rfl (by kernel_rfl) (fun K hK => ?_)
  unfold Oper.wp
  go_simp
  refine hK _ _ ?_
  clear hK K
  refine wpAny_end (by kernel_rfl) ?_
  clear q1 q2
  generalize v5.setCell ⟨g, 11, none⟩ (.int .i64 (p.y + p.pb)) = X2 at *
  go_wp2
  try rw [rounds_succ]
  try go_wp2
  go_end0
  exact ⟨rfl, unhideR HX _ (unhideR HM), unhideR HK⟩
def downP (p : PM) : PM := if 0 < p.left then { p with left := p.left - 1 } else p
def watchP (p : PM) : PM := if (downP p).left = 0 then parkP (downP p) else downP p
set_option maxRecDepth 100000 in
set_option maxHeartbeats 3200000 in
theorem watch_any {g : Nat} {p : PM} {w : World} (hM : PB w g p) (hl : 0 ≤ p.left ∧ p.left ≤ 1099511627776) :
    Calls Tryd.prog 64 #[.pointer (some ⟨g, 0, none⟩)] w fun e w' => e = .returned (.tuple #[]) ∧ PB w' g (watchP p) ∧ Chg g w w' := by
  have hw : IntKind.i64.wrap (p.left - 1) = p.left - 1 := iwrap (by omega) (by omega)
  have c16 : w.cell? ⟨g, 16, none⟩ = some (.int .i64 p.left) := (hM.cell 16 (by decide)).1
  have f16 : w.frozen? ⟨g, 16, none⟩ = false := (hM.cell 16 (by decide)).2
  by_cases h0 : 0 < p.left
  · have hd : downP p = { p with left := p.left - 1 } := by unfold downP; rw [if_pos h0]
    have HM := hideR (hM.left (p.left - 1))
    have HK := hideR ((Chg.refl g w).put 16 (.int .i64 (p.left - 1)))
    have t0 : decide (0 < p.left) = true := decide_eq_true h0
    have HL : HeldR (0 < p.left) := h0
    unfold watchP
    rw [hd]
    clear hd hl h0
    have c16' : (w.setCell ⟨g, 16, none⟩ (.int .i64 (p.left - 1))).cell? ⟨g, 16, none⟩ = some (.int .i64 (p.left - 1)) := ((unhideR HM).cell 16 (by decide)).1
    by_cases h1 : p.left = 1
    · have t1 : (p.left - 1 == 0) = true := by simp [h1]
      rw [if_pos (by show p.left - 1 = 0; omega)]
      clear h1
      go_enter Tryd.func64, Tryd.ntmps64
      go_wp2_with fail
      refine (park_any (unhideR HM)).mono ?_
      rintro e w1 ⟨rfl, m1, k1⟩
      have H1 := hideR m1
      replace HK := hideR ((unhideR HK).trans k1)
      clear m1 k1
      go_wp2
      go_end0
      exact ⟨rfl, unhideR H1, unhideR HK⟩
    · have t1 : (p.left - 1 == 0) = false := by simp; have := unhideR HL; omega
      rw [if_neg (by show ¬ p.left - 1 = 0; have := unhideR HL; omega)]
      clear h1
      go_enter Tryd.func64, Tryd.ntmps64
      go_wp2
      go_end0
      exact ⟨rfl, unhideR HM, unhideR HK⟩
  · have hd : downP p = p := by unfold downP; rw [if_neg h0]
    have t0 : decide (0 < p.left) = false := decide_eq_false h0
    have t1 : (p.left == 0) = true := by simp; omega
    unfold watchP
    rw [hd, if_pos (by omega)]
    have HM := hideR hM
    clear hd hl h0 hM
    go_enter Tryd.func64, Tryd.ntmps64
    go_wp2_with fail
    refine (park_any (unhideR HM)).mono ?_
    rintro e w1 ⟨rfl, m1, k1⟩
    have H1 := hideR m1
    have HK := hideR k1
    clear m1 k1
    go_wp2
    go_end0
    exact ⟨rfl, unhideR H1, unhideR HK⟩
def moveP (p : PM) : PM := if p.st = 1 then nearP p 0 else if p.st = 3 then nearP p 4 else if p.st = 2 then followP p else p
def tickP (p : PM) : PM := watchP (moveP p)
theorem move_left (p : PM) : (moveP p).left = p.left := by
  unfold moveP nearP followP
  repeat' split
  all_goals rfl
set_option maxRecDepth 100000 in
set_option maxHeartbeats 3200000 in
theorem ptick_any {g : Nat} {p : PM} {w : World} (hM : PB w g p) (hB : InB p) (hl : 0 ≤ p.left ∧ p.left ≤ 1099511627776) (hg : p.st = 1 ∨ p.st = 3 → (-1099511627776 ≤ p.ga ∧ p.ga ≤ 1099511627776) ∧ (-1099511627776 ≤ p.gb ∧ p.gb ≤ 1099511627776)) (hp : p.st = 2 → (-1099511627776 ≤ p.pa ∧ p.pa ≤ 1099511627776) ∧ (-1099511627776 ≤ p.pb ∧ p.pb ≤ 1099511627776)) :
    Calls Tryd.prog 28 #[.pointer (some ⟨g, 0, none⟩)] w fun e w' => e = .returned (.tuple #[.int .i64 (tickP p).x, .int .i64 (tickP p).y]) ∧ PB w' g (tickP p) ∧ Chg g w w' := by
  have hwa : ∀ u : World, PB u g (moveP p) → Calls Tryd.prog 64 #[.pointer (some ⟨g, 0, none⟩)] u fun e w' => e = .returned (.tuple #[]) ∧ PB w' g (tickP p) ∧ Chg g u w' := fun u hu => watch_any hu (by rw [move_left]; exact hl)
  have hat : ∀ u : World, PB u g (tickP p) → Calls Tryd.prog 33 #[.pointer (some ⟨g, 0, none⟩)] u fun e w' => e = .returned (.tuple #[.int .i64 (tickP p).x, .int .i64 (tickP p).y]) ∧ Below u.heap.size u w' := fun u hu => mat_any hu
  have c14 : w.cell? ⟨g, 14, none⟩ = some (.int .i64 p.st) := (hM.cell 14 (by decide)).1
  generalize hR : tickP p = R at *
  clear hR hl
  by_cases h1 : p.st = 1
  · have t1 : (p.st == 1) = true := by simp [h1]
    have hc := fun (u : World) (h : PB u g p) => near_any 0 h hB (hg (.inl h1)).1 (hg (.inl h1)).2
    have HV : HeldR (∀ u, PB u g (nearP p 0) → PB u g (moveP p)) := by
      intro u hu
      unfold moveP
      rw [if_pos h1]
      exact hu
    clear h1 hg hp hB
    go_enter Tryd.func28, Tryd.ntmps28
    go_wp2_with fail
    refine (hc _ hM).mono ?_
    rintro e w1 ⟨rfl, m1, k1⟩
    have H1 : HeldR (PB w1 g (moveP p)) := unhideR HV _ m1
    have HK := hideR k1
    clear m1 k1 hc HV
    go_wp2_with fail
    refine (hwa _ (unhideR H1)).mono ?_
    rintro e w2 ⟨rfl, m2, k2⟩
    have H2 := hideR m2
    replace HK := hideR ((unhideR HK).trans k2)
    clear m2 k2 hwa
    go_wp2_with fail
    refine (hat _ (unhideR H2)).mono ?_
    rintro e w3 ⟨rfl, k3⟩
    have H3 := hideR ((unhideR H2).keep k3)
    replace HK := hideR ((unhideR HK).go k3)
    clear k3 hat
    go_wp2
    go_ret2
    exact ⟨rfl, unhideR H3, unhideR HK⟩
  by_cases h3 : p.st = 3
  · have t1 : (p.st == 1) = false := by simp [h1]
    have t3 : (p.st == 3) = true := by simp [h3]
    have hc := fun (u : World) (h : PB u g p) => near_any 4 h hB (hg (.inr h3)).1 (hg (.inr h3)).2
    have HV : HeldR (∀ u, PB u g (nearP p 4) → PB u g (moveP p)) := by
      intro u hu
      unfold moveP
      rw [if_neg h1, if_pos h3]
      exact hu
    clear h1 h3 hg hp hB
    go_enter Tryd.func28, Tryd.ntmps28
    go_wp2_with fail
    refine (hc _ hM).mono ?_
    rintro e w1 ⟨rfl, m1, k1⟩
    have H1 : HeldR (PB w1 g (moveP p)) := unhideR HV _ m1
    have HK := hideR k1
    clear m1 k1 hc HV
    go_wp2_with fail
    refine (hwa _ (unhideR H1)).mono ?_
    rintro e w2 ⟨rfl, m2, k2⟩
    have H2 := hideR m2
    replace HK := hideR ((unhideR HK).trans k2)
    clear m2 k2 hwa
    go_wp2_with fail
    refine (hat _ (unhideR H2)).mono ?_
    rintro e w3 ⟨rfl, k3⟩
    have H3 := hideR ((unhideR H2).keep k3)
    replace HK := hideR ((unhideR HK).go k3)
    clear k3 hat
    go_wp2
    go_ret2
    exact ⟨rfl, unhideR H3, unhideR HK⟩
  by_cases h2 : p.st = 2
  · have t1 : (p.st == 1) = false := by simp [h1]
    have t3 : (p.st == 3) = false := by simp [h3]
    have t2 : (p.st == 2) = true := by simp [h2]
    have hc := fun (u : World) (h : PB u g p) => follow_any h hB (hp h2).1 (hp h2).2
    have HV : HeldR (∀ u, PB u g (followP p) → PB u g (moveP p)) := by
      intro u hu
      unfold moveP
      rw [if_neg h1, if_neg h3, if_pos h2]
      exact hu
    clear h1 h3 h2 hg hp hB
    go_enter Tryd.func28, Tryd.ntmps28
    go_wp2_with fail
    refine (hc _ hM).mono ?_
    rintro e w1 ⟨rfl, m1, k1⟩
    have H1 : HeldR (PB w1 g (moveP p)) := unhideR HV _ m1
    have HK := hideR k1
    clear m1 k1 hc HV
    go_wp2_with fail
    refine (hwa _ (unhideR H1)).mono ?_
    rintro e w2 ⟨rfl, m2, k2⟩
    have H2 := hideR m2
    replace HK := hideR ((unhideR HK).trans k2)
    clear m2 k2 hwa
    go_wp2_with fail
    refine (hat _ (unhideR H2)).mono ?_
    rintro e w3 ⟨rfl, k3⟩
    have H3 := hideR ((unhideR H2).keep k3)
    replace HK := hideR ((unhideR HK).go k3)
    clear k3 hat
    go_wp2
    go_ret2
    exact ⟨rfl, unhideR H3, unhideR HK⟩
  have t1 : (p.st == 1) = false := by simp [h1]
  have t3 : (p.st == 3) = false := by simp [h3]
  have t2 : (p.st == 2) = false := by simp [h2]
  have HV : HeldR (∀ u, PB u g p → PB u g (moveP p)) := by
    intro u hu
    unfold moveP
    rw [if_neg h1, if_neg h3, if_neg h2]
    exact hu
  have H1 : HeldR (PB w g (moveP p)) := unhideR HV _ hM
  have HK := hideR (Chg.refl g w)
  clear h1 h3 h2 hg hp hB HV hM
  go_enter Tryd.func28, Tryd.ntmps28
  go_wp2_with fail
  refine (hwa _ (unhideR H1)).mono ?_
  rintro e w2 ⟨rfl, m2, k2⟩
  have H2 := hideR m2
  replace HK := hideR ((unhideR HK).trans k2)
  clear m2 k2 hwa
  go_wp2_with fail
  refine (hat _ (unhideR H2)).mono ?_
  rintro e w3 ⟨rfl, k3⟩
  have H3 := hideR ((unhideR H2).keep k3)
  replace HK := hideR ((unhideR HK).go k3)
  clear k3 hat
  go_wp2
  go_ret2
  exact ⟨rfl, unhideR H3, unhideR HK⟩
end Go.Proofs.YteoappoijihomahDoor
