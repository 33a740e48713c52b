/-
  The document's mount: a tick, by contract.
-/
import Derived.Test.YteoappoijihomahDoorMtRef
import Derived.Deep.QuietTactic
namespace Go.Proofs.YteoappoijihomahDoor
open Go Go.RowKit

theorem tick_by (m : Mt) : tickV m = { moveV { m with quiet := m.quiet + 1 } with st := if m.pat ≤ m.quiet + 1 ∧ (moveV { m with quiet := m.quiet + 1 }).st ≠ 4 then 3 else (moveV { m with quiet := m.quiet + 1 }).st } := by
  have e : moveV { m with quiet := m.quiet + 1 } = { moveV m with quiet := m.quiet + 1 } := by
    unfold moveV
    repeat' split
    all_goals first | rfl | contradiction
  rw [e]
  rfl
theorem fine_in {m : Mt} (h : Fine m) : (-1099511627776 ≤ m.X ∧ m.X ≤ 1099511627776) ∧ (-1099511627776 ≤ m.Y ∧ m.Y ≤ 1099511627776) ∧ (-1099511627776 ≤ m.A.home ∧ m.A.home ≤ 1099511627776) ∧ (-1099511627776 ≤ m.B.home ∧ m.B.home ≤ 1099511627776) ∧ (1 ≤ m.A.fast ∧ m.A.fast ≤ 1099511627776) ∧ (1 ≤ m.B.fast ∧ m.B.fast ≤ 1099511627776) ∧
    (-1099511627776 ≤ m.A.lo ∧ m.A.hi ≤ 1099511627776) ∧ (-1099511627776 ≤ m.B.lo ∧ m.B.hi ≤ 1099511627776) := by
  obtain ⟨sa, sb, la, lb, x, y, _, _, _, _, _, _⟩ := h
  unfold Lim.shape at sa sb
  unfold Lim.large large at la lb
  unfold out at x y
  omega
set_option maxRecDepth 100000 in
set_option maxHeartbeats 6400000 in
theorem rtick_any {g : Nat} {m : Mt} {w : World} (hM : Ref w g m) (hF : Fine m) (hq : m.quiet ≤ 1000000) :
    Calls Tryd.prog 29 #[.pointer (some ⟨g, 0, none⟩)] w fun e w' => e = .returned (.tuple #[]) ∧ Ref w' g (tickV m) ∧ Chg g w w' := by
  rw [tick_by]
  have hb := fine_in hF
  have h1 := hF.slew
  have h2 := hF.track
  have q0 := hF.q0
  have st0 := hF.st0
  have HM0 := hideR (hM.quiet (m.quiet + 1))
  have HK0 := hideR ((Chg.refl g w).put 14 (.int .i64 (m.quiet + 1)))
  have hc := hM.cell 14 (by decide)
  have c14 : w.cell? ⟨g, 14, none⟩ = some (.int .i64 m.quiet) := hc.1
  have f14 := hc.2
  have wq : IntKind.i64.wrap (m.quiet + 1) = m.quiet + 1 := iwrap (by omega) (by omega)
  obtain ⟨n, hn⟩ : ∃ n : Mt, n = { m with quiet := m.quiet + 1 } := ⟨_, rfl⟩
  have e1 : m.quiet + 1 = n.quiet := by rw [hn]
  have e2 : m.pat = n.pat := by rw [hn]
  have hb' : (-1099511627776 ≤ n.X ∧ n.X ≤ 1099511627776) ∧ (-1099511627776 ≤ n.Y ∧ n.Y ≤ 1099511627776) ∧ (-1099511627776 ≤ n.A.home ∧ n.A.home ≤ 1099511627776) ∧ (-1099511627776 ≤ n.B.home ∧ n.B.home ≤ 1099511627776) ∧ (1 ≤ n.A.fast ∧ n.A.fast ≤ 1099511627776) ∧ (1 ≤ n.B.fast ∧ n.B.fast ≤ 1099511627776) ∧
    (-1099511627776 ≤ n.A.lo ∧ n.A.hi ≤ 1099511627776) ∧ (-1099511627776 ≤ n.B.lo ∧ n.B.hi ≤ 1099511627776) := by rw [hn]; exact hb
  have h1' : n.st = 1 → ¬ out n.A n.P ∧ ¬ out n.B n.Q := by rw [hn]; exact h1
  have h2' : n.st = 2 → ¬ quick n.A n.P ∧ ¬ quick n.B n.Q := by rw [hn]; exact h2
  have st0' : 0 ≤ n.st ∧ n.st ≤ 5 := by rw [hn]; exact st0
  rw [← hn] at HM0 ⊢
  rw [e1, e2]
  have HFin : HeldR (∀ (k : Mt), k = moveV n → ∀ (u : World), Ref u g k → Chg g w u → (n.pat ≤ n.quiet ∧ k.st ≠ 4 → Ref (u.setCell ⟨g, 12, none⟩ (.int .i64 3)) g { moveV n with st := if n.pat ≤ n.quiet ∧ (moveV n).st ≠ 4 then 3 else (moveV n).st } ∧ Chg g w (u.setCell ⟨g, 12, none⟩ (.int .i64 3))) ∧ (¬ (n.pat ≤ n.quiet ∧ k.st ≠ 4) → Ref u g { moveV n with st := if n.pat ≤ n.quiet ∧ (moveV n).st ≠ 4 then 3 else (moveV n).st } ∧ Chg g w u)) := by
    intro k hk u hu hc
    subst hk
    constructor
    · intro q
      rw [if_pos q]
      exact ⟨hu.st 3, hc.put 12 _⟩
    · intro q
      rw [if_neg q]
      exact ⟨hu, hc⟩
  have HPost : HeldR (∀ r : Mt, r = { moveV n with st := if n.pat ≤ n.quiet ∧ (moveV n).st ≠ 4 then 3 else (moveV n).st } → True) := fun _ _ => trivial
  clear HPost hb h1 h2 st0 hF hM hc
  generalize hG : ({ moveV n with st := if n.pat ≤ n.quiet ∧ (moveV n).st ≠ 4 then 3 else (moveV n).st } : Mt) = G at *
  have HE1 := hideR e1
  clear hG e1 e2 hn
  go_enter Tryd.func29, Tryd.ntmps29
  go_wp2_with fail
  rw [unhideR HE1] at HK0 HM0 ⊢
  generalize w.setCell ⟨g, 14, none⟩ (.int .i64 n.quiet) = W1 at *
  have HM := HM0
  have HK := HK0
  clear HM0 HK0 c14 f14 wq HE1
  have c14 : W1.cell? ⟨g, 14, none⟩ = some (.int .i64 n.quiet) := ((unhideR HM).cell 14 (by decide)).1
  have c13 : W1.cell? ⟨g, 13, none⟩ = some (.int .i64 n.pat) := ((unhideR HM).cell 13 (by decide)).1
  go_quiet (fail)
  clear c14 c13
  replace HM := hideR ((unhideR HM).keep (drawn_below W1 nq))
  replace HK := hideR ((unhideR HK).go (drawn_below W1 nq))
  generalize W1.drewN nq = W2 at *
  have c12 : W2.cell? ⟨g, 12, none⟩ = some (.int .i64 n.st) := ((unhideR HM).cell 12 (by decide)).1
  by_cases s1 : n.st = 1
  · have hst := s1
    have t1 : (n.st == 1) = true := by simp [s1]
    have p1 := h1' s1
    unfold out at p1
    have HMv : HeldR (moveV n = { n with X := towards n.X n.P n.A.fast, Y := towards n.Y n.Q n.B.fast, st := if towards n.X n.P n.A.fast = n.P ∧ towards n.Y n.Q n.B.fast = n.Q then 0 else 1 }) := by
      unfold HeldR
      show (if n.st = 1 then _ else _) = _
      rw [if_pos s1]
    have Hst := hideR hst
    clear s1 h1' h2' hst
    go_wp2_with fail
    clear c12
    have hto := fun u => towards_any n.X n.P n.A.fast u (by omega) (by omega) (by omega) (by omega) (by omega) (by omega)
    generalize towards n.X n.P n.A.fast = R1 at *
    refine wp_region_made 0 #[true, true, true, true, true, true, true, true, true, true, true, true, true, true, true, true, true, false] [.lets (· = .pointer (some ⟨g, 0, none⟩)),
      .lets (· = .pointer (some ⟨g, 0, none⟩)),
      .lets (· = .pointer (some ⟨g, 0, none⟩)),
      .lets (· = .pointer (some ⟨g, 8, none⟩)),
      .lets (· = .int .i64 n.X),
      .lets (· = .pointer (some ⟨g, 0, none⟩)),
      .lets (· = .pointer (some ⟨g, 0, none⟩)),
      .lets (· = .pointer (some ⟨g, 10, none⟩)),
      .lets (· = .int .i64 n.P),
      .lets (· = .pointer (some ⟨g, 0, none⟩)),
      .lets (· = .pointer (some ⟨g, 0, none⟩)),
      .lets (· = .pointer (some ⟨g, 0, none⟩)),
      .lets (· = .pointer (some ⟨g, 2, none⟩)),
      .lets (· = .int .i64 n.A.fast),
      .lets (· = .int .i64 R1),
      .lets (· = .pointer (some ⟨g, 0, none⟩)),
      .lets (· = .pointer (some ⟨g, 8, none⟩))] [] [] (by kernel_rfl) (by kernel_rfl) rfl ?kinds (by kernel_rfl) (by kernel_rfl) (by kernel_rfl) ?_
    case kinds =>
      constructor
      · intro i h
        rcases i with _ | _ | _ | _ | _ | _ | _ | _ | _ | _ | _ | _ | _ | _ | _ | _ | _ | i <;> simp [Kx.isMade] at h
      · intro i h
        rcases i with _ | _ | _ | _ | _ | _ | _ | _ | _ | _ | _ | _ | _ | _ | _ | _ | _ | i <;> simp [Kx.isUse] at h
    refine lexX_step (fun K hK => ⟨by kernel_rfl, ⟨_, rfl⟩, fun v hv => ?_, fun v hv => ?_⟩)
    · go_simp
      exact mUpon_b
    subst hv
    go_simp
    refine hK _ ?_
    clear hK K
    refine lexX_step (fun K hK => ⟨by kernel_rfl, ⟨_, rfl⟩, fun v hv => ?_, fun v hv => ?_⟩)
    · go_simp
      exact mUpon_b
    subst hv
    go_simp
    refine hK _ ?_
    clear hK K
    refine lexX_step (fun K hK => ⟨by kernel_rfl, ⟨_, rfl⟩, fun v hv => ?_, fun v hv => ?_⟩)
    · go_simp
      exact mUpon_b
    subst hv
    go_simp
    refine hK _ ?_
    clear hK K
    refine lexX_step (fun K hK => ⟨by kernel_rfl, ⟨_, rfl⟩, fun v hv => ?_, fun v hv => ?_⟩)
    · go_simp
      exact mUpon_b
    subst hv
    go_simp
    refine hK _ ?_
    clear hK K
    refine lexX_step (fun K hK => ⟨by kernel_rfl, ⟨_, rfl⟩, fun v hv => ?_, fun v hv => ?_⟩)
    · have c := (((unhideR HM).keep hv).cell 8 (by decide)).1
      replace c : v.cell? ⟨g, 8, none⟩ = some (.int .i64 n.X) := c
      go_simp
      exact mUpon_b
    subst hv
    go_simp
    refine hK _ ?_
    clear hK K
    refine lexX_step (fun K hK => ⟨by kernel_rfl, ⟨_, rfl⟩, fun v hv => ?_, fun v hv => ?_⟩)
    · go_simp
      exact mUpon_b
    subst hv
    go_simp
    refine hK _ ?_
    clear hK K
    refine lexX_step (fun K hK => ⟨by kernel_rfl, ⟨_, rfl⟩, fun v hv => ?_, fun v hv => ?_⟩)
    · go_simp
      exact mUpon_b
    subst hv
    go_simp
    refine hK _ ?_
    clear hK K
    refine lexX_step (fun K hK => ⟨by kernel_rfl, ⟨_, rfl⟩, fun v hv => ?_, fun v hv => ?_⟩)
    · go_simp
      exact mUpon_b
    subst hv
    go_simp
    refine hK _ ?_
    clear hK K
    refine lexX_step (fun K hK => ⟨by kernel_rfl, ⟨_, rfl⟩, fun v hv => ?_, fun v hv => ?_⟩)
    · have c := (((unhideR HM).keep hv).cell 10 (by decide)).1
      replace c : v.cell? ⟨g, 10, none⟩ = some (.int .i64 n.P) := c
      go_simp
      exact mUpon_b
    subst hv
    go_simp
    refine hK _ ?_
    clear hK K
    refine lexX_step (fun K hK => ⟨by kernel_rfl, ⟨_, rfl⟩, fun v hv => ?_, fun v hv => ?_⟩)
    · go_simp
      exact mUpon_b
    subst hv
    go_simp
    refine hK _ ?_
    clear hK K
    refine lexX_step (fun K hK => ⟨by kernel_rfl, ⟨_, rfl⟩, fun v hv => ?_, fun v hv => ?_⟩)
    · go_simp
      exact mUpon_b
    subst hv
    go_simp
    refine hK _ ?_
    clear hK K
    refine lexX_step (fun K hK => ⟨by kernel_rfl, ⟨_, rfl⟩, fun v hv => ?_, fun v hv => ?_⟩)
    · go_simp
      exact mUpon_b
    subst hv
    go_simp
    refine hK _ ?_
    clear hK K
    refine lexX_step (fun K hK => ⟨by kernel_rfl, ⟨_, rfl⟩, fun v hv => ?_, fun v hv => ?_⟩)
    · go_simp
      exact mUpon_b
    subst hv
    go_simp
    refine hK _ ?_
    clear hK K
    refine lexX_step (fun K hK => ⟨by kernel_rfl, ⟨_, rfl⟩, fun v hv => ?_, fun v hv => ?_⟩)
    · have c := (((unhideR HM).keep hv).cell 2 (by decide)).1
      replace c : v.cell? ⟨g, 2, none⟩ = some (.int .i64 n.A.fast) := c
      go_simp
      exact mUpon_b
    subst hv
    go_simp
    refine hK _ ?_
    clear hK K
    refine lexX_step (fun K hK => ⟨by kernel_rfl, ⟨_, rfl⟩, fun v hv => ?_, fun v hv => ?_⟩)
    · go_simp
      refine (hto _).mono ?_
      rintro e w9 ⟨rfl, rfl⟩
      exact ⟨_, rfl, rfl, Below.refl _ _⟩
    subst hv
    go_simp
    refine hK _ ?_
    clear hK K
    refine lexX_step (fun K hK => ⟨by kernel_rfl, ⟨_, rfl⟩, fun v hv => ?_, fun v hv => ?_⟩)
    · go_simp
      exact mUpon_b
    subst hv
    go_simp
    refine hK _ ?_
    clear hK K
    refine lexX_step (fun K hK => ⟨by kernel_rfl, ⟨_, rfl⟩, fun v hv => ?_, fun v hv => ?_⟩)
    · go_simp
      exact mUpon_b
    subst hv
    go_simp
    refine hK _ ?_
    clear hK K
    refine lexX_end (fun v5 hv => ?_)
    have hq := ((unhideR HM).keep hv.low).cell 8 (by decide)
    have q1 : v5.cell? ⟨g, 8, none⟩ = some (.int .i64 n.X) := hq.1
    have q2 := hq.2
    replace HM := hideR (((unhideR HM).keep hv.low).X R1)
    replace HK := hideR (((unhideR HK).go hv.low).put 8 (.int .i64 R1))
    clear hv hq hto
    refine wpAny_step (i := 17) (by kernel_rfl) rfl (by kernel_rfl) (fun K hK => ?_)
    unfold Oper.wp
    go_simp
    refine hK _ _ ?_
    clear hK K
    refine wpAny_end (by kernel_rfl) ?_
    clear q1 q2
    generalize v5.setCell ⟨g, 8, none⟩ (.int .i64 R1) = W3 at *
    go_wp2_with fail
    have hto := fun u => towards_any n.Y n.Q n.B.fast u (by omega) (by omega) (by omega) (by omega) (by omega) (by omega)
    generalize towards n.Y n.Q n.B.fast = R2 at *
    refine wp_region_made 0 #[true, true, true, true, true, true, true, true, true, true, true, true, true, true, true, true, true, false] [.lets (· = .pointer (some ⟨g, 0, none⟩)),
      .lets (· = .pointer (some ⟨g, 0, none⟩)),
      .lets (· = .pointer (some ⟨g, 0, none⟩)),
      .lets (· = .pointer (some ⟨g, 9, none⟩)),
      .lets (· = .int .i64 n.Y),
      .lets (· = .pointer (some ⟨g, 0, none⟩)),
      .lets (· = .pointer (some ⟨g, 0, none⟩)),
      .lets (· = .pointer (some ⟨g, 11, none⟩)),
      .lets (· = .int .i64 n.Q),
      .lets (· = .pointer (some ⟨g, 0, none⟩)),
      .lets (· = .pointer (some ⟨g, 0, none⟩)),
      .lets (· = .pointer (some ⟨g, 4, none⟩)),
      .lets (· = .pointer (some ⟨g, 6, none⟩)),
      .lets (· = .int .i64 n.B.fast),
      .lets (· = .int .i64 R2),
      .lets (· = .pointer (some ⟨g, 0, none⟩)),
      .lets (· = .pointer (some ⟨g, 9, none⟩))] [] [] (by kernel_rfl) (by kernel_rfl) rfl ?kinds (by kernel_rfl) (by kernel_rfl) (by kernel_rfl) ?_
    case kinds =>
      constructor
      · intro i h
        rcases i with _ | _ | _ | _ | _ | _ | _ | _ | _ | _ | _ | _ | _ | _ | _ | _ | _ | i <;> simp [Kx.isMade] at h
      · intro i h
        rcases i with _ | _ | _ | _ | _ | _ | _ | _ | _ | _ | _ | _ | _ | _ | _ | _ | _ | i <;> simp [Kx.isUse] at h
    refine lexX_step (fun K hK => ⟨by kernel_rfl, ⟨_, rfl⟩, fun v hv => ?_, fun v hv => ?_⟩)
    · go_simp
      exact mUpon_b
    subst hv
    go_simp
    refine hK _ ?_
    clear hK K
    refine lexX_step (fun K hK => ⟨by kernel_rfl, ⟨_, rfl⟩, fun v hv => ?_, fun v hv => ?_⟩)
    · go_simp
      exact mUpon_b
    subst hv
    go_simp
    refine hK _ ?_
    clear hK K
    refine lexX_step (fun K hK => ⟨by kernel_rfl, ⟨_, rfl⟩, fun v hv => ?_, fun v hv => ?_⟩)
    · go_simp
      exact mUpon_b
    subst hv
    go_simp
    refine hK _ ?_
    clear hK K
    refine lexX_step (fun K hK => ⟨by kernel_rfl, ⟨_, rfl⟩, fun v hv => ?_, fun v hv => ?_⟩)
    · go_simp
      exact mUpon_b
    subst hv
    go_simp
    refine hK _ ?_
    clear hK K
    refine lexX_step (fun K hK => ⟨by kernel_rfl, ⟨_, rfl⟩, fun v hv => ?_, fun v hv => ?_⟩)
    · have c := (((unhideR HM).keep hv).cell 9 (by decide)).1
      replace c : v.cell? ⟨g, 9, none⟩ = some (.int .i64 n.Y) := c
      go_simp
      exact mUpon_b
    subst hv
    go_simp
    refine hK _ ?_
    clear hK K
    refine lexX_step (fun K hK => ⟨by kernel_rfl, ⟨_, rfl⟩, fun v hv => ?_, fun v hv => ?_⟩)
    · go_simp
      exact mUpon_b
    subst hv
    go_simp
    refine hK _ ?_
    clear hK K
    refine lexX_step (fun K hK => ⟨by kernel_rfl, ⟨_, rfl⟩, fun v hv => ?_, fun v hv => ?_⟩)
    · go_simp
      exact mUpon_b
    subst hv
    go_simp
    refine hK _ ?_
    clear hK K
    refine lexX_step (fun K hK => ⟨by kernel_rfl, ⟨_, rfl⟩, fun v hv => ?_, fun v hv => ?_⟩)
    · go_simp
      exact mUpon_b
    subst hv
    go_simp
    refine hK _ ?_
    clear hK K
    refine lexX_step (fun K hK => ⟨by kernel_rfl, ⟨_, rfl⟩, fun v hv => ?_, fun v hv => ?_⟩)
    · have c := (((unhideR HM).keep hv).cell 11 (by decide)).1
      replace c : v.cell? ⟨g, 11, none⟩ = some (.int .i64 n.Q) := c
      go_simp
      exact mUpon_b
    subst hv
    go_simp
    refine hK _ ?_
    clear hK K
    refine lexX_step (fun K hK => ⟨by kernel_rfl, ⟨_, rfl⟩, fun v hv => ?_, fun v hv => ?_⟩)
    · go_simp
      exact mUpon_b
    subst hv
    go_simp
    refine hK _ ?_
    clear hK K
    refine lexX_step (fun K hK => ⟨by kernel_rfl, ⟨_, rfl⟩, fun v hv => ?_, fun v hv => ?_⟩)
    · go_simp
      exact mUpon_b
    subst hv
    go_simp
    refine hK _ ?_
    clear hK K
    refine lexX_step (fun K hK => ⟨by kernel_rfl, ⟨_, rfl⟩, fun v hv => ?_, fun v hv => ?_⟩)
    · go_simp
      exact mUpon_b
    subst hv
    go_simp
    refine hK _ ?_
    clear hK K
    refine lexX_step (fun K hK => ⟨by kernel_rfl, ⟨_, rfl⟩, fun v hv => ?_, fun v hv => ?_⟩)
    · go_simp
      exact mUpon_b
    subst hv
    go_simp
    refine hK _ ?_
    clear hK K
    refine lexX_step (fun K hK => ⟨by kernel_rfl, ⟨_, rfl⟩, fun v hv => ?_, fun v hv => ?_⟩)
    · have c := (((unhideR HM).keep hv).cell 6 (by decide)).1
      replace c : v.cell? ⟨g, 6, none⟩ = some (.int .i64 n.B.fast) := c
      go_simp
      exact mUpon_b
    subst hv
    go_simp
    refine hK _ ?_
    clear hK K
    refine lexX_step (fun K hK => ⟨by kernel_rfl, ⟨_, rfl⟩, fun v hv => ?_, fun v hv => ?_⟩)
    · go_simp
      refine (hto _).mono ?_
      rintro e w9 ⟨rfl, rfl⟩
      exact ⟨_, rfl, rfl, Below.refl _ _⟩
    subst hv
    go_simp
    refine hK _ ?_
    clear hK K
    refine lexX_step (fun K hK => ⟨by kernel_rfl, ⟨_, rfl⟩, fun v hv => ?_, fun v hv => ?_⟩)
    · go_simp
      exact mUpon_b
    subst hv
    go_simp
    refine hK _ ?_
    clear hK K
    refine lexX_step (fun K hK => ⟨by kernel_rfl, ⟨_, rfl⟩, fun v hv => ?_, fun v hv => ?_⟩)
    · go_simp
      exact mUpon_b
    subst hv
    go_simp
    refine hK _ ?_
    clear hK K
    refine lexX_end (fun v5 hv => ?_)
    have hq := ((unhideR HM).keep hv.low).cell 9 (by decide)
    have q1 : v5.cell? ⟨g, 9, none⟩ = some (.int .i64 n.Y) := hq.1
    have q2 := hq.2
    replace HM := hideR (((unhideR HM).keep hv.low).Y R2)
    replace HK := hideR (((unhideR HK).go hv.low).put 9 (.int .i64 R2))
    clear hv hq hto
    refine wpAny_step (i := 17) (by kernel_rfl) rfl (by kernel_rfl) (fun K hK => ?_)
    unfold Oper.wp
    go_simp
    refine hK _ _ ?_
    clear hK K
    refine wpAny_end (by kernel_rfl) ?_
    clear q1 q2
    generalize v5.setCell ⟨g, 9, none⟩ (.int .i64 R2) = W4 at *
    go_wp2_with fail
    by_cases r1 : R1 = n.P
    · have b1 : (R1 == n.P) = true := by simp [r1]
      by_cases r2 : R2 = n.Q
      · have b2 : (R2 == n.Q) = true := by simp [r2]
        have c8 : W4.cell? ⟨g, 8, none⟩ = some (.int .i64 R1) := ((unhideR HM).cell 8 (by decide)).1
        have c9 : W4.cell? ⟨g, 9, none⟩ = some (.int .i64 R2) := ((unhideR HM).cell 9 (by decide)).1
        have c10 : W4.cell? ⟨g, 10, none⟩ = some (.int .i64 n.P) := ((unhideR HM).cell 10 (by decide)).1
        have c11 : W4.cell? ⟨g, 11, none⟩ = some (.int .i64 n.Q) := ((unhideR HM).cell 11 (by decide)).1
        have HKm : HeldR ({ n with X := R1, Y := R2, st := 0 } = moveV n) := by
          unfold HeldR
          rw [unhideR HMv, if_pos ⟨r1, r2⟩]
        clear r1 r2 HMv
        refine wp_region_lets [(· = .pointer (some ⟨g, 0, none⟩)),
          (· = .pointer (some ⟨g, 0, none⟩)),
          (· = .pointer (some ⟨g, 8, none⟩)),
          (· = .int .i64 R1),
          (· = .pointer (some ⟨g, 0, none⟩)),
          (· = .pointer (some ⟨g, 0, none⟩)),
          (· = .pointer (some ⟨g, 10, none⟩)),
          (· = .int .i64 n.P),
          (· = .bool true),
          (· = .bool true),
          (· = .pointer (some ⟨g, 0, none⟩)),
          (· = .pointer (some ⟨g, 0, none⟩)),
          (· = .pointer (some ⟨g, 9, none⟩)),
          (· = .int .i64 R2),
          (· = .pointer (some ⟨g, 0, none⟩)),
          (· = .pointer (some ⟨g, 0, none⟩)),
          (· = .pointer (some ⟨g, 11, none⟩)),
          (· = .int .i64 n.Q),
          (· = .bool true),
          (· = .bool true)] (by kernel_rfl) (by kernel_rfl) ?_
        refine lexL_step (fun K hK => ⟨by kernel_rfl, ⟨_, rfl⟩, fun n => ?_, fun v hv => ?_⟩)
        · go_simp
          exact lUpon_one
        subst hv
        go_simp
        refine hK _ ?_
        clear hK K
        refine lexL_step (fun K hK => ⟨by kernel_rfl, ⟨_, rfl⟩, fun n => ?_, fun v hv => ?_⟩)
        · go_simp
          exact lUpon_one
        subst hv
        go_simp
        refine hK _ ?_
        clear hK K
        refine lexL_step (fun K hK => ⟨by kernel_rfl, ⟨_, rfl⟩, fun n => ?_, fun v hv => ?_⟩)
        · go_simp
          exact lUpon_one
        subst hv
        go_simp
        refine hK _ ?_
        clear hK K
        refine lexL_step (fun K hK => ⟨by kernel_rfl, ⟨_, rfl⟩, fun n => ?_, fun v hv => ?_⟩)
        · go_simp
          exact lUpon_one
        subst hv
        go_simp
        refine hK _ ?_
        clear hK K
        refine lexL_step (fun K hK => ⟨by kernel_rfl, ⟨_, rfl⟩, fun n => ?_, fun v hv => ?_⟩)
        · go_simp
          exact lUpon_one
        subst hv
        go_simp
        refine hK _ ?_
        clear hK K
        refine lexL_step (fun K hK => ⟨by kernel_rfl, ⟨_, rfl⟩, fun n => ?_, fun v hv => ?_⟩)
        · go_simp
          exact lUpon_one
        subst hv
        go_simp
        refine hK _ ?_
        clear hK K
        refine lexL_step (fun K hK => ⟨by kernel_rfl, ⟨_, rfl⟩, fun n => ?_, fun v hv => ?_⟩)
        · go_simp
          exact lUpon_one
        subst hv
        go_simp
        refine hK _ ?_
        clear hK K
        refine lexL_step (fun K hK => ⟨by kernel_rfl, ⟨_, rfl⟩, fun n => ?_, fun v hv => ?_⟩)
        · go_simp
          exact lUpon_one
        subst hv
        go_simp
        refine hK _ ?_
        clear hK K
        refine lexL_step (fun K hK => ⟨by kernel_rfl, ⟨_, rfl⟩, fun n => ?_, fun v hv => ?_⟩)
        · go_simp
          exact lUpon_one
        subst hv
        go_simp
        refine hK _ ?_
        clear hK K
        refine lexL_step (fun K hK => ⟨by kernel_rfl, ⟨_, rfl⟩, fun n => ?_, fun v hv => ?_⟩)
        · go_simp
          exact lUpon_one
        subst hv
        go_simp
        refine hK _ ?_
        clear hK K
        refine lexL_step (fun K hK => ⟨by kernel_rfl, ⟨_, rfl⟩, fun n => ?_, fun v hv => ?_⟩)
        · go_simp
          exact lUpon_one
        subst hv
        go_simp
        refine hK _ ?_
        clear hK K
        refine lexL_step (fun K hK => ⟨by kernel_rfl, ⟨_, rfl⟩, fun n => ?_, fun v hv => ?_⟩)
        · go_simp
          exact lUpon_one
        subst hv
        go_simp
        refine hK _ ?_
        clear hK K
        refine lexL_step (fun K hK => ⟨by kernel_rfl, ⟨_, rfl⟩, fun n => ?_, fun v hv => ?_⟩)
        · go_simp
          exact lUpon_one
        subst hv
        go_simp
        refine hK _ ?_
        clear hK K
        refine lexL_step (fun K hK => ⟨by kernel_rfl, ⟨_, rfl⟩, fun n => ?_, fun v hv => ?_⟩)
        · go_simp
          exact lUpon_one
        subst hv
        go_simp
        refine hK _ ?_
        clear hK K
        refine lexL_step (fun K hK => ⟨by kernel_rfl, ⟨_, rfl⟩, fun n => ?_, fun v hv => ?_⟩)
        · go_simp
          exact lUpon_one
        subst hv
        go_simp
        refine hK _ ?_
        clear hK K
        refine lexL_step (fun K hK => ⟨by kernel_rfl, ⟨_, rfl⟩, fun n => ?_, fun v hv => ?_⟩)
        · go_simp
          exact lUpon_one
        subst hv
        go_simp
        refine hK _ ?_
        clear hK K
        refine lexL_step (fun K hK => ⟨by kernel_rfl, ⟨_, rfl⟩, fun n => ?_, fun v hv => ?_⟩)
        · go_simp
          exact lUpon_one
        subst hv
        go_simp
        refine hK _ ?_
        clear hK K
        refine lexL_step (fun K hK => ⟨by kernel_rfl, ⟨_, rfl⟩, fun n => ?_, fun v hv => ?_⟩)
        · go_simp
          exact lUpon_one
        subst hv
        go_simp
        refine hK _ ?_
        clear hK K
        refine lexL_step (fun K hK => ⟨by kernel_rfl, ⟨_, rfl⟩, fun n => ?_, fun v hv => ?_⟩)
        · go_simp
          exact lUpon_one
        subst hv
        go_simp
        refine hK _ ?_
        clear hK K
        refine lexL_step (fun K hK => ⟨by kernel_rfl, ⟨_, rfl⟩, fun n => ?_, fun v hv => ?_⟩)
        · go_simp
          exact lUpon_one
        subst hv
        go_simp
        refine hK _ ?_
        clear hK K
        refine lexL_end ?_
        intro n9
        clear c8 c9 c10 c11
        replace HM := hideR ((unhideR HM).keep (drawn_below W4 n9))
        replace HK := hideR ((unhideR HK).go (drawn_below W4 n9))
        generalize W4.drewN n9 = W5 at *
        have d12 : W5.cell? ⟨g, 12, none⟩ = some (.int .i64 n.st) := ((unhideR HM).cell 12 (by decide)).1
        have e12 : W5.frozen? ⟨g, 12, none⟩ = false := ((unhideR HM).cell 12 (by decide)).2
        replace HM := hideR ((unhideR HM).st 0)
        replace HK := hideR ((unhideR HK).put 12 (.int .i64 0))
        have hfin := unhideR HFin _ (unhideR HKm) _ (unhideR HM) (unhideR HK)
        have c12 : (W5.setCell ⟨g, 12, none⟩ (.int .i64 0)).cell? ⟨g, 12, none⟩ = some (.int .i64 0) := ((unhideR HM).cell 12 (by decide)).1
        have f12 : (W5.setCell ⟨g, 12, none⟩ (.int .i64 0)).frozen? ⟨g, 12, none⟩ = false := ((unhideR HM).cell 12 (by decide)).2
        clear HFin HKm
        by_cases hl : n.pat ≤ n.quiet
        · have tl : decide (n.pat ≤ n.quiet) = true := decide_eq_true hl
          have HX := hideR (hfin.1 ⟨hl, by show (0 : Int) ≠ 4; decide⟩)
          clear hfin HM HK
          go_wp2
          all_goals
            simp [bodyPost, results, go_sem]
            exact unhideR HX
        · have tl : decide (n.pat ≤ n.quiet) = false := decide_eq_false hl
          have HX := hideR (hfin.2 (fun q => hl q.1))
          clear hfin HM HK
          go_wp2
          all_goals
            simp [bodyPost, results, go_sem]
            exact unhideR HX
      · have b2 : (R2 == n.Q) = false := by simp [r2]
        have c8 : W4.cell? ⟨g, 8, none⟩ = some (.int .i64 R1) := ((unhideR HM).cell 8 (by decide)).1
        have c9 : W4.cell? ⟨g, 9, none⟩ = some (.int .i64 R2) := ((unhideR HM).cell 9 (by decide)).1
        have c10 : W4.cell? ⟨g, 10, none⟩ = some (.int .i64 n.P) := ((unhideR HM).cell 10 (by decide)).1
        have c11 : W4.cell? ⟨g, 11, none⟩ = some (.int .i64 n.Q) := ((unhideR HM).cell 11 (by decide)).1
        refine wp_region_lets [(· = .pointer (some ⟨g, 0, none⟩)),
          (· = .pointer (some ⟨g, 0, none⟩)),
          (· = .pointer (some ⟨g, 8, none⟩)),
          (· = .int .i64 R1),
          (· = .pointer (some ⟨g, 0, none⟩)),
          (· = .pointer (some ⟨g, 0, none⟩)),
          (· = .pointer (some ⟨g, 10, none⟩)),
          (· = .int .i64 n.P),
          (· = .bool true),
          (· = .bool true),
          (· = .pointer (some ⟨g, 0, none⟩)),
          (· = .pointer (some ⟨g, 0, none⟩)),
          (· = .pointer (some ⟨g, 9, none⟩)),
          (· = .int .i64 R2),
          (· = .pointer (some ⟨g, 0, none⟩)),
          (· = .pointer (some ⟨g, 0, none⟩)),
          (· = .pointer (some ⟨g, 11, none⟩)),
          (· = .int .i64 n.Q),
          (· = .bool false),
          (· = .bool false)] (by kernel_rfl) (by kernel_rfl) ?_
        refine lexL_step (fun K hK => ⟨by kernel_rfl, ⟨_, rfl⟩, fun n => ?_, fun v hv => ?_⟩)
        · go_simp
          exact lUpon_one
        subst hv
        go_simp
        refine hK _ ?_
        clear hK K
        refine lexL_step (fun K hK => ⟨by kernel_rfl, ⟨_, rfl⟩, fun n => ?_, fun v hv => ?_⟩)
        · go_simp
          exact lUpon_one
        subst hv
        go_simp
        refine hK _ ?_
        clear hK K
        refine lexL_step (fun K hK => ⟨by kernel_rfl, ⟨_, rfl⟩, fun n => ?_, fun v hv => ?_⟩)
        · go_simp
          exact lUpon_one
        subst hv
        go_simp
        refine hK _ ?_
        clear hK K
        refine lexL_step (fun K hK => ⟨by kernel_rfl, ⟨_, rfl⟩, fun n => ?_, fun v hv => ?_⟩)
        · go_simp
          exact lUpon_one
        subst hv
        go_simp
        refine hK _ ?_
        clear hK K
        refine lexL_step (fun K hK => ⟨by kernel_rfl, ⟨_, rfl⟩, fun n => ?_, fun v hv => ?_⟩)
        · go_simp
          exact lUpon_one
        subst hv
        go_simp
        refine hK _ ?_
        clear hK K
        refine lexL_step (fun K hK => ⟨by kernel_rfl, ⟨_, rfl⟩, fun n => ?_, fun v hv => ?_⟩)
        · go_simp
          exact lUpon_one
        subst hv
        go_simp
        refine hK _ ?_
        clear hK K
        refine lexL_step (fun K hK => ⟨by kernel_rfl, ⟨_, rfl⟩, fun n => ?_, fun v hv => ?_⟩)
        · go_simp
          exact lUpon_one
        subst hv
        go_simp
        refine hK _ ?_
        clear hK K
        refine lexL_step (fun K hK => ⟨by kernel_rfl, ⟨_, rfl⟩, fun n => ?_, fun v hv => ?_⟩)
        · go_simp
          exact lUpon_one
        subst hv
        go_simp
        refine hK _ ?_
        clear hK K
        refine lexL_step (fun K hK => ⟨by kernel_rfl, ⟨_, rfl⟩, fun n => ?_, fun v hv => ?_⟩)
        · go_simp
          exact lUpon_one
        subst hv
        go_simp
        refine hK _ ?_
        clear hK K
        refine lexL_step (fun K hK => ⟨by kernel_rfl, ⟨_, rfl⟩, fun n => ?_, fun v hv => ?_⟩)
        · go_simp
          exact lUpon_one
        subst hv
        go_simp
        refine hK _ ?_
        clear hK K
        refine lexL_step (fun K hK => ⟨by kernel_rfl, ⟨_, rfl⟩, fun n => ?_, fun v hv => ?_⟩)
        · go_simp
          exact lUpon_one
        subst hv
        go_simp
        refine hK _ ?_
        clear hK K
        refine lexL_step (fun K hK => ⟨by kernel_rfl, ⟨_, rfl⟩, fun n => ?_, fun v hv => ?_⟩)
        · go_simp
          exact lUpon_one
        subst hv
        go_simp
        refine hK _ ?_
        clear hK K
        refine lexL_step (fun K hK => ⟨by kernel_rfl, ⟨_, rfl⟩, fun n => ?_, fun v hv => ?_⟩)
        · go_simp
          exact lUpon_one
        subst hv
        go_simp
        refine hK _ ?_
        clear hK K
        refine lexL_step (fun K hK => ⟨by kernel_rfl, ⟨_, rfl⟩, fun n => ?_, fun v hv => ?_⟩)
        · go_simp
          exact lUpon_one
        subst hv
        go_simp
        refine hK _ ?_
        clear hK K
        refine lexL_step (fun K hK => ⟨by kernel_rfl, ⟨_, rfl⟩, fun n => ?_, fun v hv => ?_⟩)
        · go_simp
          exact lUpon_one
        subst hv
        go_simp
        refine hK _ ?_
        clear hK K
        refine lexL_step (fun K hK => ⟨by kernel_rfl, ⟨_, rfl⟩, fun n => ?_, fun v hv => ?_⟩)
        · go_simp
          exact lUpon_one
        subst hv
        go_simp
        refine hK _ ?_
        clear hK K
        refine lexL_step (fun K hK => ⟨by kernel_rfl, ⟨_, rfl⟩, fun n => ?_, fun v hv => ?_⟩)
        · go_simp
          exact lUpon_one
        subst hv
        go_simp
        refine hK _ ?_
        clear hK K
        refine lexL_step (fun K hK => ⟨by kernel_rfl, ⟨_, rfl⟩, fun n => ?_, fun v hv => ?_⟩)
        · go_simp
          exact lUpon_one
        subst hv
        go_simp
        refine hK _ ?_
        clear hK K
        refine lexL_step (fun K hK => ⟨by kernel_rfl, ⟨_, rfl⟩, fun n => ?_, fun v hv => ?_⟩)
        · go_simp
          exact lUpon_one
        subst hv
        go_simp
        refine hK _ ?_
        clear hK K
        refine lexL_step (fun K hK => ⟨by kernel_rfl, ⟨_, rfl⟩, fun n => ?_, fun v hv => ?_⟩)
        · go_simp
          exact lUpon_one
        subst hv
        go_simp
        refine hK _ ?_
        clear hK K
        refine lexL_end ?_
        intro n9
        clear c8 c9 c10 c11
        replace HM := hideR ((unhideR HM).keep (drawn_below W4 n9))
        replace HK := hideR ((unhideR HK).go (drawn_below W4 n9))
        generalize W4.drewN n9 = W5 at *
        have HKm : HeldR ({ n with X := R1, Y := R2 } = moveV n) := by
          unfold HeldR
          rw [unhideR HMv, if_neg (fun q => r2 q.2), ← unhideR Hst]
        clear HMv
        have hfin := unhideR HFin _ (unhideR HKm) _ (unhideR HM) (unhideR HK)
        have c12 : W5.cell? ⟨g, 12, none⟩ = some (.int .i64 n.st) := ((unhideR HM).cell 12 (by decide)).1
        have f12 : W5.frozen? ⟨g, 12, none⟩ = false := ((unhideR HM).cell 12 (by decide)).2
        clear HFin HKm
        by_cases hl : n.pat ≤ n.quiet
        · have tl : decide (n.pat ≤ n.quiet) = true := decide_eq_true hl
          have HX := hideR (hfin.1 ⟨hl, by show n.st ≠ 4; have := unhideR Hst; omega⟩)
          have t4 : (n.st == 4) = false := by have := unhideR Hst; simp; omega
          clear hfin HM HK
          go_wp2
          all_goals
            simp [bodyPost, results, go_sem]
            exact unhideR HX
        · have tl : decide (n.pat ≤ n.quiet) = false := decide_eq_false hl
          have HX := hideR (hfin.2 (fun q => hl q.1))
          clear hfin HM HK
          go_wp2
          all_goals
            simp [bodyPost, results, go_sem]
            exact unhideR HX
    · have b1 : (R1 == n.P) = false := by simp [r1]
      have c8 : W4.cell? ⟨g, 8, none⟩ = some (.int .i64 R1) := ((unhideR HM).cell 8 (by decide)).1
      have c9 : W4.cell? ⟨g, 9, none⟩ = some (.int .i64 R2) := ((unhideR HM).cell 9 (by decide)).1
      have c10 : W4.cell? ⟨g, 10, none⟩ = some (.int .i64 n.P) := ((unhideR HM).cell 10 (by decide)).1
      have c11 : W4.cell? ⟨g, 11, none⟩ = some (.int .i64 n.Q) := ((unhideR HM).cell 11 (by decide)).1
      refine wp_region_lets [(· = .pointer (some ⟨g, 0, none⟩)),
        (· = .pointer (some ⟨g, 0, none⟩)),
        (· = .pointer (some ⟨g, 8, none⟩)),
        (· = .int .i64 R1),
        (· = .pointer (some ⟨g, 0, none⟩)),
        (· = .pointer (some ⟨g, 0, none⟩)),
        (· = .pointer (some ⟨g, 10, none⟩)),
        (· = .int .i64 n.P),
        (· = .bool false),
        (· = .bool false),
        (· = undef),
        (· = undef),
        (· = undef),
        (· = undef),
        (· = undef),
        (· = undef),
        (· = undef),
        (· = undef),
        (· = undef),
        (· = .bool false)] (by kernel_rfl) (by kernel_rfl) ?_
      refine lexL_step (fun K hK => ⟨by kernel_rfl, ⟨_, rfl⟩, fun n => ?_, fun v hv => ?_⟩)
      · go_simp
        exact lUpon_one
      subst hv
      go_simp
      refine hK _ ?_
      clear hK K
      refine lexL_step (fun K hK => ⟨by kernel_rfl, ⟨_, rfl⟩, fun n => ?_, fun v hv => ?_⟩)
      · go_simp
        exact lUpon_one
      subst hv
      go_simp
      refine hK _ ?_
      clear hK K
      refine lexL_step (fun K hK => ⟨by kernel_rfl, ⟨_, rfl⟩, fun n => ?_, fun v hv => ?_⟩)
      · go_simp
        exact lUpon_one
      subst hv
      go_simp
      refine hK _ ?_
      clear hK K
      refine lexL_step (fun K hK => ⟨by kernel_rfl, ⟨_, rfl⟩, fun n => ?_, fun v hv => ?_⟩)
      · go_simp
        exact lUpon_one
      subst hv
      go_simp
      refine hK _ ?_
      clear hK K
      refine lexL_step (fun K hK => ⟨by kernel_rfl, ⟨_, rfl⟩, fun n => ?_, fun v hv => ?_⟩)
      · go_simp
        exact lUpon_one
      subst hv
      go_simp
      refine hK _ ?_
      clear hK K
      refine lexL_step (fun K hK => ⟨by kernel_rfl, ⟨_, rfl⟩, fun n => ?_, fun v hv => ?_⟩)
      · go_simp
        exact lUpon_one
      subst hv
      go_simp
      refine hK _ ?_
      clear hK K
      refine lexL_step (fun K hK => ⟨by kernel_rfl, ⟨_, rfl⟩, fun n => ?_, fun v hv => ?_⟩)
      · go_simp
        exact lUpon_one
      subst hv
      go_simp
      refine hK _ ?_
      clear hK K
      refine lexL_step (fun K hK => ⟨by kernel_rfl, ⟨_, rfl⟩, fun n => ?_, fun v hv => ?_⟩)
      · go_simp
        exact lUpon_one
      subst hv
      go_simp
      refine hK _ ?_
      clear hK K
      refine lexL_step (fun K hK => ⟨by kernel_rfl, ⟨_, rfl⟩, fun n => ?_, fun v hv => ?_⟩)
      · go_simp
        exact lUpon_one
      subst hv
      go_simp
      refine hK _ ?_
      clear hK K
      refine lexL_step (fun K hK => ⟨by kernel_rfl, ⟨_, rfl⟩, fun n => ?_, fun v hv => ?_⟩)
      · go_simp
        exact lUpon_one
      subst hv
      go_simp
      refine hK _ ?_
      clear hK K
      refine lexL_skip (fun K hK => ⟨by kernel_rfl, ?_⟩)
      go_simp
      refine hK _ ?_
      clear hK K
      refine lexL_skip (fun K hK => ⟨by kernel_rfl, ?_⟩)
      go_simp
      refine hK _ ?_
      clear hK K
      refine lexL_skip (fun K hK => ⟨by kernel_rfl, ?_⟩)
      go_simp
      refine hK _ ?_
      clear hK K
      refine lexL_skip (fun K hK => ⟨by kernel_rfl, ?_⟩)
      go_simp
      refine hK _ ?_
      clear hK K
      refine lexL_skip (fun K hK => ⟨by kernel_rfl, ?_⟩)
      go_simp
      refine hK _ ?_
      clear hK K
      refine lexL_skip (fun K hK => ⟨by kernel_rfl, ?_⟩)
      go_simp
      refine hK _ ?_
      clear hK K
      refine lexL_skip (fun K hK => ⟨by kernel_rfl, ?_⟩)
      go_simp
      refine hK _ ?_
      clear hK K
      refine lexL_skip (fun K hK => ⟨by kernel_rfl, ?_⟩)
      go_simp
      refine hK _ ?_
      clear hK K
      refine lexL_skip (fun K hK => ⟨by kernel_rfl, ?_⟩)
      go_simp
      refine hK _ ?_
      clear hK K
      refine lexL_step (fun K hK => ⟨by kernel_rfl, ⟨_, rfl⟩, fun n => ?_, fun v hv => ?_⟩)
      · go_simp
        exact lUpon_one
      subst hv
      go_simp
      refine hK _ ?_
      clear hK K
      refine lexL_end ?_
      intro n9
      clear c8 c9 c10 c11
      replace HM := hideR ((unhideR HM).keep (drawn_below W4 n9))
      replace HK := hideR ((unhideR HK).go (drawn_below W4 n9))
      generalize W4.drewN n9 = W5 at *
      have HKm : HeldR ({ n with X := R1, Y := R2 } = moveV n) := by
        unfold HeldR
        rw [unhideR HMv, if_neg (fun q => r1 q.1), ← unhideR Hst]
      clear HMv
      have hfin := unhideR HFin _ (unhideR HKm) _ (unhideR HM) (unhideR HK)
      have c12 : W5.cell? ⟨g, 12, none⟩ = some (.int .i64 n.st) := ((unhideR HM).cell 12 (by decide)).1
      have f12 : W5.frozen? ⟨g, 12, none⟩ = false := ((unhideR HM).cell 12 (by decide)).2
      clear HFin HKm
      by_cases hl : n.pat ≤ n.quiet
      · have tl : decide (n.pat ≤ n.quiet) = true := decide_eq_true hl
        have HX := hideR (hfin.1 ⟨hl, by show n.st ≠ 4; have := unhideR Hst; omega⟩)
        have t4 : (n.st == 4) = false := by have := unhideR Hst; simp; omega
        clear hfin HM HK
        go_wp2
        all_goals
          simp [bodyPost, results, go_sem]
          exact unhideR HX
      · have tl : decide (n.pat ≤ n.quiet) = false := decide_eq_false hl
        have HX := hideR (hfin.2 (fun q => hl q.1))
        clear hfin HM HK
        go_wp2
        all_goals
          simp [bodyPost, results, go_sem]
          exact unhideR HX
  by_cases s3 : n.st = 3
  · have t1 : (n.st == 1) = false := by simp [s1]
    have t3 : (n.st == 3) = true := by simp [s3]
    have HMv : HeldR (moveV n = { n with X := towards n.X n.A.home n.A.fast, Y := towards n.Y n.B.home n.B.fast, st := if towards n.X n.A.home n.A.fast = n.A.home ∧ towards n.Y n.B.home n.B.fast = n.B.home then 4 else 3 }) := by
      unfold HeldR
      show (if n.st = 1 then _ else if n.st = 3 then _ else _) = _
      rw [if_neg s1, if_pos s3]
    have Hst := hideR s3
    clear s1 s3 h1' h2'
    go_wp2_with fail
    clear c12
    have hto := fun u => towards_any n.X n.A.home n.A.fast u (by omega) (by omega) (by omega) (by omega) (by omega) (by omega)
    generalize towards n.X n.A.home n.A.fast = R1 at *
    refine wp_region_made 0 #[true, true, true, true, true, true, true, true, true, true, true, true, true, true, true, true, true, true, false] [.lets (· = .pointer (some ⟨g, 0, none⟩)),
      .lets (· = .pointer (some ⟨g, 0, none⟩)),
      .lets (· = .pointer (some ⟨g, 0, none⟩)),
      .lets (· = .pointer (some ⟨g, 8, none⟩)),
      .lets (· = .int .i64 n.X),
      .lets (· = .pointer (some ⟨g, 0, none⟩)),
      .lets (· = .pointer (some ⟨g, 0, none⟩)),
      .lets (· = .pointer (some ⟨g, 0, none⟩)),
      .lets (· = .pointer (some ⟨g, 3, none⟩)),
      .lets (· = .int .i64 n.A.home),
      .lets (· = .pointer (some ⟨g, 0, none⟩)),
      .lets (· = .pointer (some ⟨g, 0, none⟩)),
      .lets (· = .pointer (some ⟨g, 0, none⟩)),
      .lets (· = .pointer (some ⟨g, 2, none⟩)),
      .lets (· = .int .i64 n.A.fast),
      .lets (· = .int .i64 R1),
      .lets (· = .pointer (some ⟨g, 0, none⟩)),
      .lets (· = .pointer (some ⟨g, 8, none⟩))] [] [] (by kernel_rfl) (by kernel_rfl) rfl ?kinds (by kernel_rfl) (by kernel_rfl) (by kernel_rfl) ?_
    case kinds =>
      constructor
      · intro i h
        rcases i with _ | _ | _ | _ | _ | _ | _ | _ | _ | _ | _ | _ | _ | _ | _ | _ | _ | _ | i <;> simp [Kx.isMade] at h
      · intro i h
        rcases i with _ | _ | _ | _ | _ | _ | _ | _ | _ | _ | _ | _ | _ | _ | _ | _ | _ | _ | i <;> simp [Kx.isUse] at h
    refine lexX_step (fun K hK => ⟨by kernel_rfl, ⟨_, rfl⟩, fun v hv => ?_, fun v hv => ?_⟩)
    · go_simp
      exact mUpon_b
    subst hv
    go_simp
    refine hK _ ?_
    clear hK K
    refine lexX_step (fun K hK => ⟨by kernel_rfl, ⟨_, rfl⟩, fun v hv => ?_, fun v hv => ?_⟩)
    · go_simp
      exact mUpon_b
    subst hv
    go_simp
    refine hK _ ?_
    clear hK K
    refine lexX_step (fun K hK => ⟨by kernel_rfl, ⟨_, rfl⟩, fun v hv => ?_, fun v hv => ?_⟩)
    · go_simp
      exact mUpon_b
    subst hv
    go_simp
    refine hK _ ?_
    clear hK K
    refine lexX_step (fun K hK => ⟨by kernel_rfl, ⟨_, rfl⟩, fun v hv => ?_, fun v hv => ?_⟩)
    · go_simp
      exact mUpon_b
    subst hv
    go_simp
    refine hK _ ?_
    clear hK K
    refine lexX_step (fun K hK => ⟨by kernel_rfl, ⟨_, rfl⟩, fun v hv => ?_, fun v hv => ?_⟩)
    · have c := (((unhideR HM).keep hv).cell 8 (by decide)).1
      replace c : v.cell? ⟨g, 8, none⟩ = some (.int .i64 n.X) := c
      go_simp
      exact mUpon_b
    subst hv
    go_simp
    refine hK _ ?_
    clear hK K
    refine lexX_step (fun K hK => ⟨by kernel_rfl, ⟨_, rfl⟩, fun v hv => ?_, fun v hv => ?_⟩)
    · go_simp
      exact mUpon_b
    subst hv
    go_simp
    refine hK _ ?_
    clear hK K
    refine lexX_step (fun K hK => ⟨by kernel_rfl, ⟨_, rfl⟩, fun v hv => ?_, fun v hv => ?_⟩)
    · go_simp
      exact mUpon_b
    subst hv
    go_simp
    refine hK _ ?_
    clear hK K
    refine lexX_step (fun K hK => ⟨by kernel_rfl, ⟨_, rfl⟩, fun v hv => ?_, fun v hv => ?_⟩)
    · go_simp
      exact mUpon_b
    subst hv
    go_simp
    refine hK _ ?_
    clear hK K
    refine lexX_step (fun K hK => ⟨by kernel_rfl, ⟨_, rfl⟩, fun v hv => ?_, fun v hv => ?_⟩)
    · go_simp
      exact mUpon_b
    subst hv
    go_simp
    refine hK _ ?_
    clear hK K
    refine lexX_step (fun K hK => ⟨by kernel_rfl, ⟨_, rfl⟩, fun v hv => ?_, fun v hv => ?_⟩)
    · have c := (((unhideR HM).keep hv).cell 3 (by decide)).1
      replace c : v.cell? ⟨g, 3, none⟩ = some (.int .i64 n.A.home) := c
      go_simp
      exact mUpon_b
    subst hv
    go_simp
    refine hK _ ?_
    clear hK K
    refine lexX_step (fun K hK => ⟨by kernel_rfl, ⟨_, rfl⟩, fun v hv => ?_, fun v hv => ?_⟩)
    · go_simp
      exact mUpon_b
    subst hv
    go_simp
    refine hK _ ?_
    clear hK K
    refine lexX_step (fun K hK => ⟨by kernel_rfl, ⟨_, rfl⟩, fun v hv => ?_, fun v hv => ?_⟩)
    · go_simp
      exact mUpon_b
    subst hv
    go_simp
    refine hK _ ?_
    clear hK K
    refine lexX_step (fun K hK => ⟨by kernel_rfl, ⟨_, rfl⟩, fun v hv => ?_, fun v hv => ?_⟩)
    · go_simp
      exact mUpon_b
    subst hv
    go_simp
    refine hK _ ?_
    clear hK K
    refine lexX_step (fun K hK => ⟨by kernel_rfl, ⟨_, rfl⟩, fun v hv => ?_, fun v hv => ?_⟩)
    · go_simp
      exact mUpon_b
    subst hv
    go_simp
    refine hK _ ?_
    clear hK K
    refine lexX_step (fun K hK => ⟨by kernel_rfl, ⟨_, rfl⟩, fun v hv => ?_, fun v hv => ?_⟩)
    · have c := (((unhideR HM).keep hv).cell 2 (by decide)).1
      replace c : v.cell? ⟨g, 2, none⟩ = some (.int .i64 n.A.fast) := c
      go_simp
      exact mUpon_b
    subst hv
    go_simp
    refine hK _ ?_
    clear hK K
    refine lexX_step (fun K hK => ⟨by kernel_rfl, ⟨_, rfl⟩, fun v hv => ?_, fun v hv => ?_⟩)
    · go_simp
      refine (hto _).mono ?_
      rintro e w9 ⟨rfl, rfl⟩
      exact ⟨_, rfl, rfl, Below.refl _ _⟩
    subst hv
    go_simp
    refine hK _ ?_
    clear hK K
    refine lexX_step (fun K hK => ⟨by kernel_rfl, ⟨_, rfl⟩, fun v hv => ?_, fun v hv => ?_⟩)
    · go_simp
      exact mUpon_b
    subst hv
    go_simp
    refine hK _ ?_
    clear hK K
    refine lexX_step (fun K hK => ⟨by kernel_rfl, ⟨_, rfl⟩, fun v hv => ?_, fun v hv => ?_⟩)
    · go_simp
      exact mUpon_b
    subst hv
    go_simp
    refine hK _ ?_
    clear hK K
    refine lexX_end (fun v5 hv => ?_)
    have hq := ((unhideR HM).keep hv.low).cell 8 (by decide)
    have q1 : v5.cell? ⟨g, 8, none⟩ = some (.int .i64 n.X) := hq.1
    have q2 := hq.2
    replace HM := hideR (((unhideR HM).keep hv.low).X R1)
    replace HK := hideR (((unhideR HK).go hv.low).put 8 (.int .i64 R1))
    clear hv hq hto
    refine wpAny_step (i := 18) (by kernel_rfl) rfl (by kernel_rfl) (fun K hK => ?_)
    unfold Oper.wp
    go_simp
    refine hK _ _ ?_
    clear hK K
    refine wpAny_end (by kernel_rfl) ?_
    clear q1 q2
    generalize v5.setCell ⟨g, 8, none⟩ (.int .i64 R1) = W3 at *
    go_wp2_with fail
    have hto := fun u => towards_any n.Y n.B.home n.B.fast u (by omega) (by omega) (by omega) (by omega) (by omega) (by omega)
    generalize towards n.Y n.B.home n.B.fast = R2 at *
    refine wp_region_made 0 #[true, true, true, true, true, true, true, true, true, true, true, true, true, true, true, true, true, true, false] [.lets (· = .pointer (some ⟨g, 0, none⟩)),
      .lets (· = .pointer (some ⟨g, 0, none⟩)),
      .lets (· = .pointer (some ⟨g, 0, none⟩)),
      .lets (· = .pointer (some ⟨g, 9, none⟩)),
      .lets (· = .int .i64 n.Y),
      .lets (· = .pointer (some ⟨g, 0, none⟩)),
      .lets (· = .pointer (some ⟨g, 0, none⟩)),
      .lets (· = .pointer (some ⟨g, 4, none⟩)),
      .lets (· = .pointer (some ⟨g, 7, none⟩)),
      .lets (· = .int .i64 n.B.home),
      .lets (· = .pointer (some ⟨g, 0, none⟩)),
      .lets (· = .pointer (some ⟨g, 0, none⟩)),
      .lets (· = .pointer (some ⟨g, 4, none⟩)),
      .lets (· = .pointer (some ⟨g, 6, none⟩)),
      .lets (· = .int .i64 n.B.fast),
      .lets (· = .int .i64 R2),
      .lets (· = .pointer (some ⟨g, 0, none⟩)),
      .lets (· = .pointer (some ⟨g, 9, none⟩))] [] [] (by kernel_rfl) (by kernel_rfl) rfl ?kinds (by kernel_rfl) (by kernel_rfl) (by kernel_rfl) ?_
    case kinds =>
      constructor
      · intro i h
        rcases i with _ | _ | _ | _ | _ | _ | _ | _ | _ | _ | _ | _ | _ | _ | _ | _ | _ | _ | i <;> simp [Kx.isMade] at h
      · intro i h
        rcases i with _ | _ | _ | _ | _ | _ | _ | _ | _ | _ | _ | _ | _ | _ | _ | _ | _ | _ | i <;> simp [Kx.isUse] at h
    refine lexX_step (fun K hK => ⟨by kernel_rfl, ⟨_, rfl⟩, fun v hv => ?_, fun v hv => ?_⟩)
    · go_simp
      exact mUpon_b
    subst hv
    go_simp
    refine hK _ ?_
    clear hK K
    refine lexX_step (fun K hK => ⟨by kernel_rfl, ⟨_, rfl⟩, fun v hv => ?_, fun v hv => ?_⟩)
    · go_simp
      exact mUpon_b
    subst hv
    go_simp
    refine hK _ ?_
    clear hK K
    refine lexX_step (fun K hK => ⟨by kernel_rfl, ⟨_, rfl⟩, fun v hv => ?_, fun v hv => ?_⟩)
    · go_simp
      exact mUpon_b
    subst hv
    go_simp
    refine hK _ ?_
    clear hK K
    refine lexX_step (fun K hK => ⟨by kernel_rfl, ⟨_, rfl⟩, fun v hv => ?_, fun v hv => ?_⟩)
    · go_simp
      exact mUpon_b
    subst hv
    go_simp
    refine hK _ ?_
    clear hK K
    refine lexX_step (fun K hK => ⟨by kernel_rfl, ⟨_, rfl⟩, fun v hv => ?_, fun v hv => ?_⟩)
    · have c := (((unhideR HM).keep hv).cell 9 (by decide)).1
      replace c : v.cell? ⟨g, 9, none⟩ = some (.int .i64 n.Y) := c
      go_simp
      exact mUpon_b
    subst hv
    go_simp
    refine hK _ ?_
    clear hK K
    refine lexX_step (fun K hK => ⟨by kernel_rfl, ⟨_, rfl⟩, fun v hv => ?_, fun v hv => ?_⟩)
    · go_simp
      exact mUpon_b
    subst hv
    go_simp
    refine hK _ ?_
    clear hK K
    refine lexX_step (fun K hK => ⟨by kernel_rfl, ⟨_, rfl⟩, fun v hv => ?_, fun v hv => ?_⟩)
    · go_simp
      exact mUpon_b
    subst hv
    go_simp
    refine hK _ ?_
    clear hK K
    refine lexX_step (fun K hK => ⟨by kernel_rfl, ⟨_, rfl⟩, fun v hv => ?_, fun v hv => ?_⟩)
    · go_simp
      exact mUpon_b
    subst hv
    go_simp
    refine hK _ ?_
    clear hK K
    refine lexX_step (fun K hK => ⟨by kernel_rfl, ⟨_, rfl⟩, fun v hv => ?_, fun v hv => ?_⟩)
    · go_simp
      exact mUpon_b
    subst hv
    go_simp
    refine hK _ ?_
    clear hK K
    refine lexX_step (fun K hK => ⟨by kernel_rfl, ⟨_, rfl⟩, fun v hv => ?_, fun v hv => ?_⟩)
    · have c := (((unhideR HM).keep hv).cell 7 (by decide)).1
      replace c : v.cell? ⟨g, 7, none⟩ = some (.int .i64 n.B.home) := c
      go_simp
      exact mUpon_b
    subst hv
    go_simp
    refine hK _ ?_
    clear hK K
    refine lexX_step (fun K hK => ⟨by kernel_rfl, ⟨_, rfl⟩, fun v hv => ?_, fun v hv => ?_⟩)
    · go_simp
      exact mUpon_b
    subst hv
    go_simp
    refine hK _ ?_
    clear hK K
    refine lexX_step (fun K hK => ⟨by kernel_rfl, ⟨_, rfl⟩, fun v hv => ?_, fun v hv => ?_⟩)
    · go_simp
      exact mUpon_b
    subst hv
    go_simp
    refine hK _ ?_
    clear hK K
    refine lexX_step (fun K hK => ⟨by kernel_rfl, ⟨_, rfl⟩, fun v hv => ?_, fun v hv => ?_⟩)
    · go_simp
      exact mUpon_b
    subst hv
    go_simp
    refine hK _ ?_
    clear hK K
    refine lexX_step (fun K hK => ⟨by kernel_rfl, ⟨_, rfl⟩, fun v hv => ?_, fun v hv => ?_⟩)
    · go_simp
      exact mUpon_b
    subst hv
    go_simp
    refine hK _ ?_
    clear hK K
    refine lexX_step (fun K hK => ⟨by kernel_rfl, ⟨_, rfl⟩, fun v hv => ?_, fun v hv => ?_⟩)
    · have c := (((unhideR HM).keep hv).cell 6 (by decide)).1
      replace c : v.cell? ⟨g, 6, none⟩ = some (.int .i64 n.B.fast) := c
      go_simp
      exact mUpon_b
    subst hv
    go_simp
    refine hK _ ?_
    clear hK K
    refine lexX_step (fun K hK => ⟨by kernel_rfl, ⟨_, rfl⟩, fun v hv => ?_, fun v hv => ?_⟩)
    · go_simp
      refine (hto _).mono ?_
      rintro e w9 ⟨rfl, rfl⟩
      exact ⟨_, rfl, rfl, Below.refl _ _⟩
    subst hv
    go_simp
    refine hK _ ?_
    clear hK K
    refine lexX_step (fun K hK => ⟨by kernel_rfl, ⟨_, rfl⟩, fun v hv => ?_, fun v hv => ?_⟩)
    · go_simp
      exact mUpon_b
    subst hv
    go_simp
    refine hK _ ?_
    clear hK K
    refine lexX_step (fun K hK => ⟨by kernel_rfl, ⟨_, rfl⟩, fun v hv => ?_, fun v hv => ?_⟩)
    · go_simp
      exact mUpon_b
    subst hv
    go_simp
    refine hK _ ?_
    clear hK K
    refine lexX_end (fun v5 hv => ?_)
    have hq := ((unhideR HM).keep hv.low).cell 9 (by decide)
    have q1 : v5.cell? ⟨g, 9, none⟩ = some (.int .i64 n.Y) := hq.1
    have q2 := hq.2
    replace HM := hideR (((unhideR HM).keep hv.low).Y R2)
    replace HK := hideR (((unhideR HK).go hv.low).put 9 (.int .i64 R2))
    clear hv hq hto
    refine wpAny_step (i := 18) (by kernel_rfl) rfl (by kernel_rfl) (fun K hK => ?_)
    unfold Oper.wp
    go_simp
    refine hK _ _ ?_
    clear hK K
    refine wpAny_end (by kernel_rfl) ?_
    clear q1 q2
    generalize v5.setCell ⟨g, 9, none⟩ (.int .i64 R2) = W4 at *
    go_wp2_with fail
    by_cases r1 : R1 = n.A.home
    · have b1 : (R1 == n.A.home) = true := by simp [r1]
      by_cases r2 : R2 = n.B.home
      · have b2 : (R2 == n.B.home) = true := by simp [r2]
        have c8 : W4.cell? ⟨g, 8, none⟩ = some (.int .i64 R1) := ((unhideR HM).cell 8 (by decide)).1
        have c9 : W4.cell? ⟨g, 9, none⟩ = some (.int .i64 R2) := ((unhideR HM).cell 9 (by decide)).1
        have c3 : W4.cell? ⟨g, 3, none⟩ = some (.int .i64 n.A.home) := ((unhideR HM).cell 3 (by decide)).1
        have c7 : W4.cell? ⟨g, 7, none⟩ = some (.int .i64 n.B.home) := ((unhideR HM).cell 7 (by decide)).1
        have HKm : HeldR ({ n with X := R1, Y := R2, st := 4 } = moveV n) := by
          unfold HeldR
          rw [unhideR HMv, if_pos ⟨r1, r2⟩]
        clear r1 r2 HMv
        refine wp_region_lets [(· = .pointer (some ⟨g, 0, none⟩)),
          (· = .pointer (some ⟨g, 0, none⟩)),
          (· = .pointer (some ⟨g, 8, none⟩)),
          (· = .int .i64 R1),
          (· = .pointer (some ⟨g, 0, none⟩)),
          (· = .pointer (some ⟨g, 0, none⟩)),
          (· = .pointer (some ⟨g, 0, none⟩)),
          (· = .pointer (some ⟨g, 3, none⟩)),
          (· = .int .i64 n.A.home),
          (· = .bool true),
          (· = .bool true),
          (· = .pointer (some ⟨g, 0, none⟩)),
          (· = .pointer (some ⟨g, 0, none⟩)),
          (· = .pointer (some ⟨g, 9, none⟩)),
          (· = .int .i64 R2),
          (· = .pointer (some ⟨g, 0, none⟩)),
          (· = .pointer (some ⟨g, 0, none⟩)),
          (· = .pointer (some ⟨g, 4, none⟩)),
          (· = .pointer (some ⟨g, 7, none⟩)),
          (· = .int .i64 n.B.home),
          (· = .bool true),
          (· = .bool true)] (by kernel_rfl) (by kernel_rfl) ?_
        refine lexL_step (fun K hK => ⟨by kernel_rfl, ⟨_, rfl⟩, fun n => ?_, fun v hv => ?_⟩)
        · go_simp
          exact lUpon_one
        subst hv
        go_simp
        refine hK _ ?_
        clear hK K
        refine lexL_step (fun K hK => ⟨by kernel_rfl, ⟨_, rfl⟩, fun n => ?_, fun v hv => ?_⟩)
        · go_simp
          exact lUpon_one
        subst hv
        go_simp
        refine hK _ ?_
        clear hK K
        refine lexL_step (fun K hK => ⟨by kernel_rfl, ⟨_, rfl⟩, fun n => ?_, fun v hv => ?_⟩)
        · go_simp
          exact lUpon_one
        subst hv
        go_simp
        refine hK _ ?_
        clear hK K
        refine lexL_step (fun K hK => ⟨by kernel_rfl, ⟨_, rfl⟩, fun n => ?_, fun v hv => ?_⟩)
        · go_simp
          exact lUpon_one
        subst hv
        go_simp
        refine hK _ ?_
        clear hK K
        refine lexL_step (fun K hK => ⟨by kernel_rfl, ⟨_, rfl⟩, fun n => ?_, fun v hv => ?_⟩)
        · go_simp
          exact lUpon_one
        subst hv
        go_simp
        refine hK _ ?_
        clear hK K
        refine lexL_step (fun K hK => ⟨by kernel_rfl, ⟨_, rfl⟩, fun n => ?_, fun v hv => ?_⟩)
        · go_simp
          exact lUpon_one
        subst hv
        go_simp
        refine hK _ ?_
        clear hK K
        refine lexL_step (fun K hK => ⟨by kernel_rfl, ⟨_, rfl⟩, fun n => ?_, fun v hv => ?_⟩)
        · go_simp
          exact lUpon_one
        subst hv
        go_simp
        refine hK _ ?_
        clear hK K
        refine lexL_step (fun K hK => ⟨by kernel_rfl, ⟨_, rfl⟩, fun n => ?_, fun v hv => ?_⟩)
        · go_simp
          exact lUpon_one
        subst hv
        go_simp
        refine hK _ ?_
        clear hK K
        refine lexL_step (fun K hK => ⟨by kernel_rfl, ⟨_, rfl⟩, fun n => ?_, fun v hv => ?_⟩)
        · go_simp
          exact lUpon_one
        subst hv
        go_simp
        refine hK _ ?_
        clear hK K
        refine lexL_step (fun K hK => ⟨by kernel_rfl, ⟨_, rfl⟩, fun n => ?_, fun v hv => ?_⟩)
        · go_simp
          exact lUpon_one
        subst hv
        go_simp
        refine hK _ ?_
        clear hK K
        refine lexL_step (fun K hK => ⟨by kernel_rfl, ⟨_, rfl⟩, fun n => ?_, fun v hv => ?_⟩)
        · go_simp
          exact lUpon_one
        subst hv
        go_simp
        refine hK _ ?_
        clear hK K
        refine lexL_step (fun K hK => ⟨by kernel_rfl, ⟨_, rfl⟩, fun n => ?_, fun v hv => ?_⟩)
        · go_simp
          exact lUpon_one
        subst hv
        go_simp
        refine hK _ ?_
        clear hK K
        refine lexL_step (fun K hK => ⟨by kernel_rfl, ⟨_, rfl⟩, fun n => ?_, fun v hv => ?_⟩)
        · go_simp
          exact lUpon_one
        subst hv
        go_simp
        refine hK _ ?_
        clear hK K
        refine lexL_step (fun K hK => ⟨by kernel_rfl, ⟨_, rfl⟩, fun n => ?_, fun v hv => ?_⟩)
        · go_simp
          exact lUpon_one
        subst hv
        go_simp
        refine hK _ ?_
        clear hK K
        refine lexL_step (fun K hK => ⟨by kernel_rfl, ⟨_, rfl⟩, fun n => ?_, fun v hv => ?_⟩)
        · go_simp
          exact lUpon_one
        subst hv
        go_simp
        refine hK _ ?_
        clear hK K
        refine lexL_step (fun K hK => ⟨by kernel_rfl, ⟨_, rfl⟩, fun n => ?_, fun v hv => ?_⟩)
        · go_simp
          exact lUpon_one
        subst hv
        go_simp
        refine hK _ ?_
        clear hK K
        refine lexL_step (fun K hK => ⟨by kernel_rfl, ⟨_, rfl⟩, fun n => ?_, fun v hv => ?_⟩)
        · go_simp
          exact lUpon_one
        subst hv
        go_simp
        refine hK _ ?_
        clear hK K
        refine lexL_step (fun K hK => ⟨by kernel_rfl, ⟨_, rfl⟩, fun n => ?_, fun v hv => ?_⟩)
        · go_simp
          exact lUpon_one
        subst hv
        go_simp
        refine hK _ ?_
        clear hK K
        refine lexL_step (fun K hK => ⟨by kernel_rfl, ⟨_, rfl⟩, fun n => ?_, fun v hv => ?_⟩)
        · go_simp
          exact lUpon_one
        subst hv
        go_simp
        refine hK _ ?_
        clear hK K
        refine lexL_step (fun K hK => ⟨by kernel_rfl, ⟨_, rfl⟩, fun n => ?_, fun v hv => ?_⟩)
        · go_simp
          exact lUpon_one
        subst hv
        go_simp
        refine hK _ ?_
        clear hK K
        refine lexL_step (fun K hK => ⟨by kernel_rfl, ⟨_, rfl⟩, fun n => ?_, fun v hv => ?_⟩)
        · go_simp
          exact lUpon_one
        subst hv
        go_simp
        refine hK _ ?_
        clear hK K
        refine lexL_step (fun K hK => ⟨by kernel_rfl, ⟨_, rfl⟩, fun n => ?_, fun v hv => ?_⟩)
        · go_simp
          exact lUpon_one
        subst hv
        go_simp
        refine hK _ ?_
        clear hK K
        refine lexL_end ?_
        intro n9
        clear c8 c9 c3 c7
        replace HM := hideR ((unhideR HM).keep (drawn_below W4 n9))
        replace HK := hideR ((unhideR HK).go (drawn_below W4 n9))
        generalize W4.drewN n9 = W5 at *
        have d12 : W5.cell? ⟨g, 12, none⟩ = some (.int .i64 n.st) := ((unhideR HM).cell 12 (by decide)).1
        have e12 : W5.frozen? ⟨g, 12, none⟩ = false := ((unhideR HM).cell 12 (by decide)).2
        replace HM := hideR ((unhideR HM).st 4)
        replace HK := hideR ((unhideR HK).put 12 (.int .i64 4))
        have hfin := unhideR HFin _ (unhideR HKm) _ (unhideR HM) (unhideR HK)
        have c12 : (W5.setCell ⟨g, 12, none⟩ (.int .i64 4)).cell? ⟨g, 12, none⟩ = some (.int .i64 4) := ((unhideR HM).cell 12 (by decide)).1
        have f12 : (W5.setCell ⟨g, 12, none⟩ (.int .i64 4)).frozen? ⟨g, 12, none⟩ = false := ((unhideR HM).cell 12 (by decide)).2
        clear HFin HKm
        by_cases hl : n.pat ≤ n.quiet
        · have tl : decide (n.pat ≤ n.quiet) = true := decide_eq_true hl
          have HX := hideR (hfin.2 (fun q => q.2 rfl))
          clear hfin HM HK
          go_wp2
          all_goals
            simp [bodyPost, results, go_sem]
            exact unhideR HX
        · have tl : decide (n.pat ≤ n.quiet) = false := decide_eq_false hl
          have HX := hideR (hfin.2 (fun q => hl q.1))
          clear hfin HM HK
          go_wp2
          all_goals
            simp [bodyPost, results, go_sem]
            exact unhideR HX
      · have b2 : (R2 == n.B.home) = false := by simp [r2]
        have c8 : W4.cell? ⟨g, 8, none⟩ = some (.int .i64 R1) := ((unhideR HM).cell 8 (by decide)).1
        have c9 : W4.cell? ⟨g, 9, none⟩ = some (.int .i64 R2) := ((unhideR HM).cell 9 (by decide)).1
        have c3 : W4.cell? ⟨g, 3, none⟩ = some (.int .i64 n.A.home) := ((unhideR HM).cell 3 (by decide)).1
        have c7 : W4.cell? ⟨g, 7, none⟩ = some (.int .i64 n.B.home) := ((unhideR HM).cell 7 (by decide)).1
        refine wp_region_lets [(· = .pointer (some ⟨g, 0, none⟩)),
          (· = .pointer (some ⟨g, 0, none⟩)),
          (· = .pointer (some ⟨g, 8, none⟩)),
          (· = .int .i64 R1),
          (· = .pointer (some ⟨g, 0, none⟩)),
          (· = .pointer (some ⟨g, 0, none⟩)),
          (· = .pointer (some ⟨g, 0, none⟩)),
          (· = .pointer (some ⟨g, 3, none⟩)),
          (· = .int .i64 n.A.home),
          (· = .bool true),
          (· = .bool true),
          (· = .pointer (some ⟨g, 0, none⟩)),
          (· = .pointer (some ⟨g, 0, none⟩)),
          (· = .pointer (some ⟨g, 9, none⟩)),
          (· = .int .i64 R2),
          (· = .pointer (some ⟨g, 0, none⟩)),
          (· = .pointer (some ⟨g, 0, none⟩)),
          (· = .pointer (some ⟨g, 4, none⟩)),
          (· = .pointer (some ⟨g, 7, none⟩)),
          (· = .int .i64 n.B.home),
          (· = .bool false),
          (· = .bool false)] (by kernel_rfl) (by kernel_rfl) ?_
        refine lexL_step (fun K hK => ⟨by kernel_rfl, ⟨_, rfl⟩, fun n => ?_, fun v hv => ?_⟩)
        · go_simp
          exact lUpon_one
        subst hv
        go_simp
        refine hK _ ?_
        clear hK K
        refine lexL_step (fun K hK => ⟨by kernel_rfl, ⟨_, rfl⟩, fun n => ?_, fun v hv => ?_⟩)
        · go_simp
          exact lUpon_one
        subst hv
        go_simp
        refine hK _ ?_
        clear hK K
        refine lexL_step (fun K hK => ⟨by kernel_rfl, ⟨_, rfl⟩, fun n => ?_, fun v hv => ?_⟩)
        · go_simp
          exact lUpon_one
        subst hv
        go_simp
        refine hK _ ?_
        clear hK K
        refine lexL_step (fun K hK => ⟨by kernel_rfl, ⟨_, rfl⟩, fun n => ?_, fun v hv => ?_⟩)
        · go_simp
          exact lUpon_one
        subst hv
        go_simp
        refine hK _ ?_
        clear hK K
        refine lexL_step (fun K hK => ⟨by kernel_rfl, ⟨_, rfl⟩, fun n => ?_, fun v hv => ?_⟩)
        · go_simp
          exact lUpon_one
        subst hv
        go_simp
        refine hK _ ?_
        clear hK K
        refine lexL_step (fun K hK => ⟨by kernel_rfl, ⟨_, rfl⟩, fun n => ?_, fun v hv => ?_⟩)
        · go_simp
          exact lUpon_one
        subst hv
        go_simp
        refine hK _ ?_
        clear hK K
        refine lexL_step (fun K hK => ⟨by kernel_rfl, ⟨_, rfl⟩, fun n => ?_, fun v hv => ?_⟩)
        · go_simp
          exact lUpon_one
        subst hv
        go_simp
        refine hK _ ?_
        clear hK K
        refine lexL_step (fun K hK => ⟨by kernel_rfl, ⟨_, rfl⟩, fun n => ?_, fun v hv => ?_⟩)
        · go_simp
          exact lUpon_one
        subst hv
        go_simp
        refine hK _ ?_
        clear hK K
        refine lexL_step (fun K hK => ⟨by kernel_rfl, ⟨_, rfl⟩, fun n => ?_, fun v hv => ?_⟩)
        · go_simp
          exact lUpon_one
        subst hv
        go_simp
        refine hK _ ?_
        clear hK K
        refine lexL_step (fun K hK => ⟨by kernel_rfl, ⟨_, rfl⟩, fun n => ?_, fun v hv => ?_⟩)
        · go_simp
          exact lUpon_one
        subst hv
        go_simp
        refine hK _ ?_
        clear hK K
        refine lexL_step (fun K hK => ⟨by kernel_rfl, ⟨_, rfl⟩, fun n => ?_, fun v hv => ?_⟩)
        · go_simp
          exact lUpon_one
        subst hv
        go_simp
        refine hK _ ?_
        clear hK K
        refine lexL_step (fun K hK => ⟨by kernel_rfl, ⟨_, rfl⟩, fun n => ?_, fun v hv => ?_⟩)
        · go_simp
          exact lUpon_one
        subst hv
        go_simp
        refine hK _ ?_
        clear hK K
        refine lexL_step (fun K hK => ⟨by kernel_rfl, ⟨_, rfl⟩, fun n => ?_, fun v hv => ?_⟩)
        · go_simp
          exact lUpon_one
        subst hv
        go_simp
        refine hK _ ?_
        clear hK K
        refine lexL_step (fun K hK => ⟨by kernel_rfl, ⟨_, rfl⟩, fun n => ?_, fun v hv => ?_⟩)
        · go_simp
          exact lUpon_one
        subst hv
        go_simp
        refine hK _ ?_
        clear hK K
        refine lexL_step (fun K hK => ⟨by kernel_rfl, ⟨_, rfl⟩, fun n => ?_, fun v hv => ?_⟩)
        · go_simp
          exact lUpon_one
        subst hv
        go_simp
        refine hK _ ?_
        clear hK K
        refine lexL_step (fun K hK => ⟨by kernel_rfl, ⟨_, rfl⟩, fun n => ?_, fun v hv => ?_⟩)
        · go_simp
          exact lUpon_one
        subst hv
        go_simp
        refine hK _ ?_
        clear hK K
        refine lexL_step (fun K hK => ⟨by kernel_rfl, ⟨_, rfl⟩, fun n => ?_, fun v hv => ?_⟩)
        · go_simp
          exact lUpon_one
        subst hv
        go_simp
        refine hK _ ?_
        clear hK K
        refine lexL_step (fun K hK => ⟨by kernel_rfl, ⟨_, rfl⟩, fun n => ?_, fun v hv => ?_⟩)
        · go_simp
          exact lUpon_one
        subst hv
        go_simp
        refine hK _ ?_
        clear hK K
        refine lexL_step (fun K hK => ⟨by kernel_rfl, ⟨_, rfl⟩, fun n => ?_, fun v hv => ?_⟩)
        · go_simp
          exact lUpon_one
        subst hv
        go_simp
        refine hK _ ?_
        clear hK K
        refine lexL_step (fun K hK => ⟨by kernel_rfl, ⟨_, rfl⟩, fun n => ?_, fun v hv => ?_⟩)
        · go_simp
          exact lUpon_one
        subst hv
        go_simp
        refine hK _ ?_
        clear hK K
        refine lexL_step (fun K hK => ⟨by kernel_rfl, ⟨_, rfl⟩, fun n => ?_, fun v hv => ?_⟩)
        · go_simp
          exact lUpon_one
        subst hv
        go_simp
        refine hK _ ?_
        clear hK K
        refine lexL_step (fun K hK => ⟨by kernel_rfl, ⟨_, rfl⟩, fun n => ?_, fun v hv => ?_⟩)
        · go_simp
          exact lUpon_one
        subst hv
        go_simp
        refine hK _ ?_
        clear hK K
        refine lexL_end ?_
        intro n9
        clear c8 c9 c3 c7
        replace HM := hideR ((unhideR HM).keep (drawn_below W4 n9))
        replace HK := hideR ((unhideR HK).go (drawn_below W4 n9))
        generalize W4.drewN n9 = W5 at *
        have HKm : HeldR ({ n with X := R1, Y := R2 } = moveV n) := by
          unfold HeldR
          rw [unhideR HMv, if_neg (fun q => r2 q.2), ← unhideR Hst]
        clear HMv
        have hfin := unhideR HFin _ (unhideR HKm) _ (unhideR HM) (unhideR HK)
        have c12 : W5.cell? ⟨g, 12, none⟩ = some (.int .i64 n.st) := ((unhideR HM).cell 12 (by decide)).1
        have f12 : W5.frozen? ⟨g, 12, none⟩ = false := ((unhideR HM).cell 12 (by decide)).2
        clear HFin HKm
        by_cases hl : n.pat ≤ n.quiet
        · have tl : decide (n.pat ≤ n.quiet) = true := decide_eq_true hl
          have HX := hideR (hfin.1 ⟨hl, by show n.st ≠ 4; have := unhideR Hst; omega⟩)
          have t4 : (n.st == 4) = false := by have := unhideR Hst; simp; omega
          clear hfin HM HK
          go_wp2
          all_goals
            simp [bodyPost, results, go_sem]
            exact unhideR HX
        · have tl : decide (n.pat ≤ n.quiet) = false := decide_eq_false hl
          have HX := hideR (hfin.2 (fun q => hl q.1))
          clear hfin HM HK
          go_wp2
          all_goals
            simp [bodyPost, results, go_sem]
            exact unhideR HX
    · have b1 : (R1 == n.A.home) = false := by simp [r1]
      have c8 : W4.cell? ⟨g, 8, none⟩ = some (.int .i64 R1) := ((unhideR HM).cell 8 (by decide)).1
      have c9 : W4.cell? ⟨g, 9, none⟩ = some (.int .i64 R2) := ((unhideR HM).cell 9 (by decide)).1
      have c3 : W4.cell? ⟨g, 3, none⟩ = some (.int .i64 n.A.home) := ((unhideR HM).cell 3 (by decide)).1
      have c7 : W4.cell? ⟨g, 7, none⟩ = some (.int .i64 n.B.home) := ((unhideR HM).cell 7 (by decide)).1
      refine wp_region_lets [(· = .pointer (some ⟨g, 0, none⟩)),
        (· = .pointer (some ⟨g, 0, none⟩)),
        (· = .pointer (some ⟨g, 8, none⟩)),
        (· = .int .i64 R1),
        (· = .pointer (some ⟨g, 0, none⟩)),
        (· = .pointer (some ⟨g, 0, none⟩)),
        (· = .pointer (some ⟨g, 0, none⟩)),
        (· = .pointer (some ⟨g, 3, none⟩)),
        (· = .int .i64 n.A.home),
        (· = .bool false),
        (· = .bool false),
        (· = undef),
        (· = undef),
        (· = undef),
        (· = undef),
        (· = undef),
        (· = undef),
        (· = undef),
        (· = undef),
        (· = undef),
        (· = undef),
        (· = .bool false)] (by kernel_rfl) (by kernel_rfl) ?_
      refine lexL_step (fun K hK => ⟨by kernel_rfl, ⟨_, rfl⟩, fun n => ?_, fun v hv => ?_⟩)
      · go_simp
        exact lUpon_one
      subst hv
      go_simp
      refine hK _ ?_
      clear hK K
      refine lexL_step (fun K hK => ⟨by kernel_rfl, ⟨_, rfl⟩, fun n => ?_, fun v hv => ?_⟩)
      · go_simp
        exact lUpon_one
      subst hv
      go_simp
      refine hK _ ?_
      clear hK K
      refine lexL_step (fun K hK => ⟨by kernel_rfl, ⟨_, rfl⟩, fun n => ?_, fun v hv => ?_⟩)
      · go_simp
        exact lUpon_one
      subst hv
      go_simp
      refine hK _ ?_
      clear hK K
      refine lexL_step (fun K hK => ⟨by kernel_rfl, ⟨_, rfl⟩, fun n => ?_, fun v hv => ?_⟩)
      · go_simp
        exact lUpon_one
      subst hv
      go_simp
      refine hK _ ?_
      clear hK K
      refine lexL_step (fun K hK => ⟨by kernel_rfl, ⟨_, rfl⟩, fun n => ?_, fun v hv => ?_⟩)
      · go_simp
        exact lUpon_one
      subst hv
      go_simp
      refine hK _ ?_
      clear hK K
      refine lexL_step (fun K hK => ⟨by kernel_rfl, ⟨_, rfl⟩, fun n => ?_, fun v hv => ?_⟩)
      · go_simp
        exact lUpon_one
      subst hv
      go_simp
      refine hK _ ?_
      clear hK K
      refine lexL_step (fun K hK => ⟨by kernel_rfl, ⟨_, rfl⟩, fun n => ?_, fun v hv => ?_⟩)
      · go_simp
        exact lUpon_one
      subst hv
      go_simp
      refine hK _ ?_
      clear hK K
      refine lexL_step (fun K hK => ⟨by kernel_rfl, ⟨_, rfl⟩, fun n => ?_, fun v hv => ?_⟩)
      · go_simp
        exact lUpon_one
      subst hv
      go_simp
      refine hK _ ?_
      clear hK K
      refine lexL_step (fun K hK => ⟨by kernel_rfl, ⟨_, rfl⟩, fun n => ?_, fun v hv => ?_⟩)
      · go_simp
        exact lUpon_one
      subst hv
      go_simp
      refine hK _ ?_
      clear hK K
      refine lexL_step (fun K hK => ⟨by kernel_rfl, ⟨_, rfl⟩, fun n => ?_, fun v hv => ?_⟩)
      · go_simp
        exact lUpon_one
      subst hv
      go_simp
      refine hK _ ?_
      clear hK K
      refine lexL_step (fun K hK => ⟨by kernel_rfl, ⟨_, rfl⟩, fun n => ?_, fun v hv => ?_⟩)
      · go_simp
        exact lUpon_one
      subst hv
      go_simp
      refine hK _ ?_
      clear hK K
      refine lexL_skip (fun K hK => ⟨by kernel_rfl, ?_⟩)
      go_simp
      refine hK _ ?_
      clear hK K
      refine lexL_skip (fun K hK => ⟨by kernel_rfl, ?_⟩)
      go_simp
      refine hK _ ?_
      clear hK K
      refine lexL_skip (fun K hK => ⟨by kernel_rfl, ?_⟩)
      go_simp
      refine hK _ ?_
      clear hK K
      refine lexL_skip (fun K hK => ⟨by kernel_rfl, ?_⟩)
      go_simp
      refine hK _ ?_
      clear hK K
      refine lexL_skip (fun K hK => ⟨by kernel_rfl, ?_⟩)
      go_simp
      refine hK _ ?_
      clear hK K
      refine lexL_skip (fun K hK => ⟨by kernel_rfl, ?_⟩)
      go_simp
      refine hK _ ?_
      clear hK K
      refine lexL_skip (fun K hK => ⟨by kernel_rfl, ?_⟩)
      go_simp
      refine hK _ ?_
      clear hK K
      refine lexL_skip (fun K hK => ⟨by kernel_rfl, ?_⟩)
      go_simp
      refine hK _ ?_
      clear hK K
      refine lexL_skip (fun K hK => ⟨by kernel_rfl, ?_⟩)
      go_simp
      refine hK _ ?_
      clear hK K
      refine lexL_skip (fun K hK => ⟨by kernel_rfl, ?_⟩)
      go_simp
      refine hK _ ?_
      clear hK K
      refine lexL_step (fun K hK => ⟨by kernel_rfl, ⟨_, rfl⟩, fun n => ?_, fun v hv => ?_⟩)
      · go_simp
        exact lUpon_one
      subst hv
      go_simp
      refine hK _ ?_
      clear hK K
      refine lexL_end ?_
      intro n9
      clear c8 c9 c3 c7
      replace HM := hideR ((unhideR HM).keep (drawn_below W4 n9))
      replace HK := hideR ((unhideR HK).go (drawn_below W4 n9))
      generalize W4.drewN n9 = W5 at *
      have HKm : HeldR ({ n with X := R1, Y := R2 } = moveV n) := by
        unfold HeldR
        rw [unhideR HMv, if_neg (fun q => r1 q.1), ← unhideR Hst]
      clear HMv
      have hfin := unhideR HFin _ (unhideR HKm) _ (unhideR HM) (unhideR HK)
      have c12 : W5.cell? ⟨g, 12, none⟩ = some (.int .i64 n.st) := ((unhideR HM).cell 12 (by decide)).1
      have f12 : W5.frozen? ⟨g, 12, none⟩ = false := ((unhideR HM).cell 12 (by decide)).2
      clear HFin HKm
      by_cases hl : n.pat ≤ n.quiet
      · have tl : decide (n.pat ≤ n.quiet) = true := decide_eq_true hl
        have HX := hideR (hfin.1 ⟨hl, by show n.st ≠ 4; have := unhideR Hst; omega⟩)
        have t4 : (n.st == 4) = false := by have := unhideR Hst; simp; omega
        clear hfin HM HK
        go_wp2
        all_goals
          simp [bodyPost, results, go_sem]
          exact unhideR HX
      · have tl : decide (n.pat ≤ n.quiet) = false := decide_eq_false hl
        have HX := hideR (hfin.2 (fun q => hl q.1))
        clear hfin HM HK
        go_wp2
        all_goals
          simp [bodyPost, results, go_sem]
          exact unhideR HX
  by_cases s2 : n.st = 2
  · have t1 : (n.st == 1) = false := by simp [s1]
    have t3 : (n.st == 3) = false := by simp [s3]
    have t2 : (n.st == 2) = true := by simp [s2]
    have p2 := h2' s2
    unfold quick at p2
    have HMv : HeldR (moveV n = if out n.A (n.X + n.P) ∨ out n.B (n.Y + n.Q) then { n with st := 5 } else { n with X := n.X + n.P, Y := n.Y + n.Q }) := by
      unfold HeldR
      show (if n.st = 1 then _ else if n.st = 3 then _ else if n.st = 2 then _ else _) = _
      rw [if_neg s1, if_neg s3, if_pos s2]
    have Hst := hideR s2
    have wx : IntKind.i64.wrap (n.X + n.P) = n.X + n.P := iwrap (by omega) (by omega)
    have wy : IntKind.i64.wrap (n.Y + n.Q) = n.Y + n.Q := iwrap (by omega) (by omega)
    clear s1 s2 s3 h1' h2'
    go_wp2_with fail
    clear c12
    have c8 : W2.cell? ⟨g, 8, none⟩ = some (.int .i64 n.X) := ((unhideR HM).cell 8 (by decide)).1
    have c10 : W2.cell? ⟨g, 10, none⟩ = some (.int .i64 n.P) := ((unhideR HM).cell 10 (by decide)).1
    go_quiet (fail)
    clear c8 c10
    replace HM := hideR ((unhideR HM).keep (drawn_below W2 nq))
    replace HK := hideR ((unhideR HK).go (drawn_below W2 nq))
    generalize W2.drewN nq = W3 at *
    have c9 : W3.cell? ⟨g, 9, none⟩ = some (.int .i64 n.Y) := ((unhideR HM).cell 9 (by decide)).1
    have c11 : W3.cell? ⟨g, 11, none⟩ = some (.int .i64 n.Q) := ((unhideR HM).cell 11 (by decide)).1
    go_wp2_with fail
    go_quiet (fail)
    clear c9 c11
    replace HM := hideR ((unhideR HM).keep (drawn_below W3 nq))
    replace HK := hideR ((unhideR HK).go (drawn_below W3 nq))
    generalize W3.drewN nq = W4 at *
    have c0 : W4.cell? ⟨g, 0, none⟩ = some (.int .i64 n.A.lo) := ((unhideR HM).cell 0 (by decide)).1
    have c1 : W4.cell? ⟨g, 1, none⟩ = some (.int .i64 n.A.hi) := ((unhideR HM).cell 1 (by decide)).1
    have c4 : W4.cell? ⟨g, 4, none⟩ = some (.int .i64 n.B.lo) := ((unhideR HM).cell 4 (by decide)).1
    have c5 : W4.cell? ⟨g, 5, none⟩ = some (.int .i64 n.B.hi) := ((unhideR HM).cell 5 (by decide)).1
    generalize n.X + n.P = x at *
    generalize n.Y + n.Q = y at *
    by_cases ho : out n.A x ∨ out n.B y
    · have HKm : HeldR ({ n with st := 5 } = moveV n) := by
        unfold HeldR
        rw [unhideR HMv, if_pos ho]
      have hcase : (decide (x < n.A.lo) = true) ∨ (decide (x < n.A.lo) = false ∧ decide (n.A.hi < x) = true) ∨ (decide (x < n.A.lo) = false ∧ decide (n.A.hi < x) = false ∧ decide (y < n.B.lo) = true) ∨ (decide (x < n.A.lo) = false ∧ decide (n.A.hi < x) = false ∧ decide (y < n.B.lo) = false ∧ decide (n.B.hi < y) = true) := by
        unfold out at ho
        by_cases q1 : x < n.A.lo
        · exact .inl (decide_eq_true q1)
        · by_cases q2 : n.A.hi < x
          · exact .inr (.inl ⟨decide_eq_false q1, decide_eq_true q2⟩)
          · by_cases q3 : y < n.B.lo
            · exact .inr (.inr (.inl ⟨decide_eq_false q1, decide_eq_false q2, decide_eq_true q3⟩))
            · exact .inr (.inr (.inr ⟨decide_eq_false q1, decide_eq_false q2, decide_eq_false q3, decide_eq_true (by omega)⟩))
      have d12 : W4.cell? ⟨g, 12, none⟩ = some (.int .i64 n.st) := ((unhideR HM).cell 12 (by decide)).1
      have e12 : W4.frozen? ⟨g, 12, none⟩ = false := ((unhideR HM).cell 12 (by decide)).2
      replace HM := hideR ((unhideR HM).st 5)
      replace HK := hideR ((unhideR HK).put 12 (.int .i64 5))
      clear ho HMv
      rcases hcase with u1 | ⟨u1, u2⟩ | ⟨u1, u2, u3⟩ | ⟨u1, u2, u3, u4⟩
      all_goals
        have hfin := unhideR HFin _ (unhideR HKm) _ (unhideR HM) (unhideR HK)
        have c12 : (W4.setCell ⟨g, 12, none⟩ (.int .i64 5)).cell? ⟨g, 12, none⟩ = some (.int .i64 5) := ((unhideR HM).cell 12 (by decide)).1
        have f12 : (W4.setCell ⟨g, 12, none⟩ (.int .i64 5)).frozen? ⟨g, 12, none⟩ = false := ((unhideR HM).cell 12 (by decide)).2
        clear HFin HKm
        by_cases hl : n.pat ≤ n.quiet
        · have tl : decide (n.pat ≤ n.quiet) = true := decide_eq_true hl
          have HX := hideR (hfin.1 ⟨hl, by show (5 : Int) ≠ 4; decide⟩)
          clear hfin HM HK
          go_wp2
          all_goals
            simp [bodyPost, results, go_sem]
            exact unhideR HX
        · have tl : decide (n.pat ≤ n.quiet) = false := decide_eq_false hl
          have HX := hideR (hfin.2 (fun q => hl q.1))
          clear hfin HM HK
          go_wp2
          all_goals
            simp [bodyPost, results, go_sem]
            exact unhideR HX
    · have HKm : HeldR ({ n with X := x, Y := y } = moveV n) := by
        unfold HeldR
        rw [unhideR HMv, if_neg ho]
      unfold out at ho
      have u1 : decide (x < n.A.lo) = false := decide_eq_false (by omega)
      have u2 : decide (n.A.hi < x) = false := decide_eq_false (by omega)
      have u3 : decide (y < n.B.lo) = false := decide_eq_false (by omega)
      have u4 : decide (n.B.hi < y) = false := decide_eq_false (by omega)
      have d8 : W4.cell? ⟨g, 8, none⟩ = some (.int .i64 n.X) := ((unhideR HM).cell 8 (by decide)).1
      have e8 : W4.frozen? ⟨g, 8, none⟩ = false := ((unhideR HM).cell 8 (by decide)).2
      replace HM := hideR ((unhideR HM).X x)
      replace HK := hideR ((unhideR HK).put 8 (.int .i64 x))
      have d9 : (W4.setCell ⟨g, 8, none⟩ (.int .i64 x)).cell? ⟨g, 9, none⟩ = some (.int .i64 n.Y) := ((unhideR HM).cell 9 (by decide)).1
      have e9 : (W4.setCell ⟨g, 8, none⟩ (.int .i64 x)).frozen? ⟨g, 9, none⟩ = false := ((unhideR HM).cell 9 (by decide)).2
      replace HM := hideR ((unhideR HM).Y y)
      replace HK := hideR ((unhideR HK).put 9 (.int .i64 y))
      clear ho HMv
      have hfin := unhideR HFin _ (unhideR HKm) _ (unhideR HM) (unhideR HK)
      have c12 : ((W4.setCell ⟨g, 8, none⟩ (.int .i64 x)).setCell ⟨g, 9, none⟩ (.int .i64 y)).cell? ⟨g, 12, none⟩ = some (.int .i64 n.st) := ((unhideR HM).cell 12 (by decide)).1
      have f12 : ((W4.setCell ⟨g, 8, none⟩ (.int .i64 x)).setCell ⟨g, 9, none⟩ (.int .i64 y)).frozen? ⟨g, 12, none⟩ = false := ((unhideR HM).cell 12 (by decide)).2
      clear HFin HKm
      by_cases hl : n.pat ≤ n.quiet
      · have tl : decide (n.pat ≤ n.quiet) = true := decide_eq_true hl
        have HX := hideR (hfin.1 ⟨hl, by show n.st ≠ 4; have := unhideR Hst; omega⟩)
        have t4 : (n.st == 4) = false := by have := unhideR Hst; simp; omega
        clear hfin HM HK
        go_wp2
        all_goals
          simp [bodyPost, results, go_sem]
          exact unhideR HX
      · have tl : decide (n.pat ≤ n.quiet) = false := decide_eq_false hl
        have HX := hideR (hfin.2 (fun q => hl q.1))
        clear hfin HM HK
        go_wp2
        all_goals
          simp [bodyPost, results, go_sem]
          exact unhideR HX
  · have HKm : HeldR (n = moveV n) := by
      unfold HeldR moveV
      rw [if_neg s1, if_neg s3, if_neg s2]
    have t1 : (n.st == 1) = false := by simp [s1]
    have t2 : (n.st == 2) = false := by simp [s2]
    have t3 : (n.st == 3) = false := by simp [s3]
    clear s1 s2 s3 h1' h2' c12
    have hfin := unhideR HFin _ (unhideR HKm) _ (unhideR HM) (unhideR HK)
    have c12 : W2.cell? ⟨g, 12, none⟩ = some (.int .i64 n.st) := ((unhideR HM).cell 12 (by decide)).1
    have f12 : W2.frozen? ⟨g, 12, none⟩ = false := ((unhideR HM).cell 12 (by decide)).2
    clear HFin HKm
    by_cases hl : n.pat ≤ n.quiet
    · have tl : decide (n.pat ≤ n.quiet) = true := decide_eq_true hl
      by_cases h4 : n.st = 4
      · have HX := hideR (hfin.2 (fun q => q.2 h4))
        have t4 : (n.st == 4) = true := by simp [h4]
        clear hfin HM HK
        go_wp2
        all_goals
          simp [bodyPost, results, go_sem]
          exact unhideR HX
      · have HX := hideR (hfin.1 ⟨hl, h4⟩)
        have t4 : (n.st == 4) = false := by simp [h4]
        clear hfin HM HK
        go_wp2
        all_goals
          simp [bodyPost, results, go_sem]
          exact unhideR HX
    · have tl : decide (n.pat ≤ n.quiet) = false := decide_eq_false hl
      have HX := hideR (hfin.2 (fun q => hl q.1))
      clear hfin HM HK
      go_wp2
      all_goals
        simp [bodyPost, results, go_sem]
        exact unhideR HX
end Go.Proofs.YteoappoijihomahDoor
