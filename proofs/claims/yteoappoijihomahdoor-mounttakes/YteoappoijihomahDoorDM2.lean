/-
  The program's mount: what a command does, by contract.
-/
import Derived.Test.YteoappoijihomahDoorDM1
import Derived.Test.YteoappoijihomahDoorMtErr
namespace Go.Proofs.YteoappoijihomahDoor
open Go Go.RowKit

def parkP (p : PM) : PM := if p.st = 4 then p else { p with ga := p.A.home, gb := p.B.home, st := 3 }
set_option maxRecDepth 100000 in
set_option maxHeartbeats 3200000 in
theorem park_any {g : Nat} {p : PM} {w : World} (hM : PB w g p) : Calls Tryd.prog 88 #[.pointer (some ⟨g, 0, none⟩)] w fun e w' => e = .returned (.tuple #[]) ∧ PB w' g (parkP p) ∧ Chg g w w' := by
  have HM := hideR hM
  have HK := hideR (Chg.refl g w)
  have c14 : w.cell? ⟨g, 14, none⟩ = some (.int .i64 p.st) := (hM.cell 14 (by decide)).1
  by_cases h4 : p.st = 4
  · have HF : HeldR (PB w g (parkP p)) := by
      unfold HeldR parkP
      rw [if_pos h4]
      exact hM
    have t4 : (p.st == 4) = true := by simp [h4]
    clear h4 hM
    go_enter Tryd.func88, Tryd.ntmps88
    go_wp2
    simp [bodyPost, results, Tryd.results88, go_sem]
    exact ⟨unhideR HF, unhideR HK⟩
  have HF : HeldR (∀ u, PB u g { p with ga := p.A.home, gb := p.B.home, st := 3 } → PB u g (parkP p)) := by
    intro u hu
    unfold parkP
    rw [if_neg h4]
    exact hu
  have t4 : (p.st == 4) = false := by simp [h4]
  clear h4 hM
  go_enter Tryd.func88, Tryd.ntmps88
  go_wp2
  refine wp_loop_rounds 3 ?_
  rw [rounds_succ]
  go_wp2_with fail
  clear c14
  refine wp_region_made 0 #[true, true, true, true, true, true, true, true, true, true, true, true, true, true, false] [.lets (· = .pointer (some ⟨g, 0, none⟩)),
    .lets (· = .int .i64 0),
    .lets (· = .pointer (some ⟨g, 0, none⟩)),
    .lets (· = .int .i64 0),
    .lets (· = .pointer (some ⟨g, 0, none⟩)),
    .lets (· = .pointer (some ⟨g, 0, none⟩)),
    .lets (· = .pointer (some ⟨g, 0, none⟩)),
    .lets (· = .pointer (some ⟨g, 0, none⟩)),
    .lets (· = .pointer (some ⟨g, 3, none⟩)),
    .lets (· = .int .i64 p.A.home),
    .lets (· = .pointer (some ⟨g, 0, none⟩)),
    .lets (· = .pointer (some ⟨g, 0, none⟩)),
    .lets (· = .pointer (some ⟨g, 0, none⟩)),
    .lets (· = .pointer (some ⟨g, 5, none⟩))] [] [] (by kernel_rfl) (by kernel_rfl) rfl ?kinds (by kernel_rfl) (by kernel_rfl) (by kernel_rfl) ?_
  case kinds =>
    constructor
    · intro i h
      rcases i with _ | _ | _ | _ | _ | _ | _ | _ | _ | _ | _ | _ | _ | _ | i <;> simp [Kx.isMade] at h
    · intro i h
      rcases i with _ | _ | _ | _ | _ | _ | _ | _ | _ | _ | _ | _ | _ | _ | i <;> simp [Kx.isUse] at h
  refine lexX_step (fun K hK => ⟨by kernel_rfl, ⟨_, rfl⟩, fun v hv => ?_, fun v hv => ?_⟩)
  · go_simp
    exact mUpon_b
  subst hv
  go_simp
  refine hK _ ?_
  clear hK K
  refine lexX_step (fun K hK => ⟨by kernel_rfl, ⟨_, rfl⟩, fun v hv => ?_, fun v hv => ?_⟩)
  · go_simp
    exact mUpon_b
  subst hv
  go_simp
  refine hK _ ?_
  clear hK K
  refine lexX_step (fun K hK => ⟨by kernel_rfl, ⟨_, rfl⟩, fun v hv => ?_, fun v hv => ?_⟩)
  · go_simp
    exact mUpon_b
  subst hv
  go_simp
  refine hK _ ?_
  clear hK K
  refine lexX_step (fun K hK => ⟨by kernel_rfl, ⟨_, rfl⟩, fun v hv => ?_, fun v hv => ?_⟩)
  · go_simp
    exact mUpon_b
  subst hv
  go_simp
  refine hK _ ?_
  clear hK K
  refine lexX_step (fun K hK => ⟨by kernel_rfl, ⟨_, rfl⟩, fun v hv => ?_, fun v hv => ?_⟩)
  · go_simp
    exact mUpon_b
  subst hv
  go_simp
  refine hK _ ?_
  clear hK K
  refine lexX_step (fun K hK => ⟨by kernel_rfl, ⟨_, rfl⟩, fun v hv => ?_, fun v hv => ?_⟩)
  · go_simp
    exact mUpon_b
  subst hv
  go_simp
  refine hK _ ?_
  clear hK K
  refine lexX_step (fun K hK => ⟨by kernel_rfl, ⟨_, rfl⟩, fun v hv => ?_, fun v hv => ?_⟩)
  · go_simp
    exact mUpon_b
  subst hv
  go_simp
  refine hK _ ?_
  clear hK K
  refine lexX_step (fun K hK => ⟨by kernel_rfl, ⟨_, rfl⟩, fun v hv => ?_, fun v hv => ?_⟩)
  · go_simp
    exact mUpon_b
  subst hv
  go_simp
  refine hK _ ?_
  clear hK K
  refine lexX_step (fun K hK => ⟨by kernel_rfl, ⟨_, rfl⟩, fun v hv => ?_, fun v hv => ?_⟩)
  · go_simp
    exact mUpon_b
  subst hv
  go_simp
  refine hK _ ?_
  clear hK K
  refine lexX_step (fun K hK => ⟨by kernel_rfl, ⟨_, rfl⟩, fun v hv => ?_, fun v hv => ?_⟩)
  · have c : v.cell? ⟨g, 3, none⟩ = some (.int .i64 p.A.home) := (((unhideR HM).keep hv).cell 3 (by decide)).1
    go_simp
    exact mUpon_b
  subst hv
  go_simp
  refine hK _ ?_
  clear hK K
  refine lexX_step (fun K hK => ⟨by kernel_rfl, ⟨_, rfl⟩, fun v hv => ?_, fun v hv => ?_⟩)
  · go_simp
    exact mUpon_b
  subst hv
  go_simp
  refine hK _ ?_
  clear hK K
  refine lexX_step (fun K hK => ⟨by kernel_rfl, ⟨_, rfl⟩, fun v hv => ?_, fun v hv => ?_⟩)
  · go_simp
    exact mUpon_b
  subst hv
  go_simp
  refine hK _ ?_
  clear hK K
  refine lexX_step (fun K hK => ⟨by kernel_rfl, ⟨_, rfl⟩, fun v hv => ?_, fun v hv => ?_⟩)
  · go_simp
    exact mUpon_b
  subst hv
  go_simp
  refine hK _ ?_
  clear hK K
  refine lexX_step (fun K hK => ⟨by kernel_rfl, ⟨_, rfl⟩, fun v hv => ?_, fun v hv => ?_⟩)
  · go_simp
    exact mUpon_b
  subst hv
  go_simp
  refine hK _ ?_
  clear hK K
  refine lexX_end (fun v5 hv => ?_)
  have hq := ((unhideR HM).keep hv.low).cell 5 (by decide)
  have q1 : v5.cell? ⟨g, 5, none⟩ = some (.int .i64 p.ga) := hq.1
  have q2 : v5.frozen? ⟨g, 5, none⟩ = false := hq.2
  replace HM := hideR (((unhideR HM).keep hv.low).ga p.A.home)
  replace HK := hideR (((unhideR HK).go hv.low).put 5 (.int .i64 p.A.home))
  clear hv hq
  refine wpAny_step (i := 14) (by kernel_rfl) rfl (by kernel_rfl) (fun K hK => ?_)
  unfold Oper.wp
  go_simp
  refine hK _ _ ?_
  clear hK K
  refine wpAny_end (by kernel_rfl) ?_
  clear q1 q2
  generalize v5.setCell ⟨g, 5, none⟩ (.int .i64 p.A.home) = W1 at *
  go_wp2
  rw [rounds_succ]
  go_wp2_with fail
  refine wp_region_made 0 #[true, true, true, true, true, true, true, true, true, true, true, true, true, true, false] [.lets (· = .pointer (some ⟨g, 0, none⟩)),
    .lets (· = .int .i64 1),
    .lets (· = .pointer (some ⟨g, 0, none⟩)),
    .lets (· = .int .i64 1),
    .lets (· = .pointer (some ⟨g, 0, none⟩)),
    .lets (· = .pointer (some ⟨g, 0, none⟩)),
    .lets (· = .pointer (some ⟨g, 7, none⟩)),
    .lets (· = .pointer (some ⟨g, 7, none⟩)),
    .lets (· = .pointer (some ⟨g, 10, none⟩)),
    .lets (· = .int .i64 p.B.home),
    .lets (· = .pointer (some ⟨g, 0, none⟩)),
    .lets (· = .pointer (some ⟨g, 0, none⟩)),
    .lets (· = .pointer (some ⟨g, 7, none⟩)),
    .lets (· = .pointer (some ⟨g, 12, none⟩))] [] [] (by kernel_rfl) (by kernel_rfl) rfl ?kinds (by kernel_rfl) (by kernel_rfl) (by kernel_rfl) ?_
  case kinds =>
    constructor
    · intro i h
      rcases i with _ | _ | _ | _ | _ | _ | _ | _ | _ | _ | _ | _ | _ | _ | i <;> simp [Kx.isMade] at h
    · intro i h
      rcases i with _ | _ | _ | _ | _ | _ | _ | _ | _ | _ | _ | _ | _ | _ | i <;> simp [Kx.isUse] at h
  refine lexX_step (fun K hK => ⟨by kernel_rfl, ⟨_, rfl⟩, fun v hv => ?_, fun v hv => ?_⟩)
  · go_simp
    exact mUpon_b
  subst hv
  go_simp
  refine hK _ ?_
  clear hK K
  refine lexX_step (fun K hK => ⟨by kernel_rfl, ⟨_, rfl⟩, fun v hv => ?_, fun v hv => ?_⟩)
  · go_simp
    exact mUpon_b
  subst hv
  go_simp
  refine hK _ ?_
  clear hK K
  refine lexX_step (fun K hK => ⟨by kernel_rfl, ⟨_, rfl⟩, fun v hv => ?_, fun v hv => ?_⟩)
  · go_simp
    exact mUpon_b
  subst hv
  go_simp
  refine hK _ ?_
  clear hK K
  refine lexX_step (fun K hK => ⟨by kernel_rfl, ⟨_, rfl⟩, fun v hv => ?_, fun v hv => ?_⟩)
  · go_simp
    exact mUpon_b
  subst hv
  go_simp
  refine hK _ ?_
  clear hK K
  refine lexX_step (fun K hK => ⟨by kernel_rfl, ⟨_, rfl⟩, fun v hv => ?_, fun v hv => ?_⟩)
  · go_simp
    exact mUpon_b
  subst hv
  go_simp
  refine hK _ ?_
  clear hK K
  refine lexX_step (fun K hK => ⟨by kernel_rfl, ⟨_, rfl⟩, fun v hv => ?_, fun v hv => ?_⟩)
  · go_simp
    exact mUpon_b
  subst hv
  go_simp
  refine hK _ ?_
  clear hK K
  refine lexX_step (fun K hK => ⟨by kernel_rfl, ⟨_, rfl⟩, fun v hv => ?_, fun v hv => ?_⟩)
  · go_simp
    exact mUpon_b
  subst hv
  go_simp
  refine hK _ ?_
  clear hK K
  refine lexX_step (fun K hK => ⟨by kernel_rfl, ⟨_, rfl⟩, fun v hv => ?_, fun v hv => ?_⟩)
  · go_simp
    exact mUpon_b
  subst hv
  go_simp
  refine hK _ ?_
  clear hK K
  refine lexX_step (fun K hK => ⟨by kernel_rfl, ⟨_, rfl⟩, fun v hv => ?_, fun v hv => ?_⟩)
  · go_simp
    exact mUpon_b
  subst hv
  go_simp
  refine hK _ ?_
  clear hK K
  refine lexX_step (fun K hK => ⟨by kernel_rfl, ⟨_, rfl⟩, fun v hv => ?_, fun v hv => ?_⟩)
  · have c : v.cell? ⟨g, 10, none⟩ = some (.int .i64 p.B.home) := (((unhideR HM).keep hv).cell 10 (by decide)).1
    go_simp
    exact mUpon_b
  subst hv
  go_simp
  refine hK _ ?_
  clear hK K
  refine lexX_step (fun K hK => ⟨by kernel_rfl, ⟨_, rfl⟩, fun v hv => ?_, fun v hv => ?_⟩)
  · go_simp
    exact mUpon_b
  subst hv
  go_simp
  refine hK _ ?_
  clear hK K
  refine lexX_step (fun K hK => ⟨by kernel_rfl, ⟨_, rfl⟩, fun v hv => ?_, fun v hv => ?_⟩)
  · go_simp
    exact mUpon_b
  subst hv
  go_simp
  refine hK _ ?_
  clear hK K
  refine lexX_step (fun K hK => ⟨by kernel_rfl, ⟨_, rfl⟩, fun v hv => ?_, fun v hv => ?_⟩)
  · go_simp
    exact mUpon_b
  subst hv
  go_simp
  refine hK _ ?_
  clear hK K
  refine lexX_step (fun K hK => ⟨by kernel_rfl, ⟨_, rfl⟩, fun v hv => ?_, fun v hv => ?_⟩)
  · go_simp
    exact mUpon_b
  subst hv
  go_simp
  refine hK _ ?_
  clear hK K
  refine lexX_end (fun v5 hv => ?_)
  have hq := ((unhideR HM).keep hv.low).cell 12 (by decide)
  have q1 : v5.cell? ⟨g, 12, none⟩ = some (.int .i64 p.gb) := hq.1
  have q2 : v5.frozen? ⟨g, 12, none⟩ = false := hq.2
  replace HM := hideR (((unhideR HM).keep hv.low).gb p.B.home)
  replace HK := hideR (((unhideR HK).go hv.low).put 12 (.int .i64 p.B.home))
  clear hv hq
  refine wpAny_step (i := 14) (by kernel_rfl) rfl (by kernel_rfl) (fun K hK => ?_)
  unfold Oper.wp
  go_simp
  refine hK _ _ ?_
  clear hK K
  refine wpAny_end (by kernel_rfl) ?_
  clear q1 q2
  generalize v5.setCell ⟨g, 12, none⟩ (.int .i64 p.B.home) = W2 at *
  go_wp2
  have c14 : W2.cell? ⟨g, 14, none⟩ = some (.int .i64 p.st) := ((unhideR HM).cell 14 (by decide)).1
  have f14 : W2.frozen? ⟨g, 14, none⟩ = false := ((unhideR HM).cell 14 (by decide)).2
  replace HM := hideR (unhideR HF _ ((unhideR HM).st 3))
  replace HK := hideR ((unhideR HK).put 14 (.int .i64 3))
  rw [rounds_succ]
  go_wp2
  go_end0
  exact ⟨rfl, unhideR HM, unhideR HK⟩
set_option maxRecDepth 100000 in
theorem stop_any {g : Nat} {p : PM} {w : World} {a : Nat → Addr} (hM : PB w g p) (hE : Errs5 w a) : Calls Tryd.prog 91 #[.pointer (some ⟨g, 0, none⟩)] w fun e w' => ∃ er, ErrIs a (if p.st = 4 then 7 else 0) er ∧ e = .returned er ∧ PB w' g (if p.st = 4 then p else { p with st := 5 }) ∧ Chg g w w' := by
  have HM := hideR hM
  have c14 : w.cell? ⟨g, 14, none⟩ = some (.int .i64 p.st) := (hM.cell 14 (by decide)).1
  by_cases h4 : p.st = 4
  · rw [if_pos h4, if_pos h4]
    have e6 := hE.e6
    have t4 : (p.st == 4) = true := by simp [h4]
    clear h4 hM hE
    go_enter Tryd.func91, Tryd.ntmps91
    go_wp2
    go_ret
    exact ⟨_, err_at 6 (by decide), rfl, unhideR HM, Chg.refl _ _⟩
  · rw [if_neg h4, if_neg h4]
    have f14 : w.frozen? ⟨g, 14, none⟩ = false := (hM.cell 14 (by decide)).2
    have t4 : (p.st == 4) = false := by simp [h4]
    clear h4 hM hE
    go_enter Tryd.func91, Tryd.ntmps91
    go_wp2
    go_ret
    exact ⟨_, .inl ⟨rfl, rfl⟩, rfl, (unhideR HM).st 5, (Chg.refl _ _).put 14 _⟩
theorem not_quick {l : Lim} {x : Int} (h : -l.fast ≤ x ∧ x ≤ l.fast) : ¬ quick l x := by unfold quick; omega
theorem is_quick {l : Lim} {x : Int} (h : ¬ (-l.fast ≤ x ∧ x ≤ l.fast)) : quick l x := by unfold quick; omega
def slewP (p : PM) (z y : Int) : PM × Int := if out p.A z ∨ out p.B y then (p, 6) else if p.st = 3 then (p, 7) else ({ p with ga := z, gb := y, st := 1 }, 0)
def SlewPost (g : Nat) (p : PM) (z y : Int) (a : Nat → Addr) (w : World) (e : Ending) (w' : World) : Prop := ∃ er, ErrIs a (slewP p z y).2 er ∧ e = .returned er ∧ PB w' g (slewP p z y).1 ∧ Chg g w w'
set_option maxRecDepth 100000 in
set_option maxHeartbeats 6400000 in
theorem slew_any {g : Nat} {p : PM} {w : World} {a : Nat → Addr} (z y : Int) (hM : PB w g p) (hE : Errs5 w a) : Calls Tryd.prog 89 #[.pointer (some ⟨g, 0, none⟩), .agg #[.int .i64 z, .int .i64 y]] w (SlewPost g p z y a w) := by
  have hg : g < w.heap.size := ltB hM.blk
  have HM := hideR (hM.keep (below_a w (.cells #[.int .i64 z, .int .i64 y] 144)))
  have HK := hideR ((Chg.refl g w).go (below_a w (.cells #[.int .i64 z, .int .i64 y] 144)))
  have HT := hideR (alloc_last w (.cells #[.int .i64 z, .int .i64 y] 144))
  have HE := hideR (hE.below (below_a w (.cells #[.int .i64 z, .int .i64 y] 144)))
  have HX1 : HeldR (∀ u, (out p.A z ∨ out p.B y) → PB u g p → Chg g w u → SlewPost g p z y a w (.returned (.iface 205 (.pointer (some (a 5))))) u) := by
    intro u q h1 h2
    unfold SlewPost slewP
    rw [if_pos q]
    exact ⟨_, err_at 5 (by decide), rfl, h1, h2⟩
  have HX2 : HeldR (∀ u, ¬ (out p.A z ∨ out p.B y) → p.st = 3 → PB u g p → Chg g w u → SlewPost g p z y a w (.returned (.iface 205 (.pointer (some (a 6))))) u) := by
    intro u q q2 h1 h2
    unfold SlewPost slewP
    rw [if_neg q, if_pos q2]
    exact ⟨_, err_at 6 (by decide), rfl, h1, h2⟩
  have HX3 : HeldR (∀ u, ¬ (out p.A z ∨ out p.B y) → ¬ p.st = 3 → PB u g { p with ga := z, gb := y, st := 1 } → Chg g w u → SlewPost g p z y a w (.returned .nilIface) u) := by
    intro u q q2 h1 h2
    unfold SlewPost slewP
    rw [if_neg q, if_neg q2]
    exact ⟨_, .inl ⟨rfl, rfl⟩, rfl, h1, h2⟩
  have i0 := idx2a (.int .i64 p.A.lo) (.int .i64 p.A.hi) (.int .i64 p.A.fast) (.int .i64 p.A.home) (.int .i64 p.x) (.int .i64 p.ga) (.int .i64 p.pa) (.int .i64 p.B.lo) (.int .i64 p.B.hi) (.int .i64 p.B.fast) (.int .i64 p.B.home) (.int .i64 p.y) (.int .i64 p.gb) (.int .i64 p.pb)
  have i1 := idx2b (.int .i64 p.A.lo) (.int .i64 p.A.hi) (.int .i64 p.A.fast) (.int .i64 p.A.home) (.int .i64 p.x) (.int .i64 p.ga) (.int .i64 p.pa) (.int .i64 p.B.lo) (.int .i64 p.B.hi) (.int .i64 p.B.fast) (.int .i64 p.B.home) (.int .i64 p.y) (.int .i64 p.gb) (.int .i64 p.pb)
  have c0 : (w.alloc (.cells #[.int .i64 z, .int .i64 y] 144)).cell? ⟨g, 0, none⟩ = some (.int .i64 p.A.lo) := ((unhideR HM).cell 0 (by decide)).1
  have c1 : (w.alloc (.cells #[.int .i64 z, .int .i64 y] 144)).cell? ⟨g, 1, none⟩ = some (.int .i64 p.A.hi) := ((unhideR HM).cell 1 (by decide)).1
  have c2 : (w.alloc (.cells #[.int .i64 z, .int .i64 y] 144)).cell? ⟨g, 2, none⟩ = some (.int .i64 p.A.fast) := ((unhideR HM).cell 2 (by decide)).1
  have c3 : (w.alloc (.cells #[.int .i64 z, .int .i64 y] 144)).cell? ⟨g, 3, none⟩ = some (.int .i64 p.A.home) := ((unhideR HM).cell 3 (by decide)).1
  have c4 : (w.alloc (.cells #[.int .i64 z, .int .i64 y] 144)).cell? ⟨g, 4, none⟩ = some (.int .i64 p.x) := ((unhideR HM).cell 4 (by decide)).1
  have c5 : (w.alloc (.cells #[.int .i64 z, .int .i64 y] 144)).cell? ⟨g, 5, none⟩ = some (.int .i64 p.ga) := ((unhideR HM).cell 5 (by decide)).1
  have c6 : (w.alloc (.cells #[.int .i64 z, .int .i64 y] 144)).cell? ⟨g, 6, none⟩ = some (.int .i64 p.pa) := ((unhideR HM).cell 6 (by decide)).1
  have c7 : (w.alloc (.cells #[.int .i64 z, .int .i64 y] 144)).cell? ⟨g, 7, none⟩ = some (.int .i64 p.B.lo) := ((unhideR HM).cell 7 (by decide)).1
  have c8 : (w.alloc (.cells #[.int .i64 z, .int .i64 y] 144)).cell? ⟨g, 8, none⟩ = some (.int .i64 p.B.hi) := ((unhideR HM).cell 8 (by decide)).1
  have c9 : (w.alloc (.cells #[.int .i64 z, .int .i64 y] 144)).cell? ⟨g, 9, none⟩ = some (.int .i64 p.B.fast) := ((unhideR HM).cell 9 (by decide)).1
  have c10 : (w.alloc (.cells #[.int .i64 z, .int .i64 y] 144)).cell? ⟨g, 10, none⟩ = some (.int .i64 p.B.home) := ((unhideR HM).cell 10 (by decide)).1
  have c11 : (w.alloc (.cells #[.int .i64 z, .int .i64 y] 144)).cell? ⟨g, 11, none⟩ = some (.int .i64 p.y) := ((unhideR HM).cell 11 (by decide)).1
  have c12 : (w.alloc (.cells #[.int .i64 z, .int .i64 y] 144)).cell? ⟨g, 12, none⟩ = some (.int .i64 p.gb) := ((unhideR HM).cell 12 (by decide)).1
  have c13 : (w.alloc (.cells #[.int .i64 z, .int .i64 y] 144)).cell? ⟨g, 13, none⟩ = some (.int .i64 p.pb) := ((unhideR HM).cell 13 (by decide)).1
  clear hM hE
  go_enter Tryd.func89, Tryd.ntmps89
  go_wp2
  clear c0 c1 c2 c3 c4 c5 c6 c7 c8 c9 c10 c11 c12 c13
  generalize (w.alloc (.cells #[.int .i64 z, .int .i64 y] 144)) = W0 at *
  refine wp_loop_rounds 3 ?_
  rw [rounds_succ]
  go_wp2_with fail
  replace HM := hideR ((unhideR HM).keep (below_a W0 (.cells #[.int .i64 p.A.lo, .int .i64 p.A.hi, .int .i64 p.A.fast, .int .i64 p.A.home, .int .i64 p.x, .int .i64 p.ga, .int .i64 p.pa] 109)))
  replace HK := hideR ((unhideR HK).go (below_a W0 (.cells #[.int .i64 p.A.lo, .int .i64 p.A.hi, .int .i64 p.A.fast, .int .i64 p.A.home, .int .i64 p.x, .int .i64 p.ga, .int .i64 p.pa] 109)))
  replace HT := hideR (keepB (unhideR HT) (below_a W0 (.cells #[.int .i64 p.A.lo, .int .i64 p.A.hi, .int .i64 p.A.fast, .int .i64 p.A.home, .int .i64 p.x, .int .i64 p.ga, .int .i64 p.pa] 109)))
  replace HE := hideR ((unhideR HE).below (below_a W0 (.cells #[.int .i64 p.A.lo, .int .i64 p.A.hi, .int .i64 p.A.fast, .int .i64 p.A.home, .int .i64 p.x, .int .i64 p.ga, .int .i64 p.pa] 109)))
  have HXa := hideR (alloc_last W0 (.cells #[.int .i64 p.A.lo, .int .i64 p.A.hi, .int .i64 p.A.fast, .int .i64 p.A.home, .int .i64 p.x, .int .i64 p.ga, .int .i64 p.pa] 109))
  generalize W0.alloc (.cells #[.int .i64 p.A.lo, .int .i64 p.A.hi, .int .i64 p.A.fast, .int .i64 p.A.home, .int .i64 p.x, .int .i64 p.ga, .int .i64 p.pa] 109) = V0 at *
  generalize W0.heap.size = b0 at *
  have hr := fun u => reach_any p.A z u
  obtain ⟨r0, hq0⟩ : ∃ r : Bool, decide (¬ out p.A z) = r := ⟨_, rfl⟩
  rw [hq0] at hr
  have HR0 := hideR hq0
  clear hq0
  refine wp_region_letsB V0.heap.size [(· = .pointer (some ⟨b0, 0, none⟩)), (· = .agg #[.int .i64 p.A.lo, .int .i64 p.A.hi, .int .i64 p.A.fast, .int .i64 p.A.home]), (· = .int .i64 0), (· = .pointer (some ⟨w.heap.size, 0, none⟩)), (· = .int .i64 z), (· = .bool r0), (· = .bool !r0)] (by kernel_rfl) (by kernel_rfl) ?_
  refine lexB_step (fun K hK => ⟨by kernel_rfl, ⟨_, rfl⟩, fun v hv => ?_, fun v hv => ?_⟩)
  · go_simp
    exact lUpon_b hv
  subst hv
  go_simp
  refine hK _ ?_
  clear hK K
  refine lexB_step (fun K hK => ⟨by kernel_rfl, ⟨_, rfl⟩, fun v hv => ?_, fun v hv => ?_⟩)
  · have y0 : v.cell? ⟨b0, 0, none⟩ = some (.int .i64 p.A.lo) := (cells_at (keepB (unhideR HXa) hv) 0 (by simp)).1
    have y1 : v.cell? ⟨b0, 1, none⟩ = some (.int .i64 p.A.hi) := (cells_at (keepB (unhideR HXa) hv) 1 (by simp)).1
    have y2 : v.cell? ⟨b0, 2, none⟩ = some (.int .i64 p.A.fast) := (cells_at (keepB (unhideR HXa) hv) 2 (by simp)).1
    have y3 : v.cell? ⟨b0, 3, none⟩ = some (.int .i64 p.A.home) := (cells_at (keepB (unhideR HXa) hv) 3 (by simp)).1
    go_simp
    exact lUpon_b hv
  subst hv
  go_simp
  refine hK _ ?_
  clear hK K
  refine lexB_step (fun K hK => ⟨by kernel_rfl, ⟨_, rfl⟩, fun v hv => ?_, fun v hv => ?_⟩)
  · go_simp
    exact lUpon_b hv
  subst hv
  go_simp
  refine hK _ ?_
  clear hK K
  refine lexB_step (fun K hK => ⟨by kernel_rfl, ⟨_, rfl⟩, fun v hv => ?_, fun v hv => ?_⟩)
  · go_simp
    exact lUpon_b hv
  subst hv
  go_simp
  refine hK _ ?_
  clear hK K
  refine lexB_step (fun K hK => ⟨by kernel_rfl, ⟨_, rfl⟩, fun v hv => ?_, fun v hv => ?_⟩)
  · have c : v.cell? ⟨w.heap.size, 0, none⟩ = some (.int .i64 z) := (cells_at (keepB (unhideR HT) hv) 0 (by simp)).1
    go_simp
    exact lUpon_b hv
  subst hv
  go_simp
  refine hK _ ?_
  clear hK K
  refine lexB_step (fun K hK => ⟨by kernel_rfl, ⟨_, rfl⟩, fun v hv => ?_, fun v hv => ?_⟩)
  · go_simp
    refine (hr _).mono ?_
    rintro e w9 ⟨rfl, k⟩
    exact ⟨_, rfl, rfl, below_on2 hv (Nat.le_refl _) k⟩
  subst hv
  go_simp
  refine hK _ ?_
  clear hK K
  refine lexB_step (fun K hK => ⟨by kernel_rfl, ⟨_, rfl⟩, fun v hv => ?_, fun v hv => ?_⟩)
  · go_simp
    exact lUpon_b hv
  subst hv
  go_simp
  refine hK _ ?_
  clear hK K
  refine lexL_end ?_
  intro W1 hW1
  replace HM := hideR ((unhideR HM).keep hW1)
  replace HK := hideR ((unhideR HK).go hW1)
  replace HT := hideR (keepB (unhideR HT) hW1)
  replace HE := hideR ((unhideR HE).below hW1)
  clear HXa hr hW1
  cases r0
  case' false =>
    have e5 := (unhideR HE).e5
    have HF := hideR (unhideR HX1 _ (.inl (Decidable.not_not.1 (of_decide_eq_false (p := ¬ out p.A z) (unhideR HR0)))) (unhideR HM) (unhideR HK))
    go_wp2
    go_ret
    exact unhideR HF
  have HN0 := hideR (of_decide_eq_true (p := ¬ out p.A z) (unhideR HR0))
  clear HR0
  go_wp2
  rw [rounds_succ]
  go_wp2_with fail
  replace HM := hideR ((unhideR HM).keep (below_a W1 (.cells #[.int .i64 p.B.lo, .int .i64 p.B.hi, .int .i64 p.B.fast, .int .i64 p.B.home, .int .i64 p.y, .int .i64 p.gb, .int .i64 p.pb] 109)))
  replace HK := hideR ((unhideR HK).go (below_a W1 (.cells #[.int .i64 p.B.lo, .int .i64 p.B.hi, .int .i64 p.B.fast, .int .i64 p.B.home, .int .i64 p.y, .int .i64 p.gb, .int .i64 p.pb] 109)))
  replace HT := hideR (keepB (unhideR HT) (below_a W1 (.cells #[.int .i64 p.B.lo, .int .i64 p.B.hi, .int .i64 p.B.fast, .int .i64 p.B.home, .int .i64 p.y, .int .i64 p.gb, .int .i64 p.pb] 109)))
  replace HE := hideR ((unhideR HE).below (below_a W1 (.cells #[.int .i64 p.B.lo, .int .i64 p.B.hi, .int .i64 p.B.fast, .int .i64 p.B.home, .int .i64 p.y, .int .i64 p.gb, .int .i64 p.pb] 109)))
  have HXa := hideR (alloc_last W1 (.cells #[.int .i64 p.B.lo, .int .i64 p.B.hi, .int .i64 p.B.fast, .int .i64 p.B.home, .int .i64 p.y, .int .i64 p.gb, .int .i64 p.pb] 109))
  generalize W1.alloc (.cells #[.int .i64 p.B.lo, .int .i64 p.B.hi, .int .i64 p.B.fast, .int .i64 p.B.home, .int .i64 p.y, .int .i64 p.gb, .int .i64 p.pb] 109) = V1 at *
  generalize W1.heap.size = b1 at *
  have hr := fun u => reach_any p.B y u
  obtain ⟨r1, hq1⟩ : ∃ r : Bool, decide (¬ out p.B y) = r := ⟨_, rfl⟩
  rw [hq1] at hr
  have HR1 := hideR hq1
  clear hq1
  refine wp_region_letsB V1.heap.size [(· = .pointer (some ⟨b1, 0, none⟩)), (· = .agg #[.int .i64 p.B.lo, .int .i64 p.B.hi, .int .i64 p.B.fast, .int .i64 p.B.home]), (· = .int .i64 1), (· = .pointer (some ⟨w.heap.size, 1, none⟩)), (· = .int .i64 y), (· = .bool r1), (· = .bool !r1)] (by kernel_rfl) (by kernel_rfl) ?_
  refine lexB_step (fun K hK => ⟨by kernel_rfl, ⟨_, rfl⟩, fun v hv => ?_, fun v hv => ?_⟩)
  · go_simp
    exact lUpon_b hv
  subst hv
  go_simp
  refine hK _ ?_
  clear hK K
  refine lexB_step (fun K hK => ⟨by kernel_rfl, ⟨_, rfl⟩, fun v hv => ?_, fun v hv => ?_⟩)
  · have y0 : v.cell? ⟨b1, 0, none⟩ = some (.int .i64 p.B.lo) := (cells_at (keepB (unhideR HXa) hv) 0 (by simp)).1
    have y1 : v.cell? ⟨b1, 1, none⟩ = some (.int .i64 p.B.hi) := (cells_at (keepB (unhideR HXa) hv) 1 (by simp)).1
    have y2 : v.cell? ⟨b1, 2, none⟩ = some (.int .i64 p.B.fast) := (cells_at (keepB (unhideR HXa) hv) 2 (by simp)).1
    have y3 : v.cell? ⟨b1, 3, none⟩ = some (.int .i64 p.B.home) := (cells_at (keepB (unhideR HXa) hv) 3 (by simp)).1
    go_simp
    exact lUpon_b hv
  subst hv
  go_simp
  refine hK _ ?_
  clear hK K
  refine lexB_step (fun K hK => ⟨by kernel_rfl, ⟨_, rfl⟩, fun v hv => ?_, fun v hv => ?_⟩)
  · go_simp
    exact lUpon_b hv
  subst hv
  go_simp
  refine hK _ ?_
  clear hK K
  refine lexB_step (fun K hK => ⟨by kernel_rfl, ⟨_, rfl⟩, fun v hv => ?_, fun v hv => ?_⟩)
  · go_simp
    exact lUpon_b hv
  subst hv
  go_simp
  refine hK _ ?_
  clear hK K
  refine lexB_step (fun K hK => ⟨by kernel_rfl, ⟨_, rfl⟩, fun v hv => ?_, fun v hv => ?_⟩)
  · have c : v.cell? ⟨w.heap.size, 1, none⟩ = some (.int .i64 y) := (cells_at (keepB (unhideR HT) hv) 1 (by simp)).1
    go_simp
    exact lUpon_b hv
  subst hv
  go_simp
  refine hK _ ?_
  clear hK K
  refine lexB_step (fun K hK => ⟨by kernel_rfl, ⟨_, rfl⟩, fun v hv => ?_, fun v hv => ?_⟩)
  · go_simp
    refine (hr _).mono ?_
    rintro e w9 ⟨rfl, k⟩
    exact ⟨_, rfl, rfl, below_on2 hv (Nat.le_refl _) k⟩
  subst hv
  go_simp
  refine hK _ ?_
  clear hK K
  refine lexB_step (fun K hK => ⟨by kernel_rfl, ⟨_, rfl⟩, fun v hv => ?_, fun v hv => ?_⟩)
  · go_simp
    exact lUpon_b hv
  subst hv
  go_simp
  refine hK _ ?_
  clear hK K
  refine lexL_end ?_
  intro W2 hW2
  replace HM := hideR ((unhideR HM).keep hW2)
  replace HK := hideR ((unhideR HK).go hW2)
  replace HT := hideR (keepB (unhideR HT) hW2)
  replace HE := hideR ((unhideR HE).below hW2)
  clear HXa hr hW2
  cases r1
  case' false =>
    have e5 := (unhideR HE).e5
    have HF := hideR (unhideR HX1 _ (.inr (Decidable.not_not.1 (of_decide_eq_false (p := ¬ out p.B y) (unhideR HR1)))) (unhideR HM) (unhideR HK))
    go_wp2
    go_ret
    exact unhideR HF
  have HN1 := hideR (of_decide_eq_true (p := ¬ out p.B y) (unhideR HR1))
  clear HR1
  go_wp2
  have HB := hideR (fun q : out p.A z ∨ out p.B y => q.elim (unhideR HN0) (unhideR HN1))
  have c14 : W2.cell? ⟨g, 14, none⟩ = some (.int .i64 p.st) := ((unhideR HM).cell 14 (by decide)).1
  rw [rounds_succ]
  by_cases h3 : p.st = 3
  case' pos =>
    have e6 := (unhideR HE).e6
    have HF := hideR (unhideR HX2 _ (unhideR HB) h3 (unhideR HM) (unhideR HK))
    have t3 : (p.st == 3) = true := by simp [h3]
    clear h3
    go_wp2
    go_ret
    exact unhideR HF
  have HX := hideR (fun u => unhideR HX3 u (unhideR HB) h3)
  have t3 : (p.st == 3) = false := by simp [h3]
  clear h3 HX1 HX2 HX3 HB HE
  go_wp2
  clear c14
  refine wp_loop_rounds 3 ?_
  rw [rounds_succ]
  go_wp2_with fail
  refine wp_region_made 0 #[true, true, true, true, true, true, true, true, true, false] [.lets (· = .pointer (some ⟨g, 0, none⟩)),
    .lets (· = .int .i64 0),
    .lets (· = .int .i64 0),
    .lets (· = .pointer (some ⟨w.heap.size, 0, none⟩)),
    .lets (· = .int .i64 z),
    .lets (· = .pointer (some ⟨g, 0, none⟩)),
    .lets (· = .pointer (some ⟨g, 0, none⟩)),
    .lets (· = .pointer (some ⟨g, 0, none⟩)),
    .lets (· = .pointer (some ⟨g, 5, none⟩))] [] [] (by kernel_rfl) (by kernel_rfl) rfl ?kinds (by kernel_rfl) (by kernel_rfl) (by kernel_rfl) ?_
  case kinds =>
    constructor
    · intro i h
      rcases i with _ | _ | _ | _ | _ | _ | _ | _ | _ | i <;> simp [Kx.isMade] at h
    · intro i h
      rcases i with _ | _ | _ | _ | _ | _ | _ | _ | _ | i <;> simp [Kx.isUse] at h
  refine lexX_step (fun K hK => ⟨by kernel_rfl, ⟨_, rfl⟩, fun v hv => ?_, fun v hv => ?_⟩)
  · go_simp
    exact mUpon_b
  subst hv
  go_simp
  refine hK _ ?_
  clear hK K
  refine lexX_step (fun K hK => ⟨by kernel_rfl, ⟨_, rfl⟩, fun v hv => ?_, fun v hv => ?_⟩)
  · go_simp
    exact mUpon_b
  subst hv
  go_simp
  refine hK _ ?_
  clear hK K
  refine lexX_step (fun K hK => ⟨by kernel_rfl, ⟨_, rfl⟩, fun v hv => ?_, fun v hv => ?_⟩)
  · go_simp
    exact mUpon_b
  subst hv
  go_simp
  refine hK _ ?_
  clear hK K
  refine lexX_step (fun K hK => ⟨by kernel_rfl, ⟨_, rfl⟩, fun v hv => ?_, fun v hv => ?_⟩)
  · go_simp
    exact mUpon_b
  subst hv
  go_simp
  refine hK _ ?_
  clear hK K
  refine lexX_step (fun K hK => ⟨by kernel_rfl, ⟨_, rfl⟩, fun v hv => ?_, fun v hv => ?_⟩)
  · have c : v.cell? ⟨w.heap.size, 0, none⟩ = some (.int .i64 z) := (cells_at (keepB (unhideR HT) hv) 0 (by simp)).1
    go_simp
    exact mUpon_b
  subst hv
  go_simp
  refine hK _ ?_
  clear hK K
  refine lexX_step (fun K hK => ⟨by kernel_rfl, ⟨_, rfl⟩, fun v hv => ?_, fun v hv => ?_⟩)
  · go_simp
    exact mUpon_b
  subst hv
  go_simp
  refine hK _ ?_
  clear hK K
  refine lexX_step (fun K hK => ⟨by kernel_rfl, ⟨_, rfl⟩, fun v hv => ?_, fun v hv => ?_⟩)
  · go_simp
    exact mUpon_b
  subst hv
  go_simp
  refine hK _ ?_
  clear hK K
  refine lexX_step (fun K hK => ⟨by kernel_rfl, ⟨_, rfl⟩, fun v hv => ?_, fun v hv => ?_⟩)
  · go_simp
    exact mUpon_b
  subst hv
  go_simp
  refine hK _ ?_
  clear hK K
  refine lexX_step (fun K hK => ⟨by kernel_rfl, ⟨_, rfl⟩, fun v hv => ?_, fun v hv => ?_⟩)
  · go_simp
    exact mUpon_b
  subst hv
  go_simp
  refine hK _ ?_
  clear hK K
  refine lexX_end (fun v5 hv => ?_)
  have hq := ((unhideR HM).keep hv.low).cell 5 (by decide)
  have q1 : v5.cell? ⟨g, 5, none⟩ = some (.int .i64 p.ga) := hq.1
  have q2 : v5.frozen? ⟨g, 5, none⟩ = false := hq.2
  replace HM := hideR (((unhideR HM).keep hv.low).ga z)
  replace HK := hideR (((unhideR HK).go hv.low).put 5 (.int .i64 z))
  replace HT := hideR (((Chg.refl g v5).put 5 (.int .i64 z)).blk (keepB (unhideR HT) hv.low) (Nat.ne_of_gt hg))
  clear hv hq
  refine wpAny_step (i := 9) (by kernel_rfl) rfl (by kernel_rfl) (fun K hK => ?_)
  unfold Oper.wp
  go_simp
  refine hK _ _ ?_
  clear hK K
  refine wpAny_end (by kernel_rfl) ?_
  clear q1 q2
  generalize v5.setCell ⟨g, 5, none⟩ (.int .i64 z) = X1 at *
  go_wp2
  rw [rounds_succ]
  go_wp2_with fail
  refine wp_region_made 0 #[true, true, true, true, true, true, true, true, true, false] [.lets (· = .pointer (some ⟨g, 0, none⟩)),
    .lets (· = .int .i64 1),
    .lets (· = .int .i64 1),
    .lets (· = .pointer (some ⟨w.heap.size, 1, none⟩)),
    .lets (· = .int .i64 y),
    .lets (· = .pointer (some ⟨g, 0, none⟩)),
    .lets (· = .pointer (some ⟨g, 0, none⟩)),
    .lets (· = .pointer (some ⟨g, 7, none⟩)),
    .lets (· = .pointer (some ⟨g, 12, none⟩))] [] [] (by kernel_rfl) (by kernel_rfl) rfl ?kinds (by kernel_rfl) (by kernel_rfl) (by kernel_rfl) ?_
  case kinds =>
    constructor
    · intro i h
      rcases i with _ | _ | _ | _ | _ | _ | _ | _ | _ | i <;> simp [Kx.isMade] at h
    · intro i h
      rcases i with _ | _ | _ | _ | _ | _ | _ | _ | _ | i <;> simp [Kx.isUse] at h
  refine lexX_step (fun K hK => ⟨by kernel_rfl, ⟨_, rfl⟩, fun v hv => ?_, fun v hv => ?_⟩)
  · go_simp
    exact mUpon_b
  subst hv
  go_simp
  refine hK _ ?_
  clear hK K
  refine lexX_step (fun K hK => ⟨by kernel_rfl, ⟨_, rfl⟩, fun v hv => ?_, fun v hv => ?_⟩)
  · go_simp
    exact mUpon_b
  subst hv
  go_simp
  refine hK _ ?_
  clear hK K
  refine lexX_step (fun K hK => ⟨by kernel_rfl, ⟨_, rfl⟩, fun v hv => ?_, fun v hv => ?_⟩)
  · go_simp
    exact mUpon_b
  subst hv
  go_simp
  refine hK _ ?_
  clear hK K
  refine lexX_step (fun K hK => ⟨by kernel_rfl, ⟨_, rfl⟩, fun v hv => ?_, fun v hv => ?_⟩)
  · go_simp
    exact mUpon_b
  subst hv
  go_simp
  refine hK _ ?_
  clear hK K
  refine lexX_step (fun K hK => ⟨by kernel_rfl, ⟨_, rfl⟩, fun v hv => ?_, fun v hv => ?_⟩)
  · have c : v.cell? ⟨w.heap.size, 1, none⟩ = some (.int .i64 y) := (cells_at (keepB (unhideR HT) hv) 1 (by simp)).1
    go_simp
    exact mUpon_b
  subst hv
  go_simp
  refine hK _ ?_
  clear hK K
  refine lexX_step (fun K hK => ⟨by kernel_rfl, ⟨_, rfl⟩, fun v hv => ?_, fun v hv => ?_⟩)
  · go_simp
    exact mUpon_b
  subst hv
  go_simp
  refine hK _ ?_
  clear hK K
  refine lexX_step (fun K hK => ⟨by kernel_rfl, ⟨_, rfl⟩, fun v hv => ?_, fun v hv => ?_⟩)
  · go_simp
    exact mUpon_b
  subst hv
  go_simp
  refine hK _ ?_
  clear hK K
  refine lexX_step (fun K hK => ⟨by kernel_rfl, ⟨_, rfl⟩, fun v hv => ?_, fun v hv => ?_⟩)
  · go_simp
    exact mUpon_b
  subst hv
  go_simp
  refine hK _ ?_
  clear hK K
  refine lexX_step (fun K hK => ⟨by kernel_rfl, ⟨_, rfl⟩, fun v hv => ?_, fun v hv => ?_⟩)
  · go_simp
    exact mUpon_b
  subst hv
  go_simp
  refine hK _ ?_
  clear hK K
  refine lexX_end (fun v5 hv => ?_)
  have hq := ((unhideR HM).keep hv.low).cell 12 (by decide)
  have q1 : v5.cell? ⟨g, 12, none⟩ = some (.int .i64 p.gb) := hq.1
  have q2 : v5.frozen? ⟨g, 12, none⟩ = false := hq.2
  replace HM := hideR (((unhideR HM).keep hv.low).gb y)
  replace HK := hideR (((unhideR HK).go hv.low).put 12 (.int .i64 y))
  replace HT := hideR (((Chg.refl g v5).put 12 (.int .i64 y)).blk (keepB (unhideR HT) hv.low) (Nat.ne_of_gt hg))
  clear hv hq
  refine wpAny_step (i := 9) (by kernel_rfl) rfl (by kernel_rfl) (fun K hK => ?_)
  unfold Oper.wp
  go_simp
  refine hK _ _ ?_
  clear hK K
  refine wpAny_end (by kernel_rfl) ?_
  clear q1 q2
  generalize v5.setCell ⟨g, 12, none⟩ (.int .i64 y) = X2 at *
  go_wp2
  have c14 : X2.cell? ⟨g, 14, none⟩ = some (.int .i64 p.st) := ((unhideR HM).cell 14 (by decide)).1
  have f14 : X2.frozen? ⟨g, 14, none⟩ = false := ((unhideR HM).cell 14 (by decide)).2
  replace HM := hideR (unhideR HX _ ((unhideR HM).st 1) ((unhideR HK).put 14 (.int .i64 1)))
  rw [rounds_succ]
  go_wp2
  go_ret
  exact unhideR HM
def trackP (p : PM) (z y : Int) : PM × Int := if quick p.A z ∨ quick p.B y then (p, 6) else if (p.st = 4 ∨ p.st = 3) then (p, 7) else ({ p with pa := z, pb := y, st := 2 }, 0)
def TrackPost (g : Nat) (p : PM) (z y : Int) (a : Nat → Addr) (w : World) (e : Ending) (w' : World) : Prop := ∃ er, ErrIs a (trackP p z y).2 er ∧ e = .returned er ∧ PB w' g (trackP p z y).1 ∧ Chg g w w'
set_option maxRecDepth 100000 in
set_option maxHeartbeats 6400000 in
theorem track_any {g : Nat} {p : PM} {w : World} {a : Nat → Addr} (z y : Int) (hM : PB w g p) (hE : Errs5 w a) (hfa : 0 ≤ p.A.fast ∧ p.A.fast ≤ 1099511627776) (hfb : 0 ≤ p.B.fast ∧ p.B.fast ≤ 1099511627776) : Calls Tryd.prog 90 #[.pointer (some ⟨g, 0, none⟩), .agg #[.int .i64 z, .int .i64 y]] w (TrackPost g p z y a w) := by
  have hg : g < w.heap.size := ltB hM.blk
  have HM := hideR (hM.keep (below_a w (.cells #[.int .i64 z, .int .i64 y] 144)))
  have HK := hideR ((Chg.refl g w).go (below_a w (.cells #[.int .i64 z, .int .i64 y] 144)))
  have HT := hideR (alloc_last w (.cells #[.int .i64 z, .int .i64 y] 144))
  have HE := hideR (hE.below (below_a w (.cells #[.int .i64 z, .int .i64 y] 144)))
  have HX1 : HeldR (∀ u, (quick p.A z ∨ quick p.B y) → PB u g p → Chg g w u → TrackPost g p z y a w (.returned (.iface 205 (.pointer (some (a 5))))) u) := by
    intro u q h1 h2
    unfold TrackPost trackP
    rw [if_pos q]
    exact ⟨_, err_at 5 (by decide), rfl, h1, h2⟩
  have HX2 : HeldR (∀ u, ¬ (quick p.A z ∨ quick p.B y) → (p.st = 4 ∨ p.st = 3) → PB u g p → Chg g w u → TrackPost g p z y a w (.returned (.iface 205 (.pointer (some (a 6))))) u) := by
    intro u q q2 h1 h2
    unfold TrackPost trackP
    rw [if_neg q, if_pos q2]
    exact ⟨_, err_at 6 (by decide), rfl, h1, h2⟩
  have HX3 : HeldR (∀ u, ¬ (quick p.A z ∨ quick p.B y) → ¬ (p.st = 4 ∨ p.st = 3) → PB u g { p with pa := z, pb := y, st := 2 } → Chg g w u → TrackPost g p z y a w (.returned .nilIface) u) := by
    intro u q q2 h1 h2
    unfold TrackPost trackP
    rw [if_neg q, if_neg q2]
    exact ⟨_, .inl ⟨rfl, rfl⟩, rfl, h1, h2⟩
  have i0 := idx2a (.int .i64 p.A.lo) (.int .i64 p.A.hi) (.int .i64 p.A.fast) (.int .i64 p.A.home) (.int .i64 p.x) (.int .i64 p.ga) (.int .i64 p.pa) (.int .i64 p.B.lo) (.int .i64 p.B.hi) (.int .i64 p.B.fast) (.int .i64 p.B.home) (.int .i64 p.y) (.int .i64 p.gb) (.int .i64 p.pb)
  have i1 := idx2b (.int .i64 p.A.lo) (.int .i64 p.A.hi) (.int .i64 p.A.fast) (.int .i64 p.A.home) (.int .i64 p.x) (.int .i64 p.ga) (.int .i64 p.pa) (.int .i64 p.B.lo) (.int .i64 p.B.hi) (.int .i64 p.B.fast) (.int .i64 p.B.home) (.int .i64 p.y) (.int .i64 p.gb) (.int .i64 p.pb)
  have c0 : (w.alloc (.cells #[.int .i64 z, .int .i64 y] 144)).cell? ⟨g, 0, none⟩ = some (.int .i64 p.A.lo) := ((unhideR HM).cell 0 (by decide)).1
  have c1 : (w.alloc (.cells #[.int .i64 z, .int .i64 y] 144)).cell? ⟨g, 1, none⟩ = some (.int .i64 p.A.hi) := ((unhideR HM).cell 1 (by decide)).1
  have c2 : (w.alloc (.cells #[.int .i64 z, .int .i64 y] 144)).cell? ⟨g, 2, none⟩ = some (.int .i64 p.A.fast) := ((unhideR HM).cell 2 (by decide)).1
  have c3 : (w.alloc (.cells #[.int .i64 z, .int .i64 y] 144)).cell? ⟨g, 3, none⟩ = some (.int .i64 p.A.home) := ((unhideR HM).cell 3 (by decide)).1
  have c4 : (w.alloc (.cells #[.int .i64 z, .int .i64 y] 144)).cell? ⟨g, 4, none⟩ = some (.int .i64 p.x) := ((unhideR HM).cell 4 (by decide)).1
  have c5 : (w.alloc (.cells #[.int .i64 z, .int .i64 y] 144)).cell? ⟨g, 5, none⟩ = some (.int .i64 p.ga) := ((unhideR HM).cell 5 (by decide)).1
  have c6 : (w.alloc (.cells #[.int .i64 z, .int .i64 y] 144)).cell? ⟨g, 6, none⟩ = some (.int .i64 p.pa) := ((unhideR HM).cell 6 (by decide)).1
  have c7 : (w.alloc (.cells #[.int .i64 z, .int .i64 y] 144)).cell? ⟨g, 7, none⟩ = some (.int .i64 p.B.lo) := ((unhideR HM).cell 7 (by decide)).1
  have c8 : (w.alloc (.cells #[.int .i64 z, .int .i64 y] 144)).cell? ⟨g, 8, none⟩ = some (.int .i64 p.B.hi) := ((unhideR HM).cell 8 (by decide)).1
  have c9 : (w.alloc (.cells #[.int .i64 z, .int .i64 y] 144)).cell? ⟨g, 9, none⟩ = some (.int .i64 p.B.fast) := ((unhideR HM).cell 9 (by decide)).1
  have c10 : (w.alloc (.cells #[.int .i64 z, .int .i64 y] 144)).cell? ⟨g, 10, none⟩ = some (.int .i64 p.B.home) := ((unhideR HM).cell 10 (by decide)).1
  have c11 : (w.alloc (.cells #[.int .i64 z, .int .i64 y] 144)).cell? ⟨g, 11, none⟩ = some (.int .i64 p.y) := ((unhideR HM).cell 11 (by decide)).1
  have c12 : (w.alloc (.cells #[.int .i64 z, .int .i64 y] 144)).cell? ⟨g, 12, none⟩ = some (.int .i64 p.gb) := ((unhideR HM).cell 12 (by decide)).1
  have c13 : (w.alloc (.cells #[.int .i64 z, .int .i64 y] 144)).cell? ⟨g, 13, none⟩ = some (.int .i64 p.pb) := ((unhideR HM).cell 13 (by decide)).1
  clear hM hE
  go_enter Tryd.func90, Tryd.ntmps90
  go_wp2
  clear c0 c1 c2 c3 c4 c5 c6 c7 c8 c9 c10 c11 c12 c13
  generalize (w.alloc (.cells #[.int .i64 z, .int .i64 y] 144)) = W0 at *
  refine wp_loop_rounds 3 ?_
  rw [rounds_succ]
  go_wp2_with fail
  replace HM := hideR ((unhideR HM).keep (below_a W0 (.cells #[.int .i64 p.A.lo, .int .i64 p.A.hi, .int .i64 p.A.fast, .int .i64 p.A.home, .int .i64 p.x, .int .i64 p.ga, .int .i64 p.pa] 109)))
  replace HK := hideR ((unhideR HK).go (below_a W0 (.cells #[.int .i64 p.A.lo, .int .i64 p.A.hi, .int .i64 p.A.fast, .int .i64 p.A.home, .int .i64 p.x, .int .i64 p.ga, .int .i64 p.pa] 109)))
  replace HT := hideR (keepB (unhideR HT) (below_a W0 (.cells #[.int .i64 p.A.lo, .int .i64 p.A.hi, .int .i64 p.A.fast, .int .i64 p.A.home, .int .i64 p.x, .int .i64 p.ga, .int .i64 p.pa] 109)))
  replace HE := hideR ((unhideR HE).below (below_a W0 (.cells #[.int .i64 p.A.lo, .int .i64 p.A.hi, .int .i64 p.A.fast, .int .i64 p.A.home, .int .i64 p.x, .int .i64 p.ga, .int .i64 p.pa] 109)))
  have HXa := hideR (alloc_last W0 (.cells #[.int .i64 p.A.lo, .int .i64 p.A.hi, .int .i64 p.A.fast, .int .i64 p.A.home, .int .i64 p.x, .int .i64 p.ga, .int .i64 p.pa] 109))
  generalize W0.alloc (.cells #[.int .i64 p.A.lo, .int .i64 p.A.hi, .int .i64 p.A.fast, .int .i64 p.A.home, .int .i64 p.x, .int .i64 p.ga, .int .i64 p.pa] 109) = V0 at *
  generalize W0.heap.size = b0 at *
  have hr := fun u => within_any z p.A.fast u (by omega) (by omega)
  obtain ⟨r0, hq0⟩ : ∃ r : Bool, decide (-p.A.fast ≤ z ∧ z ≤ p.A.fast) = r := ⟨_, rfl⟩
  rw [hq0] at hr
  have HR0 := hideR hq0
  clear hq0
  refine wp_region_letsB V0.heap.size [(· = .int .i64 0), (· = .pointer (some ⟨w.heap.size, 0, none⟩)), (· = .int .i64 z), (· = .pointer (some ⟨b0, 0, none⟩)), (· = .pointer (some ⟨b0, 2, none⟩)), (· = .int .i64 p.A.fast), (· = .bool r0), (· = .bool !r0)] (by kernel_rfl) (by kernel_rfl) ?_
  refine lexB_step (fun K hK => ⟨by kernel_rfl, ⟨_, rfl⟩, fun v hv => ?_, fun v hv => ?_⟩)
  · go_simp
    exact lUpon_b hv
  subst hv
  go_simp
  refine hK _ ?_
  clear hK K
  refine lexB_step (fun K hK => ⟨by kernel_rfl, ⟨_, rfl⟩, fun v hv => ?_, fun v hv => ?_⟩)
  · go_simp
    exact lUpon_b hv
  subst hv
  go_simp
  refine hK _ ?_
  clear hK K
  refine lexB_step (fun K hK => ⟨by kernel_rfl, ⟨_, rfl⟩, fun v hv => ?_, fun v hv => ?_⟩)
  · have c : v.cell? ⟨w.heap.size, 0, none⟩ = some (.int .i64 z) := (cells_at (keepB (unhideR HT) hv) 0 (by simp)).1
    go_simp
    exact lUpon_b hv
  subst hv
  go_simp
  refine hK _ ?_
  clear hK K
  refine lexB_step (fun K hK => ⟨by kernel_rfl, ⟨_, rfl⟩, fun v hv => ?_, fun v hv => ?_⟩)
  · go_simp
    exact lUpon_b hv
  subst hv
  go_simp
  refine hK _ ?_
  clear hK K
  refine lexB_step (fun K hK => ⟨by kernel_rfl, ⟨_, rfl⟩, fun v hv => ?_, fun v hv => ?_⟩)
  · go_simp
    exact lUpon_b hv
  subst hv
  go_simp
  refine hK _ ?_
  clear hK K
  refine lexB_step (fun K hK => ⟨by kernel_rfl, ⟨_, rfl⟩, fun v hv => ?_, fun v hv => ?_⟩)
  · have y : v.cell? ⟨b0, 2, none⟩ = some (.int .i64 p.A.fast) := (cells_at (keepB (unhideR HXa) hv) 2 (by simp)).1
    go_simp
    exact lUpon_b hv
  subst hv
  go_simp
  refine hK _ ?_
  clear hK K
  refine lexB_step (fun K hK => ⟨by kernel_rfl, ⟨_, rfl⟩, fun v hv => ?_, fun v hv => ?_⟩)
  · go_simp
    refine (hr _).mono ?_
    rintro e w9 ⟨rfl, rfl⟩
    exact ⟨_, rfl, rfl, hv⟩
  subst hv
  go_simp
  refine hK _ ?_
  clear hK K
  refine lexB_step (fun K hK => ⟨by kernel_rfl, ⟨_, rfl⟩, fun v hv => ?_, fun v hv => ?_⟩)
  · go_simp
    exact lUpon_b hv
  subst hv
  go_simp
  refine hK _ ?_
  clear hK K
  refine lexL_end ?_
  intro W1 hW1
  replace HM := hideR ((unhideR HM).keep hW1)
  replace HK := hideR ((unhideR HK).go hW1)
  replace HT := hideR (keepB (unhideR HT) hW1)
  replace HE := hideR ((unhideR HE).below hW1)
  clear HXa hr hW1
  cases r0
  case' false =>
    have e5 := (unhideR HE).e5
    have HF := hideR (unhideR HX1 _ (.inl (is_quick (of_decide_eq_false (unhideR HR0)))) (unhideR HM) (unhideR HK))
    go_wp2
    go_ret
    exact unhideR HF
  have HN0 := hideR (not_quick (of_decide_eq_true (unhideR HR0)))
  clear HR0
  go_wp2
  rw [rounds_succ]
  go_wp2_with fail
  replace HM := hideR ((unhideR HM).keep (below_a W1 (.cells #[.int .i64 p.B.lo, .int .i64 p.B.hi, .int .i64 p.B.fast, .int .i64 p.B.home, .int .i64 p.y, .int .i64 p.gb, .int .i64 p.pb] 109)))
  replace HK := hideR ((unhideR HK).go (below_a W1 (.cells #[.int .i64 p.B.lo, .int .i64 p.B.hi, .int .i64 p.B.fast, .int .i64 p.B.home, .int .i64 p.y, .int .i64 p.gb, .int .i64 p.pb] 109)))
  replace HT := hideR (keepB (unhideR HT) (below_a W1 (.cells #[.int .i64 p.B.lo, .int .i64 p.B.hi, .int .i64 p.B.fast, .int .i64 p.B.home, .int .i64 p.y, .int .i64 p.gb, .int .i64 p.pb] 109)))
  replace HE := hideR ((unhideR HE).below (below_a W1 (.cells #[.int .i64 p.B.lo, .int .i64 p.B.hi, .int .i64 p.B.fast, .int .i64 p.B.home, .int .i64 p.y, .int .i64 p.gb, .int .i64 p.pb] 109)))
  have HXa := hideR (alloc_last W1 (.cells #[.int .i64 p.B.lo, .int .i64 p.B.hi, .int .i64 p.B.fast, .int .i64 p.B.home, .int .i64 p.y, .int .i64 p.gb, .int .i64 p.pb] 109))
  generalize W1.alloc (.cells #[.int .i64 p.B.lo, .int .i64 p.B.hi, .int .i64 p.B.fast, .int .i64 p.B.home, .int .i64 p.y, .int .i64 p.gb, .int .i64 p.pb] 109) = V1 at *
  generalize W1.heap.size = b1 at *
  have hr := fun u => within_any y p.B.fast u (by omega) (by omega)
  obtain ⟨r1, hq1⟩ : ∃ r : Bool, decide (-p.B.fast ≤ y ∧ y ≤ p.B.fast) = r := ⟨_, rfl⟩
  rw [hq1] at hr
  have HR1 := hideR hq1
  clear hq1
  refine wp_region_letsB V1.heap.size [(· = .int .i64 1), (· = .pointer (some ⟨w.heap.size, 1, none⟩)), (· = .int .i64 y), (· = .pointer (some ⟨b1, 0, none⟩)), (· = .pointer (some ⟨b1, 2, none⟩)), (· = .int .i64 p.B.fast), (· = .bool r1), (· = .bool !r1)] (by kernel_rfl) (by kernel_rfl) ?_
  refine lexB_step (fun K hK => ⟨by kernel_rfl, ⟨_, rfl⟩, fun v hv => ?_, fun v hv => ?_⟩)
  · go_simp
    exact lUpon_b hv
  subst hv
  go_simp
  refine hK _ ?_
  clear hK K
  refine lexB_step (fun K hK => ⟨by kernel_rfl, ⟨_, rfl⟩, fun v hv => ?_, fun v hv => ?_⟩)
  · go_simp
    exact lUpon_b hv
  subst hv
  go_simp
  refine hK _ ?_
  clear hK K
  refine lexB_step (fun K hK => ⟨by kernel_rfl, ⟨_, rfl⟩, fun v hv => ?_, fun v hv => ?_⟩)
  · have c : v.cell? ⟨w.heap.size, 1, none⟩ = some (.int .i64 y) := (cells_at (keepB (unhideR HT) hv) 1 (by simp)).1
    go_simp
    exact lUpon_b hv
  subst hv
  go_simp
  refine hK _ ?_
  clear hK K
  refine lexB_step (fun K hK => ⟨by kernel_rfl, ⟨_, rfl⟩, fun v hv => ?_, fun v hv => ?_⟩)
  · go_simp
    exact lUpon_b hv
  subst hv
  go_simp
  refine hK _ ?_
  clear hK K
  refine lexB_step (fun K hK => ⟨by kernel_rfl, ⟨_, rfl⟩, fun v hv => ?_, fun v hv => ?_⟩)
  · go_simp
    exact lUpon_b hv
  subst hv
  go_simp
  refine hK _ ?_
  clear hK K
  refine lexB_step (fun K hK => ⟨by kernel_rfl, ⟨_, rfl⟩, fun v hv => ?_, fun v hv => ?_⟩)
  · have y : v.cell? ⟨b1, 2, none⟩ = some (.int .i64 p.B.fast) := (cells_at (keepB (unhideR HXa) hv) 2 (by simp)).1
    go_simp
    exact lUpon_b hv
  subst hv
  go_simp
  refine hK _ ?_
  clear hK K
  refine lexB_step (fun K hK => ⟨by kernel_rfl, ⟨_, rfl⟩, fun v hv => ?_, fun v hv => ?_⟩)
  · go_simp
    refine (hr _).mono ?_
    rintro e w9 ⟨rfl, rfl⟩
    exact ⟨_, rfl, rfl, hv⟩
  subst hv
  go_simp
  refine hK _ ?_
  clear hK K
  refine lexB_step (fun K hK => ⟨by kernel_rfl, ⟨_, rfl⟩, fun v hv => ?_, fun v hv => ?_⟩)
  · go_simp
    exact lUpon_b hv
  subst hv
  go_simp
  refine hK _ ?_
  clear hK K
  refine lexL_end ?_
  intro W2 hW2
  replace HM := hideR ((unhideR HM).keep hW2)
  replace HK := hideR ((unhideR HK).go hW2)
  replace HT := hideR (keepB (unhideR HT) hW2)
  replace HE := hideR ((unhideR HE).below hW2)
  clear HXa hr hW2
  cases r1
  case' false =>
    have e5 := (unhideR HE).e5
    have HF := hideR (unhideR HX1 _ (.inr (is_quick (of_decide_eq_false (unhideR HR1)))) (unhideR HM) (unhideR HK))
    go_wp2
    go_ret
    exact unhideR HF
  have HN1 := hideR (not_quick (of_decide_eq_true (unhideR HR1)))
  clear HR1
  go_wp2
  have HB := hideR (fun q : quick p.A z ∨ quick p.B y => q.elim (unhideR HN0) (unhideR HN1))
  have c14 : W2.cell? ⟨g, 14, none⟩ = some (.int .i64 p.st) := ((unhideR HM).cell 14 (by decide)).1
  rw [rounds_succ]
  by_cases h4 : p.st = 4
  case' pos =>
    have e6 := (unhideR HE).e6
    have HF := hideR (unhideR HX2 _ (unhideR HB) (.inl h4) (unhideR HM) (unhideR HK))
    have t4 : (p.st == 4) = true := by simp [h4]
    clear h4
    go_wp2
    go_ret
    exact unhideR HF
  by_cases h3 : p.st = 3
  case' pos =>
    have e6 := (unhideR HE).e6
    have HF := hideR (unhideR HX2 _ (unhideR HB) (.inr h3) (unhideR HM) (unhideR HK))
    have t4 : (p.st == 4) = false := by simp [h4]
    have t3 : (p.st == 3) = true := by simp [h3]
    clear h3 h4
    go_wp2
    go_ret
    exact unhideR HF
  have HX := hideR (fun u => unhideR HX3 u (unhideR HB) (fun q => q.elim h4 h3))
  have t4 : (p.st == 4) = false := by simp [h4]
  have t3 : (p.st == 3) = false := by simp [h3]
  clear h3 h4 HX1 HX2 HX3 HB HE
  go_wp2
  clear c14
  refine wp_loop_rounds 3 ?_
  rw [rounds_succ]
  go_wp2_with fail
  refine wp_region_made 0 #[true, true, true, true, true, true, true, true, true, false] [.lets (· = .pointer (some ⟨g, 0, none⟩)),
    .lets (· = .int .i64 0),
    .lets (· = .int .i64 0),
    .lets (· = .pointer (some ⟨w.heap.size, 0, none⟩)),
    .lets (· = .int .i64 z),
    .lets (· = .pointer (some ⟨g, 0, none⟩)),
    .lets (· = .pointer (some ⟨g, 0, none⟩)),
    .lets (· = .pointer (some ⟨g, 0, none⟩)),
    .lets (· = .pointer (some ⟨g, 6, none⟩))] [] [] (by kernel_rfl) (by kernel_rfl) rfl ?kinds (by kernel_rfl) (by kernel_rfl) (by kernel_rfl) ?_
  case kinds =>
    constructor
    · intro i h
      rcases i with _ | _ | _ | _ | _ | _ | _ | _ | _ | i <;> simp [Kx.isMade] at h
    · intro i h
      rcases i with _ | _ | _ | _ | _ | _ | _ | _ | _ | i <;> simp [Kx.isUse] at h
  refine lexX_step (fun K hK => ⟨by kernel_rfl, ⟨_, rfl⟩, fun v hv => ?_, fun v hv => ?_⟩)
  · go_simp
    exact mUpon_b
  subst hv
  go_simp
  refine hK _ ?_
  clear hK K
  refine lexX_step (fun K hK => ⟨by kernel_rfl, ⟨_, rfl⟩, fun v hv => ?_, fun v hv => ?_⟩)
  · go_simp
    exact mUpon_b
  subst hv
  go_simp
  refine hK _ ?_
  clear hK K
  refine lexX_step (fun K hK => ⟨by kernel_rfl, ⟨_, rfl⟩, fun v hv => ?_, fun v hv => ?_⟩)
  · go_simp
    exact mUpon_b
  subst hv
  go_simp
  refine hK _ ?_
  clear hK K
  refine lexX_step (fun K hK => ⟨by kernel_rfl, ⟨_, rfl⟩, fun v hv => ?_, fun v hv => ?_⟩)
  · go_simp
    exact mUpon_b
  subst hv
  go_simp
  refine hK _ ?_
  clear hK K
  refine lexX_step (fun K hK => ⟨by kernel_rfl, ⟨_, rfl⟩, fun v hv => ?_, fun v hv => ?_⟩)
  · have c : v.cell? ⟨w.heap.size, 0, none⟩ = some (.int .i64 z) := (cells_at (keepB (unhideR HT) hv) 0 (by simp)).1
    go_simp
    exact mUpon_b
  subst hv
  go_simp
  refine hK _ ?_
  clear hK K
  refine lexX_step (fun K hK => ⟨by kernel_rfl, ⟨_, rfl⟩, fun v hv => ?_, fun v hv => ?_⟩)
  · go_simp
    exact mUpon_b
  subst hv
  go_simp
  refine hK _ ?_
  clear hK K
  refine lexX_step (fun K hK => ⟨by kernel_rfl, ⟨_, rfl⟩, fun v hv => ?_, fun v hv => ?_⟩)
  · go_simp
    exact mUpon_b
  subst hv
  go_simp
  refine hK _ ?_
  clear hK K
  refine lexX_step (fun K hK => ⟨by kernel_rfl, ⟨_, rfl⟩, fun v hv => ?_, fun v hv => ?_⟩)
  · go_simp
    exact mUpon_b
  subst hv
  go_simp
  refine hK _ ?_
  clear hK K
  refine lexX_step (fun K hK => ⟨by kernel_rfl, ⟨_, rfl⟩, fun v hv => ?_, fun v hv => ?_⟩)
  · go_simp
    exact mUpon_b
  subst hv
  go_simp
  refine hK _ ?_
  clear hK K
  refine lexX_end (fun v5 hv => ?_)
  have hq := ((unhideR HM).keep hv.low).cell 6 (by decide)
  have q1 : v5.cell? ⟨g, 6, none⟩ = some (.int .i64 p.pa) := hq.1
  have q2 : v5.frozen? ⟨g, 6, none⟩ = false := hq.2
  replace HM := hideR (((unhideR HM).keep hv.low).pa z)
  replace HK := hideR (((unhideR HK).go hv.low).put 6 (.int .i64 z))
  replace HT := hideR (((Chg.refl g v5).put 6 (.int .i64 z)).blk (keepB (unhideR HT) hv.low) (Nat.ne_of_gt hg))
  clear hv hq
  refine wpAny_step (i := 9) (by kernel_rfl) rfl (by kernel_rfl) (fun K hK => ?_)
  unfold Oper.wp
  go_simp
  refine hK _ _ ?_
  clear hK K
  refine wpAny_end (by kernel_rfl) ?_
  clear q1 q2
  generalize v5.setCell ⟨g, 6, none⟩ (.int .i64 z) = X1 at *
  go_wp2
  rw [rounds_succ]
  go_wp2_with fail
  refine wp_region_made 0 #[true, true, true, true, true, true, true, true, true, false] [.lets (· = .pointer (some ⟨g, 0, none⟩)),
    .lets (· = .int .i64 1),
    .lets (· = .int .i64 1),
    .lets (· = .pointer (some ⟨w.heap.size, 1, none⟩)),
    .lets (· = .int .i64 y),
    .lets (· = .pointer (some ⟨g, 0, none⟩)),
    .lets (· = .pointer (some ⟨g, 0, none⟩)),
    .lets (· = .pointer (some ⟨g, 7, none⟩)),
    .lets (· = .pointer (some ⟨g, 13, none⟩))] [] [] (by kernel_rfl) (by kernel_rfl) rfl ?kinds (by kernel_rfl) (by kernel_rfl) (by kernel_rfl) ?_
  case kinds =>
    constructor
    · intro i h
      rcases i with _ | _ | _ | _ | _ | _ | _ | _ | _ | i <;> simp [Kx.isMade] at h
    · intro i h
      rcases i with _ | _ | _ | _ | _ | _ | _ | _ | _ | i <;> simp [Kx.isUse] at h
  refine lexX_step (fun K hK => ⟨by kernel_rfl, ⟨_, rfl⟩, fun v hv => ?_, fun v hv => ?_⟩)
  · go_simp
    exact mUpon_b
  subst hv
  go_simp
  refine hK _ ?_
  clear hK K
  refine lexX_step (fun K hK => ⟨by kernel_rfl, ⟨_, rfl⟩, fun v hv => ?_, fun v hv => ?_⟩)
  · go_simp
    exact mUpon_b
  subst hv
  go_simp
  refine hK _ ?_
  clear hK K
  refine lexX_step (fun K hK => ⟨by kernel_rfl, ⟨_, rfl⟩, fun v hv => ?_, fun v hv => ?_⟩)
  · go_simp
    exact mUpon_b
  subst hv
  go_simp
  refine hK _ ?_
  clear hK K
  refine lexX_step (fun K hK => ⟨by kernel_rfl, ⟨_, rfl⟩, fun v hv => ?_, fun v hv => ?_⟩)
  · go_simp
    exact mUpon_b
  subst hv
  go_simp
  refine hK _ ?_
  clear hK K
  refine lexX_step (fun K hK => ⟨by kernel_rfl, ⟨_, rfl⟩, fun v hv => ?_, fun v hv => ?_⟩)
  · have c : v.cell? ⟨w.heap.size, 1, none⟩ = some (.int .i64 y) := (cells_at (keepB (unhideR HT) hv) 1 (by simp)).1
    go_simp
    exact mUpon_b
  subst hv
  go_simp
  refine hK _ ?_
  clear hK K
  refine lexX_step (fun K hK => ⟨by kernel_rfl, ⟨_, rfl⟩, fun v hv => ?_, fun v hv => ?_⟩)
  · go_simp
    exact mUpon_b
  subst hv
  go_simp
  refine hK _ ?_
  clear hK K
  refine lexX_step (fun K hK => ⟨by kernel_rfl, ⟨_, rfl⟩, fun v hv => ?_, fun v hv => ?_⟩)
  · go_simp
    exact mUpon_b
  subst hv
  go_simp
  refine hK _ ?_
  clear hK K
  refine lexX_step (fun K hK => ⟨by kernel_rfl, ⟨_, rfl⟩, fun v hv => ?_, fun v hv => ?_⟩)
  · go_simp
    exact mUpon_b
  subst hv
  go_simp
  refine hK _ ?_
  clear hK K
  refine lexX_step (fun K hK => ⟨by kernel_rfl, ⟨_, rfl⟩, fun v hv => ?_, fun v hv => ?_⟩)
  · go_simp
    exact mUpon_b
  subst hv
  go_simp
  refine hK _ ?_
  clear hK K
  refine lexX_end (fun v5 hv => ?_)
  have hq := ((unhideR HM).keep hv.low).cell 13 (by decide)
  have q1 : v5.cell? ⟨g, 13, none⟩ = some (.int .i64 p.pb) := hq.1
  have q2 : v5.frozen? ⟨g, 13, none⟩ = false := hq.2
  replace HM := hideR (((unhideR HM).keep hv.low).pb y)
  replace HK := hideR (((unhideR HK).go hv.low).put 13 (.int .i64 y))
  replace HT := hideR (((Chg.refl g v5).put 13 (.int .i64 y)).blk (keepB (unhideR HT) hv.low) (Nat.ne_of_gt hg))
  clear hv hq
  refine wpAny_step (i := 9) (by kernel_rfl) rfl (by kernel_rfl) (fun K hK => ?_)
  unfold Oper.wp
  go_simp
  refine hK _ _ ?_
  clear hK K
  refine wpAny_end (by kernel_rfl) ?_
  clear q1 q2
  generalize v5.setCell ⟨g, 13, none⟩ (.int .i64 y) = X2 at *
  go_wp2
  have c14 : X2.cell? ⟨g, 14, none⟩ = some (.int .i64 p.st) := ((unhideR HM).cell 14 (by decide)).1
  have f14 : X2.frozen? ⟨g, 14, none⟩ = false := ((unhideR HM).cell 14 (by decide)).2
  replace HM := hideR (unhideR HX _ ((unhideR HM).st 2) ((unhideR HK).put 14 (.int .i64 2)))
  rw [rounds_succ]
  go_wp2
  go_ret
  exact unhideR HM
end Go.Proofs.YteoappoijihomahDoor
