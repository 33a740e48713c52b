/-
  The program's mount: a command is taken, by contract.
-/
import Derived.Test.YteoappoijihomahDoorDM3
import Derived.Test.YteoappoijihomahDoorLoose8
namespace Go.Proofs.YteoappoijihomahDoor
open Go Go.RowKit

theorem err_same {a : Nat → Addr} {E : Int} {x y : Value} (h : ErrIs a E x) (k : ErrIs a E y) : x = y := by
  rcases h with ⟨h0, rfl⟩ | ⟨i, _, hi, rfl⟩ <;> rcases k with ⟨k0, rfl⟩ | ⟨j, _, hj, rfl⟩
  · rfl
  · omega
  · omega
  · have : i = j := by omega
    subst this
    rfl
theorem chg_cell {g : Nat} {w v : World} (h : Chg g w v) {p : Addr} (hp : p.block < w.heap.size) (hn : p.block ≠ g) : v.cell? p = w.cell? p := World.cell?_of_block (w := w) (h.block p.block hp hn)
theorem Errs5.chg {w u : World} {a : Nat → Addr} {g : Nat} {p : PM} (h : Errs5 w a) (hM : PB w g p) (k : Chg g w u) : Errs5 u a := by
  have c0 : w.cell? ⟨g, 0, none⟩ = some (.int .i64 p.A.lo) := (hM.cell 0 (by decide)).1
  have ne : ∀ b x, w.cell? ⟨b, 0, none⟩ = some (.iface 205 x) → b ≠ g := by
    intro b x e q
    rw [q, c0] at e
    cases e
  exact ⟨(chg_cell k (p := ⟨1, 0, none⟩) h.b1 (ne _ _ h.e1)).trans h.e1, (chg_cell k (p := ⟨0, 0, none⟩) h.b4 (ne _ _ h.e4)).trans h.e4, (chg_cell k (p := ⟨6, 0, none⟩) h.b5 (ne _ _ h.e5)).trans h.e5, (chg_cell k (p := ⟨2, 0, none⟩) h.b6 (ne _ _ h.e6)).trans h.e6, (chg_cell k (p := ⟨9, 0, none⟩) h.b9 (ne _ _ h.e9)).trans h.e9, Nat.lt_of_lt_of_le h.b1 k.size, Nat.lt_of_lt_of_le h.b4 k.size, Nat.lt_of_lt_of_le h.b5 k.size, Nat.lt_of_lt_of_le h.b6 k.size, Nat.lt_of_lt_of_le h.b9 k.size⟩
theorem err_flat {a : Nat → Addr} {E : Int} {x : Value} (h : ErrIs a E x) : x.cells = #[x] := by
  rcases h with ⟨_, rfl⟩ | ⟨k, _, _, rfl⟩ <;> rfl
theorem err_cell1 {a : Nat → Addr} {E : Int} {x : Value} (h : ErrIs a E x) : x.oneCell' = true := by
  rcases h with ⟨_, rfl⟩ | ⟨k, _, _, rfl⟩ <;> rfl
theorem doP_err {a : Nat → Addr} (p : PM) (c : Cmd) : ∃ er, ErrIs a (doP p c).2 er := by
  have h0 : ErrIs a 0 .nilIface := .inl ⟨rfl, rfl⟩
  have h6 : ErrIs a 6 (.iface 205 (.pointer (some (a 5)))) := err_at 5 (by decide)
  have h7 : ErrIs a 7 (.iface 205 (.pointer (some (a 6)))) := err_at 6 (by decide)
  have h10 : ErrIs a 10 (.iface 205 (.pointer (some (a 9)))) := err_at 9 (by decide)
  unfold doP slewP trackP stopP
  repeat' split
  all_goals first | exact ⟨_, h0⟩ | exact ⟨_, h6⟩ | exact ⟨_, h7⟩ | exact ⟨_, h10⟩
/-- what was taken last, in memory. -/
def Tk (w : World) (h : Nat) (n : Int) (er : Value) : Prop := w.heap[h]? = some (.cells #[.int .i64 n, er] 119)
theorem five_other {w : World} {b c : Nat} {o : Obj} {x0 x1 x2 x3 x4 : Value} (h : w.heap[c]? = some o) (hb : c ≠ b) : (((((w.setCell ⟨b, 0, none⟩ x0).setCell ⟨b, 1, none⟩ x1).setCell ⟨b, 2, none⟩ x2).setCell ⟨b, 3, none⟩ x3).setCell ⟨b, 4, none⟩ x4).heap[c]? = some o :=
  blk_other (blk_other (blk_other (blk_other (blk_other h hb) hb) hb) hb) hb
def TNew (g : Nat) (p : PM) (c : CmdS) (a : Nat → Addr) (w : World) (e : Ending) (w' : World) : Prop := ∃ (er : Value) (h : Nat), ErrIs a (doP { p with left := p.pat } c.cmd).2 er ∧
  e = .returned (.agg #[.int .i64 c.num, er, .int .i64 (doP { p with left := p.pat } c.cmd).1.x, .int .i64 (doP { p with left := p.pat } c.cmd).1.y, .int .i64 (doP { p with left := p.pat } c.cmd).1.st]) ∧
  PB w' g { (doP { p with left := p.pat } c.cmd).1 with last := .pointer (some ⟨h, 0, none⟩) } ∧ Tk w' h c.num er ∧ Chg g w w'
def TOld (g : Nat) (p : PM) (c : CmdS) (h : Nat) (n : Int) (er x : Value) (w : World) (e : Ending) (w' : World) : Prop :=
  e = .returned (.agg #[.int .i64 c.num, x, .int .i64 p.x, .int .i64 p.y, .int .i64 p.st]) ∧ PB w' g p ∧ Tk w' h n er ∧ Chg g w w'
theorem two_cells {w : World} {b : Nat} {x0 x1 : Value} {ty : TypeId} (h : w.heap[b]? = some (.cells #[x0, x1] ty)) : w.cell? ⟨b, 0, none⟩ = some x0 ∧ w.cell? ⟨b, 1, none⟩ = some x1 :=
  ⟨(cells_at h 0 (by simp)).1, (cells_at h 1 (by simp)).1⟩
set_option maxRecDepth 100000 in
set_option maxHeartbeats 6400000 in
theorem ptake_first {g : Nat} {p : PM} {w : World} {a : Nat → Addr} (hM : PB w g p) (hE : Errs5 w a) (c : CmdS) (hfa : 0 ≤ p.A.fast ∧ p.A.fast ≤ 1099511627776) (hfb : 0 ≤ p.B.fast ∧ p.B.fast ≤ 1099511627776) (hl : p.last = .pointer none) :
    Calls Tryd.prog 30 #[.pointer (some ⟨g, 0, none⟩), c.val] w fun e w' => TNew g p c a w e w' := by
  have k0 : Below w.heap.size w ((w.alloc (.cells #[.int .i64 c.num, .string c.s, .int .i64 c.a, .int .i64 c.b] 74)).alloc (.cells #[.int .i64 0, .nilIface, .int .i64 0, .int .i64 0, .int .i64 0] 72)) := below_al2 w _ _
  have HM := hideR (hM.keep k0)
  have HK := hideR ((Chg.refl g w).go k0)
  have HE := hideR (hE.below k0)
  have HC : HeldR (((w.alloc (.cells #[.int .i64 c.num, .string c.s, .int .i64 c.a, .int .i64 c.b] 74)).alloc (.cells #[.int .i64 0, .nilIface, .int .i64 0, .int .i64 0, .int .i64 0] 72)).heap[w.heap.size]? = some (.cells #[.int .i64 c.num, .string c.s, .int .i64 c.a, .int .i64 c.b] 74)) := keepA (alloc_last w _)
  have HZ := hideR (alloc_snd w (.cells #[.int .i64 c.num, .string c.s, .int .i64 c.a, .int .i64 c.b] 74) (.cells #[.int .i64 0, .nilIface, .int .i64 0, .int .i64 0, .int .i64 0] 72))
  have hg : g < w.heap.size := ltB hM.blk
  have HQ : HeldR (∀ u, Chg g w u → Errs5 u a) := fun u k => hE.chg hM k
  obtain ⟨er, her⟩ := doP_err (a := a) { p with left := p.pat } c.cmd
  have HER := hideR her
  have hfl := err_flat her
  unfold Value.cells at hfl
  obtain ⟨P1, hP1⟩ : ∃ P1, P1 = (doP { p with left := p.pat } c.cmd).1 := ⟨_, rfl⟩
  have hdo : ∀ u : World, PB u g { p with left := p.pat } → Errs5 u a → Calls Tryd.prog 66 #[.pointer (some ⟨g, 0, none⟩), .agg #[.int .i64 c.num, .string c.s, .int .i64 c.a, .int .i64 c.b]] u fun e w' => e = .returned er ∧ PB w' g P1 ∧ Chg g u w' := by
    intro u h1 h2
    refine (pdo_any h1 h2 c hfa hfb).mono ?_
    rintro e w1 ⟨er', he', rfl, k1, k2⟩
    rw [hP1, err_same her he']
    exact ⟨rfl, k1, k2⟩
  have HPO : HeldR (∀ (h : Nat) (w' : World), PB w' g { P1 with last := .pointer (some ⟨h, 0, none⟩) } → Tk w' h c.num er → Chg g w w' → TNew g p c a w (.returned (.agg #[.int .i64 c.num, er, .int .i64 P1.x, .int .i64 P1.y, .int .i64 P1.st])) w') := by
    intro h w' h1 h2 h3
    rw [hP1] at h1 ⊢
    exact ⟨er, h, her, rfl, h1, h2, h3⟩
  clear hP1 her
  unfold CmdS.val
  go_enter Tryd.func30, Tryd.ntmps30
  go_wp2_with fail
  generalize (w.alloc (.cells #[.int .i64 c.num, .string c.s, .int .i64 c.a, .int .i64 c.b] 74)).alloc (.cells #[.int .i64 0, .nilIface, .int .i64 0, .int .i64 0, .int .i64 0] 72) = W1 at *
  have c17 : W1.cell? ⟨g, 17, none⟩ = some p.last := ((unhideR HM).cell 17 (by decide)).1
  rw [hl] at c17
  refine wp_region_lets [(· = .pointer (some ⟨g, 0, none⟩)),
    (· = .pointer (some ⟨g, 0, none⟩)),
    (· = .pointer (some ⟨g, 17, none⟩)),
    (· = .pointer none),
    (· = .bool true),
    (· = .bool true),
    (· = undef),
    (· = undef),
    (· = undef),
    (· = undef),
    (· = undef),
    (· = undef),
    (· = undef),
    (· = undef),
    (· = undef),
    (· = undef),
    (· = .bool true)] (by kernel_rfl) (by kernel_rfl) ?_
  refine lexL_step (fun K hK => ⟨by kernel_rfl, ⟨_, rfl⟩, fun n => ?_, fun v hv => ?_⟩)
  · go_simp
    exact lUpon_one
  subst hv
  go_simp
  refine hK _ ?_
  clear hK K
  refine lexL_step (fun K hK => ⟨by kernel_rfl, ⟨_, rfl⟩, fun n => ?_, fun v hv => ?_⟩)
  · go_simp
    exact lUpon_one
  subst hv
  go_simp
  refine hK _ ?_
  clear hK K
  refine lexL_step (fun K hK => ⟨by kernel_rfl, ⟨_, rfl⟩, fun n => ?_, fun v hv => ?_⟩)
  · go_simp
    exact lUpon_one
  subst hv
  go_simp
  refine hK _ ?_
  clear hK K
  refine lexL_step (fun K hK => ⟨by kernel_rfl, ⟨_, rfl⟩, fun n => ?_, fun v hv => ?_⟩)
  · go_simp
    exact lUpon_one
  subst hv
  go_simp
  refine hK _ ?_
  clear hK K
  refine lexL_step (fun K hK => ⟨by kernel_rfl, ⟨_, rfl⟩, fun n => ?_, fun v hv => ?_⟩)
  · go_simp
    exact lUpon_one
  subst hv
  go_simp
  refine hK _ ?_
  clear hK K
  refine lexL_step (fun K hK => ⟨by kernel_rfl, ⟨_, rfl⟩, fun n => ?_, fun v hv => ?_⟩)
  · go_simp
    exact lUpon_one
  subst hv
  go_simp
  refine hK _ ?_
  clear hK K
  refine lexL_skip (fun K hK => ⟨by kernel_rfl, ?_⟩)
  go_simp
  refine hK _ ?_
  clear hK K
  refine lexL_skip (fun K hK => ⟨by kernel_rfl, ?_⟩)
  go_simp
  refine hK _ ?_
  clear hK K
  refine lexL_skip (fun K hK => ⟨by kernel_rfl, ?_⟩)
  go_simp
  refine hK _ ?_
  clear hK K
  refine lexL_skip (fun K hK => ⟨by kernel_rfl, ?_⟩)
  go_simp
  refine hK _ ?_
  clear hK K
  refine lexL_skip (fun K hK => ⟨by kernel_rfl, ?_⟩)
  go_simp
  refine hK _ ?_
  clear hK K
  refine lexL_skip (fun K hK => ⟨by kernel_rfl, ?_⟩)
  go_simp
  refine hK _ ?_
  clear hK K
  refine lexL_skip (fun K hK => ⟨by kernel_rfl, ?_⟩)
  go_simp
  refine hK _ ?_
  clear hK K
  refine lexL_skip (fun K hK => ⟨by kernel_rfl, ?_⟩)
  go_simp
  refine hK _ ?_
  clear hK K
  refine lexL_skip (fun K hK => ⟨by kernel_rfl, ?_⟩)
  go_simp
  refine hK _ ?_
  clear hK K
  refine lexL_skip (fun K hK => ⟨by kernel_rfl, ?_⟩)
  go_simp
  refine hK _ ?_
  clear hK K
  refine lexL_step (fun K hK => ⟨by kernel_rfl, ⟨_, rfl⟩, fun n => ?_, fun v hv => ?_⟩)
  · go_simp
    exact lUpon_one
  subst hv
  go_simp
  refine hK _ ?_
  clear hK K
  refine lexL_end ?_
  intro n1
  clear c17
  replace HM := hideR ((unhideR HM).keep (drawn_below W1 n1))
  replace HK := hideR ((unhideR HK).go (drawn_below W1 n1))
  replace HE := hideR ((unhideR HE).below (drawn_below W1 n1))
  replace HC := hideR (keepB (unhideR HC) (drawn_below W1 n1))
  replace HZ := hideR (keepB (unhideR HZ) (drawn_below W1 n1))
  generalize W1.drewN n1 = W2 at *
  have c15 : W2.cell? ⟨g, 15, none⟩ = some (.int .i64 p.pat) := ((unhideR HM).cell 15 (by decide)).1
  have c16 : W2.cell? ⟨g, 16, none⟩ = some (.int .i64 p.left) := ((unhideR HM).cell 16 (by decide)).1
  have f16 : W2.frozen? ⟨g, 16, none⟩ = false := ((unhideR HM).cell 16 (by decide)).2
  have kP := (Chg.refl g W2).put 16 (.int .i64 p.pat)
  replace HM := hideR ((unhideR HM).left p.pat)
  replace HK := hideR ((unhideR HK).trans kP)
  replace HC := hideR (kP.blk (unhideR HC) (Nat.ne_of_gt hg))
  replace HZ := hideR (kP.blk (unhideR HZ) (by omega))
  replace HE := hideR (unhideR HQ _ (unhideR HK))
  clear kP
  go_wp2_with fail
  clear c15 c16 f16
  generalize W2.setCell ⟨g, 16, none⟩ (.int .i64 p.pat) = W3 at *
  have HZ0 := HZ
  refine C.wp_region_chg g (ltB (unhideR HM).blk) (fun u => PB u g { p with left := p.pat } ∧ Errs5 u a) (fun _ _ h k => ⟨h.1.keep k, h.2.below k⟩) ⟨unhideR HM, unhideR HE⟩ 0 #[true, true, true, true, true, true, true, true, true, true, false] [.lets (· = .pointer (some ⟨g, 0, none⟩)),
    .lets (· = .pointer (some ⟨w.heap.size, 0, none⟩)),
    .lets (· = .int .i64 c.num),
    .lets (· = .pointer (some ⟨g, 0, none⟩)),
    .lets (· = .agg #[.int .i64 c.num, .string c.s, .int .i64 c.a, .int .i64 c.b]),
    .made (· = er) (fun _ u => PB u g P1),
    .lets (· = .agg #[.int .i64 c.num, er]),
    .new (.cells #[.int .i64 c.num, er] 119),
    .lets (· = .pointer (some ⟨g, 0, none⟩)),
    .lets (· = .pointer (some ⟨g, 17, none⟩))] 5 (by kernel_rfl) (by kernel_rfl) rfl ?kinds (by kernel_rfl) (by kernel_rfl) ?_
  case kinds =>
    intro j h
    rcases j with _ | _ | _ | _ | _ | _ | _ | _ | _ | _ | j <;> simp [C.Kx.isMade] at h ⊢
  refine C.lexX_step (fun K hK => ⟨by kernel_rfl, ⟨_, rfl⟩, fun v hv => ?_, fun v hv => ?_⟩)
  · go_simp
    exact mUpon_b
  subst hv
  go_simp
  refine hK _ ?_
  clear hK K
  refine C.lexX_step (fun K hK => ⟨by kernel_rfl, ⟨_, rfl⟩, fun v hv => ?_, fun v hv => ?_⟩)
  · go_simp
    exact mUpon_b
  subst hv
  go_simp
  refine hK _ ?_
  clear hK K
  refine C.lexX_step (fun K hK => ⟨by kernel_rfl, ⟨_, rfl⟩, fun v hv => ?_, fun v hv => ?_⟩)
  · have c0 := (four_cells (hv.blk (unhideR HC) (Nat.ne_of_gt hg))).1
    go_simp
    exact mUpon_b
  subst hv
  go_simp
  refine hK _ ?_
  clear hK K
  refine C.lexX_step (fun K hK => ⟨by kernel_rfl, ⟨_, rfl⟩, fun v hv => ?_, fun v hv => ?_⟩)
  · go_simp
    exact mUpon_b
  subst hv
  go_simp
  refine hK _ ?_
  clear hK K
  refine C.lexX_step (fun K hK => ⟨by kernel_rfl, ⟨_, rfl⟩, fun v hv => ?_, fun v hv => ?_⟩)
  · obtain ⟨c0, c1, c2, c3⟩ := four_cells (hv.blk (unhideR HC) (Nat.ne_of_gt hg))
    go_simp
    exact mUpon_b
  subst hv
  go_simp
  refine hK _ ?_
  clear hK K
  refine C.lexX_made ⟨by kernel_rfl, ⟨_, rfl⟩, fun v => fun _ _ h k => h.keep k, fun v hv hγ => ?_, fun v hv K hK => ?_⟩
  · go_simp
    refine (hdo _ hγ.1 hγ.2).mono ?_
    rintro e w9 ⟨rfl, h9, k9⟩
    exact ⟨_, rfl, ⟨rfl, h9⟩, k9⟩
  replace hv := hv.symm
  subst hv
  go_simp
  refine hK _ ?_
  clear hK K
  refine C.lexX_step (fun K hK => ⟨by kernel_rfl, ⟨_, rfl⟩, fun v hv => ?_, fun v hv => ?_⟩)
  · go_simp
    exact mUpon_b
  subst hv
  go_simp
  refine hK _ ?_
  clear hK K
  refine C.lexX_new (fin0.some _) (fun b20 fb20 K hK => ⟨by kernel_rfl, fun v => ?_, ?_⟩)
  · go_simp
    first
      | exact ⟨rfl, rfl⟩
      | rfl
  unfold ptr
  go_simp
  refine hK _ ?_
  clear hK K
  refine C.lexX_step (fun K hK => ⟨by kernel_rfl, ⟨_, rfl⟩, fun v hv => ?_, fun v hv => ?_⟩)
  · go_simp
    exact mUpon_b
  subst hv
  go_simp
  refine hK _ ?_
  clear hK K
  refine C.lexX_step (fun K hK => ⟨by kernel_rfl, ⟨_, rfl⟩, fun v hv => ?_, fun v hv => ?_⟩)
  · go_simp
    exact mUpon_b
  subst hv
  go_simp
  refine hK _ ?_
  clear hK K
  refine C.lexX_end (fun v5 hv => ?_)
  have hz0 : v5.heap[b20]? = some (.cells #[.int .i64 c.num, er] 119 (0, 0)) := hv.held b20 _ (by unfold Hd.put; rw [if_pos rfl])
  have hge := fb20.ge
  have HP := hideR hv.fact
  have hq := (unhideR HP).cell 17 (by decide)
  obtain ⟨ol, hol⟩ : ∃ ol, v5.cell? ⟨g, 17, none⟩ = some ol := ⟨_, hq.1⟩
  have q2 : v5.frozen? ⟨g, 17, none⟩ = false := hq.2
  clear hq
  refine wpAny_step (i := 10) (by kernel_rfl) rfl (by kernel_rfl) (fun K hK => ?_)
  unfold Oper.wp
  go_simp
  refine hK _ _ ?_
  clear hK K
  refine wpAny_end (by kernel_rfl) ?_
  clear hol q2
  have hgb : b20 ≠ g := by have := ltB (unhideR HM).blk; omega
  have kP := (Chg.refl g v5).put 17 (.pointer (some ⟨b20, 0, none⟩))
  replace HK := hideR (((unhideR HK).trans hv.low).trans kP)
  replace HM := hideR ((unhideR HP).last (.pointer (some ⟨b20, 0, none⟩)))
  replace HC := hideR (kP.blk (hv.low.blk (unhideR HC) (Nat.ne_of_gt hg)) (Nat.ne_of_gt hg))
  replace HZ := hideR (kP.blk (hv.low.blk (unhideR HZ) (by omega)) (by omega))
  have HT : HeldR (Tk (v5.setCell ⟨g, 17, none⟩ (.pointer (some ⟨b20, 0, none⟩))) b20 c.num er) := kP.blk hz0 hgb
  have hb20 : w.heap.size + 1 < b20 := by have := ltB (unhideR HZ0); omega
  clear hv hz0 hge kP HP hdo fb20 hgb HE HZ0
  generalize v5.setCell ⟨g, 17, none⟩ (.pointer (some ⟨b20, 0, none⟩)) = W4 at *
  go_wp2_with fail
  have hll : decide (c.num < c.num) = false := decide_eq_false (by omega)
  have c17 : W4.cell? ⟨g, 17, none⟩ = some (.pointer (some ⟨b20, 0, none⟩)) := ((unhideR HM).cell 17 (by decide)).1
  have c0 := (two_cells (unhideR HT)).1
  have d0 := (four_cells (unhideR HC)).1
  refine wp_region_lets [(· = .pointer (some ⟨w.heap.size, 0, none⟩)),
    (· = .int .i64 c.num),
    (· = .pointer (some ⟨g, 0, none⟩)),
    (· = .pointer (some ⟨g, 0, none⟩)),
    (· = .pointer (some ⟨g, 17, none⟩)),
    (· = .pointer (some ⟨b20, 0, none⟩)),
    (· = .pointer (some ⟨b20, 0, none⟩)),
    (· = .pointer (some ⟨b20, 0, none⟩)),
    (· = .int .i64 c.num),
    (· = .bool false)] (by kernel_rfl) (by kernel_rfl) ?_
  refine lexL_step (fun K hK => ⟨by kernel_rfl, ⟨_, rfl⟩, fun n => ?_, fun v hv => ?_⟩)
  · go_simp
    exact lUpon_one
  subst hv
  go_simp
  refine hK _ ?_
  clear hK K
  refine lexL_step (fun K hK => ⟨by kernel_rfl, ⟨_, rfl⟩, fun n => ?_, fun v hv => ?_⟩)
  · go_simp
    exact lUpon_one
  subst hv
  go_simp
  refine hK _ ?_
  clear hK K
  refine lexL_step (fun K hK => ⟨by kernel_rfl, ⟨_, rfl⟩, fun n => ?_, fun v hv => ?_⟩)
  · go_simp
    exact lUpon_one
  subst hv
  go_simp
  refine hK _ ?_
  clear hK K
  refine lexL_step (fun K hK => ⟨by kernel_rfl, ⟨_, rfl⟩, fun n => ?_, fun v hv => ?_⟩)
  · go_simp
    exact lUpon_one
  subst hv
  go_simp
  refine hK _ ?_
  clear hK K
  refine lexL_step (fun K hK => ⟨by kernel_rfl, ⟨_, rfl⟩, fun n => ?_, fun v hv => ?_⟩)
  · go_simp
    exact lUpon_one
  subst hv
  go_simp
  refine hK _ ?_
  clear hK K
  refine lexL_step (fun K hK => ⟨by kernel_rfl, ⟨_, rfl⟩, fun n => ?_, fun v hv => ?_⟩)
  · go_simp
    exact lUpon_one
  subst hv
  go_simp
  refine hK _ ?_
  clear hK K
  refine lexL_step (fun K hK => ⟨by kernel_rfl, ⟨_, rfl⟩, fun n => ?_, fun v hv => ?_⟩)
  · go_simp
    exact lUpon_one
  subst hv
  go_simp
  refine hK _ ?_
  clear hK K
  refine lexL_step (fun K hK => ⟨by kernel_rfl, ⟨_, rfl⟩, fun n => ?_, fun v hv => ?_⟩)
  · go_simp
    exact lUpon_one
  subst hv
  go_simp
  refine hK _ ?_
  clear hK K
  refine lexL_step (fun K hK => ⟨by kernel_rfl, ⟨_, rfl⟩, fun n => ?_, fun v hv => ?_⟩)
  · go_simp
    exact lUpon_one
  subst hv
  go_simp
  refine hK _ ?_
  clear hK K
  refine lexL_step (fun K hK => ⟨by kernel_rfl, ⟨_, rfl⟩, fun n => ?_, fun v hv => ?_⟩)
  · go_simp
    exact lUpon_one
  subst hv
  go_simp
  refine hK _ ?_
  clear hK K
  refine lexL_end ?_
  intro n4
  clear c17 c0 d0
  replace HM := hideR ((unhideR HM).keep (drawn_below W4 n4))
  replace HK := hideR ((unhideR HK).go (drawn_below W4 n4))
  replace HC := hideR (keepB (unhideR HC) (drawn_below W4 n4))
  replace HZ := hideR (keepB (unhideR HZ) (drawn_below W4 n4))
  replace HT := hideR (keepB (unhideR HT) (drawn_below W4 n4))
  generalize W4.drewN n4 = W5 at *
  go_wp2_with fail
  have hrep : ∀ u : World, PB u g { P1 with last := .pointer (some ⟨b20, 0, none⟩) } → Calls Tryd.prog 67 #[.pointer (some ⟨g, 0, none⟩), .int .i64 c.num, er] u fun e w' => e = .returned (.agg #[.int .i64 c.num, er, .int .i64 P1.x, .int .i64 P1.y, .int .i64 P1.st]) ∧ Below u.heap.size u w' := fun u hu => preply_any hu c.num er (unhideR HER)
  refine wp_region_made 0 #[true, true, true, true, true, true, true, true, true, true, true, false] [.lets (· = .pointer (some ⟨g, 0, none⟩)),
    .lets (· = .pointer (some ⟨w.heap.size, 0, none⟩)),
    .lets (· = .int .i64 c.num),
    .lets (· = .pointer (some ⟨g, 0, none⟩)),
    .lets (· = .pointer (some ⟨g, 0, none⟩)),
    .lets (· = .pointer (some ⟨g, 17, none⟩)),
    .lets (· = .pointer (some ⟨b20, 0, none⟩)),
    .lets (· = .pointer (some ⟨b20, 0, none⟩)),
    .lets (· = .pointer (some ⟨b20, 1, none⟩)),
    .lets (· = er),
    .lets (· = .agg #[.int .i64 c.num, er, .int .i64 P1.x, .int .i64 P1.y, .int .i64 P1.st])] [] [] (by kernel_rfl) (by kernel_rfl) rfl ?kinds (by kernel_rfl) (by kernel_rfl) (by kernel_rfl) ?_
  case kinds =>
    constructor
    · intro i h
      rcases i with _ | _ | _ | _ | _ | _ | _ | _ | _ | _ | _ | i <;> simp [Kx.isMade] at h
    · intro i h
      rcases i with _ | _ | _ | _ | _ | _ | _ | _ | _ | _ | _ | i <;> simp [Kx.isUse] at h
  refine lexX_step (fun K hK => ⟨by kernel_rfl, ⟨_, rfl⟩, fun v hv => ?_, fun v hv => ?_⟩)
  · go_simp
    exact mUpon_b
  subst hv
  go_simp
  refine hK _ ?_
  clear hK K
  refine lexX_step (fun K hK => ⟨by kernel_rfl, ⟨_, rfl⟩, fun v hv => ?_, fun v hv => ?_⟩)
  · go_simp
    exact mUpon_b
  subst hv
  go_simp
  refine hK _ ?_
  clear hK K
  refine lexX_step (fun K hK => ⟨by kernel_rfl, ⟨_, rfl⟩, fun v hv => ?_, fun v hv => ?_⟩)
  · have c0 := (four_cells (keepB (unhideR HC) hv)).1
    go_simp
    exact mUpon_b
  subst hv
  go_simp
  refine hK _ ?_
  clear hK K
  refine lexX_step (fun K hK => ⟨by kernel_rfl, ⟨_, rfl⟩, fun v hv => ?_, fun v hv => ?_⟩)
  · go_simp
    exact mUpon_b
  subst hv
  go_simp
  refine hK _ ?_
  clear hK K
  refine lexX_step (fun K hK => ⟨by kernel_rfl, ⟨_, rfl⟩, fun v hv => ?_, fun v hv => ?_⟩)
  · go_simp
    exact mUpon_b
  subst hv
  go_simp
  refine hK _ ?_
  clear hK K
  refine lexX_step (fun K hK => ⟨by kernel_rfl, ⟨_, rfl⟩, fun v hv => ?_, fun v hv => ?_⟩)
  · go_simp
    exact mUpon_b
  subst hv
  go_simp
  refine hK _ ?_
  clear hK K
  refine lexX_step (fun K hK => ⟨by kernel_rfl, ⟨_, rfl⟩, fun v hv => ?_, fun v hv => ?_⟩)
  · have c17 : v.cell? ⟨g, 17, none⟩ = some (.pointer (some ⟨b20, 0, none⟩)) := (((unhideR HM).keep hv).cell 17 (by decide)).1
    go_simp
    exact mUpon_b
  subst hv
  go_simp
  refine hK _ ?_
  clear hK K
  refine lexX_step (fun K hK => ⟨by kernel_rfl, ⟨_, rfl⟩, fun v hv => ?_, fun v hv => ?_⟩)
  · go_simp
    exact mUpon_b
  subst hv
  go_simp
  refine hK _ ?_
  clear hK K
  refine lexX_step (fun K hK => ⟨by kernel_rfl, ⟨_, rfl⟩, fun v hv => ?_, fun v hv => ?_⟩)
  · go_simp
    exact mUpon_b
  subst hv
  go_simp
  refine hK _ ?_
  clear hK K
  refine lexX_step (fun K hK => ⟨by kernel_rfl, ⟨_, rfl⟩, fun v hv => ?_, fun v hv => ?_⟩)
  · have c1 := (two_cells (keepB (unhideR HT) hv)).2
    go_simp
    exact mUpon_b
  replace hv := hv.symm
  subst hv
  go_simp
  refine hK _ ?_
  clear hK K
  refine lexX_step (fun K hK => ⟨by kernel_rfl, ⟨_, rfl⟩, fun v hv => ?_, fun v hv => ?_⟩)
  · go_simp
    refine (hrep _ ((unhideR HM).keep hv)).mono ?_
    rintro e w9 ⟨rfl, k⟩
    exact ⟨_, rfl, rfl, k⟩
  subst hv
  go_simp
  refine hK _ ?_
  clear hK K
  refine lexX_end (fun v5 hv => ?_)
  replace HM := hideR ((unhideR HM).keep hv.low)
  replace HK := hideR ((unhideR HK).go hv.low)
  replace HZ := hideR (keepB (unhideR HZ) hv.low)
  replace HT := hideR (keepB (unhideR HT) hv.low)
  obtain ⟨⟨y0, y1, y2, y3, y4⟩, y5, y6, y7, y8, y9⟩ := five_cells (unhideR HZ)
  have hst := fun (u : World) (ad : Addr) (md : Mode) => run_store Tryd.prog u ad er md (err_cell1 (unhideR HER))
  clear hv
  refine wpAny_step (i := 11) (by kernel_rfl) rfl (by kernel_rfl) (fun K hK => ?_)
  unfold Oper.wp
  go_simp
  refine hK _ _ ?_
  clear hK K
  refine wpAny_end (by kernel_rfl) ?_
  replace HM : HeldR (PB (((((v5.setCell ⟨w.heap.size + 1, 0, none⟩ (.int .i64 c.num)).setCell ⟨w.heap.size + 1, 1, none⟩ er).setCell ⟨w.heap.size + 1, 2, none⟩ (.int .i64 P1.x)).setCell ⟨w.heap.size + 1, 3, none⟩ (.int .i64 P1.y)).setCell ⟨w.heap.size + 1, 4, none⟩ (.int .i64 P1.st)) g _) := ⟨five_other (unhideR HM).blk (by omega)⟩
  replace HK := hideR ((unhideR HK).five (b := w.heap.size + 1) (by omega) (.int .i64 c.num) er (.int .i64 P1.x) (.int .i64 P1.y) (.int .i64 P1.st))
  replace HT : HeldR (Tk (((((v5.setCell ⟨w.heap.size + 1, 0, none⟩ (.int .i64 c.num)).setCell ⟨w.heap.size + 1, 1, none⟩ er).setCell ⟨w.heap.size + 1, 2, none⟩ (.int .i64 P1.x)).setCell ⟨w.heap.size + 1, 3, none⟩ (.int .i64 P1.y)).setCell ⟨w.heap.size + 1, 4, none⟩ (.int .i64 P1.st)) b20 c.num er) := five_other (unhideR HT) (by omega)
  go_wp2
  simp [bodyPost, results, Tryd.results30, go_sem, y0, y1, y2, y3, y4]
  exact unhideR HPO _ _ (unhideR HM) (unhideR HT) (unhideR HK)
set_option maxRecDepth 100000 in
set_option maxHeartbeats 6400000 in
theorem ptake_more {g : Nat} {p : PM} {w : World} {a : Nat → Addr} (hM : PB w g p) (hE : Errs5 w a) (c : CmdS) (hfa : 0 ≤ p.A.fast ∧ p.A.fast ≤ 1099511627776) (hfb : 0 ≤ p.B.fast ∧ p.B.fast ≤ 1099511627776) {h : Nat} {n : Int} {er0 : Value} (hl : p.last = .pointer (some ⟨h, 0, none⟩)) (hT : Tk w h n er0) (hn : n < c.num) :
    Calls Tryd.prog 30 #[.pointer (some ⟨g, 0, none⟩), c.val] w fun e w' => TNew g p c a w e w' := by
  have k0 : Below w.heap.size w ((w.alloc (.cells #[.int .i64 c.num, .string c.s, .int .i64 c.a, .int .i64 c.b] 74)).alloc (.cells #[.int .i64 0, .nilIface, .int .i64 0, .int .i64 0, .int .i64 0] 72)) := below_al2 w _ _
  have HM := hideR (hM.keep k0)
  have HK := hideR ((Chg.refl g w).go k0)
  have HE := hideR (hE.below k0)
  have HC : HeldR (((w.alloc (.cells #[.int .i64 c.num, .string c.s, .int .i64 c.a, .int .i64 c.b] 74)).alloc (.cells #[.int .i64 0, .nilIface, .int .i64 0, .int .i64 0, .int .i64 0] 72)).heap[w.heap.size]? = some (.cells #[.int .i64 c.num, .string c.s, .int .i64 c.a, .int .i64 c.b] 74)) := keepA (alloc_last w _)
  have HZ := hideR (alloc_snd w (.cells #[.int .i64 c.num, .string c.s, .int .i64 c.a, .int .i64 c.b] 74) (.cells #[.int .i64 0, .nilIface, .int .i64 0, .int .i64 0, .int .i64 0] 72))
  have hg : g < w.heap.size := ltB hM.blk
  have HT := hideR (keepB (show w.heap[h]? = _ from hT) k0)
  have hlt : decide (n < c.num) = true := decide_eq_true hn
  have HQ : HeldR (∀ u, Chg g w u → Errs5 u a) := fun u k => hE.chg hM k
  obtain ⟨er, her⟩ := doP_err (a := a) { p with left := p.pat } c.cmd
  have HER := hideR her
  have hfl := err_flat her
  unfold Value.cells at hfl
  obtain ⟨P1, hP1⟩ : ∃ P1, P1 = (doP { p with left := p.pat } c.cmd).1 := ⟨_, rfl⟩
  have hdo : ∀ u : World, PB u g { p with left := p.pat } → Errs5 u a → Calls Tryd.prog 66 #[.pointer (some ⟨g, 0, none⟩), .agg #[.int .i64 c.num, .string c.s, .int .i64 c.a, .int .i64 c.b]] u fun e w' => e = .returned er ∧ PB w' g P1 ∧ Chg g u w' := by
    intro u h1 h2
    refine (pdo_any h1 h2 c hfa hfb).mono ?_
    rintro e w1 ⟨er', he', rfl, k1, k2⟩
    rw [hP1, err_same her he']
    exact ⟨rfl, k1, k2⟩
  have HPO : HeldR (∀ (h : Nat) (w' : World), PB w' g { P1 with last := .pointer (some ⟨h, 0, none⟩) } → Tk w' h c.num er → Chg g w w' → TNew g p c a w (.returned (.agg #[.int .i64 c.num, er, .int .i64 P1.x, .int .i64 P1.y, .int .i64 P1.st])) w') := by
    intro h w' h1 h2 h3
    rw [hP1] at h1 ⊢
    exact ⟨er, h, her, rfl, h1, h2, h3⟩
  clear hP1 her
  unfold CmdS.val
  go_enter Tryd.func30, Tryd.ntmps30
  go_wp2_with fail
  generalize (w.alloc (.cells #[.int .i64 c.num, .string c.s, .int .i64 c.a, .int .i64 c.b] 74)).alloc (.cells #[.int .i64 0, .nilIface, .int .i64 0, .int .i64 0, .int .i64 0] 72) = W1 at *
  have c17 : W1.cell? ⟨g, 17, none⟩ = some p.last := ((unhideR HM).cell 17 (by decide)).1
  rw [hl] at c17
  have c0 := (two_cells (unhideR HT)).1
  have d0 := (four_cells (unhideR HC)).1
  refine wp_region_lets [(· = .pointer (some ⟨g, 0, none⟩)),
    (· = .pointer (some ⟨g, 0, none⟩)),
    (· = .pointer (some ⟨g, 17, none⟩)),
    (· = .pointer (some ⟨h, 0, none⟩)),
    (· = .bool false),
    (· = .bool false),
    (· = .pointer (some ⟨w.heap.size, 0, none⟩)),
    (· = .int .i64 c.num),
    (· = .pointer (some ⟨g, 0, none⟩)),
    (· = .pointer (some ⟨g, 0, none⟩)),
    (· = .pointer (some ⟨g, 17, none⟩)),
    (· = .pointer (some ⟨h, 0, none⟩)),
    (· = .pointer (some ⟨h, 0, none⟩)),
    (· = .pointer (some ⟨h, 0, none⟩)),
    (· = .int .i64 n),
    (· = .bool true),
    (· = .bool true)] (by kernel_rfl) (by kernel_rfl) ?_
  refine lexL_step (fun K hK => ⟨by kernel_rfl, ⟨_, rfl⟩, fun n => ?_, fun v hv => ?_⟩)
  · go_simp
    exact lUpon_one
  subst hv
  go_simp
  refine hK _ ?_
  clear hK K
  refine lexL_step (fun K hK => ⟨by kernel_rfl, ⟨_, rfl⟩, fun n => ?_, fun v hv => ?_⟩)
  · go_simp
    exact lUpon_one
  subst hv
  go_simp
  refine hK _ ?_
  clear hK K
  refine lexL_step (fun K hK => ⟨by kernel_rfl, ⟨_, rfl⟩, fun n => ?_, fun v hv => ?_⟩)
  · go_simp
    exact lUpon_one
  subst hv
  go_simp
  refine hK _ ?_
  clear hK K
  refine lexL_step (fun K hK => ⟨by kernel_rfl, ⟨_, rfl⟩, fun n => ?_, fun v hv => ?_⟩)
  · go_simp
    exact lUpon_one
  subst hv
  go_simp
  refine hK _ ?_
  clear hK K
  refine lexL_step (fun K hK => ⟨by kernel_rfl, ⟨_, rfl⟩, fun n => ?_, fun v hv => ?_⟩)
  · go_simp
    exact lUpon_one
  subst hv
  go_simp
  refine hK _ ?_
  clear hK K
  refine lexL_step (fun K hK => ⟨by kernel_rfl, ⟨_, rfl⟩, fun n => ?_, fun v hv => ?_⟩)
  · go_simp
    exact lUpon_one
  subst hv
  go_simp
  refine hK _ ?_
  clear hK K
  refine lexL_step (fun K hK => ⟨by kernel_rfl, ⟨_, rfl⟩, fun n => ?_, fun v hv => ?_⟩)
  · go_simp
    exact lUpon_one
  subst hv
  go_simp
  refine hK _ ?_
  clear hK K
  refine lexL_step (fun K hK => ⟨by kernel_rfl, ⟨_, rfl⟩, fun n => ?_, fun v hv => ?_⟩)
  · go_simp
    exact lUpon_one
  subst hv
  go_simp
  refine hK _ ?_
  clear hK K
  refine lexL_step (fun K hK => ⟨by kernel_rfl, ⟨_, rfl⟩, fun n => ?_, fun v hv => ?_⟩)
  · go_simp
    exact lUpon_one
  subst hv
  go_simp
  refine hK _ ?_
  clear hK K
  refine lexL_step (fun K hK => ⟨by kernel_rfl, ⟨_, rfl⟩, fun n => ?_, fun v hv => ?_⟩)
  · go_simp
    exact lUpon_one
  subst hv
  go_simp
  refine hK _ ?_
  clear hK K
  refine lexL_step (fun K hK => ⟨by kernel_rfl, ⟨_, rfl⟩, fun n => ?_, fun v hv => ?_⟩)
  · go_simp
    exact lUpon_one
  subst hv
  go_simp
  refine hK _ ?_
  clear hK K
  refine lexL_step (fun K hK => ⟨by kernel_rfl, ⟨_, rfl⟩, fun n => ?_, fun v hv => ?_⟩)
  · go_simp
    exact lUpon_one
  subst hv
  go_simp
  refine hK _ ?_
  clear hK K
  refine lexL_step (fun K hK => ⟨by kernel_rfl, ⟨_, rfl⟩, fun n => ?_, fun v hv => ?_⟩)
  · go_simp
    exact lUpon_one
  subst hv
  go_simp
  refine hK _ ?_
  clear hK K
  refine lexL_step (fun K hK => ⟨by kernel_rfl, ⟨_, rfl⟩, fun n => ?_, fun v hv => ?_⟩)
  · go_simp
    exact lUpon_one
  subst hv
  go_simp
  refine hK _ ?_
  clear hK K
  refine lexL_step (fun K hK => ⟨by kernel_rfl, ⟨_, rfl⟩, fun n => ?_, fun v hv => ?_⟩)
  · go_simp
    exact lUpon_one
  subst hv
  go_simp
  refine hK _ ?_
  clear hK K
  refine lexL_step (fun K hK => ⟨by kernel_rfl, ⟨_, rfl⟩, fun n => ?_, fun v hv => ?_⟩)
  · go_simp
    exact lUpon_one
  subst hv
  go_simp
  refine hK _ ?_
  clear hK K
  refine lexL_step (fun K hK => ⟨by kernel_rfl, ⟨_, rfl⟩, fun n => ?_, fun v hv => ?_⟩)
  · go_simp
    exact lUpon_one
  subst hv
  go_simp
  refine hK _ ?_
  clear hK K
  refine lexL_end ?_
  intro n1
  clear c17 c0 d0
  replace HM := hideR ((unhideR HM).keep (drawn_below W1 n1))
  replace HK := hideR ((unhideR HK).go (drawn_below W1 n1))
  replace HE := hideR ((unhideR HE).below (drawn_below W1 n1))
  replace HC := hideR (keepB (unhideR HC) (drawn_below W1 n1))
  replace HZ := hideR (keepB (unhideR HZ) (drawn_below W1 n1))
  replace HT := hideR (keepB (unhideR HT) (drawn_below W1 n1))
  generalize W1.drewN n1 = W2 at *
  clear HT hlt
  have c15 : W2.cell? ⟨g, 15, none⟩ = some (.int .i64 p.pat) := ((unhideR HM).cell 15 (by decide)).1
  have c16 : W2.cell? ⟨g, 16, none⟩ = some (.int .i64 p.left) := ((unhideR HM).cell 16 (by decide)).1
  have f16 : W2.frozen? ⟨g, 16, none⟩ = false := ((unhideR HM).cell 16 (by decide)).2
  have kP := (Chg.refl g W2).put 16 (.int .i64 p.pat)
  replace HM := hideR ((unhideR HM).left p.pat)
  replace HK := hideR ((unhideR HK).trans kP)
  replace HC := hideR (kP.blk (unhideR HC) (Nat.ne_of_gt hg))
  replace HZ := hideR (kP.blk (unhideR HZ) (by omega))
  replace HE := hideR (unhideR HQ _ (unhideR HK))
  clear kP
  go_wp2_with fail
  clear c15 c16 f16
  generalize W2.setCell ⟨g, 16, none⟩ (.int .i64 p.pat) = W3 at *
  have HZ0 := HZ
  refine C.wp_region_chg g (ltB (unhideR HM).blk) (fun u => PB u g { p with left := p.pat } ∧ Errs5 u a) (fun _ _ h k => ⟨h.1.keep k, h.2.below k⟩) ⟨unhideR HM, unhideR HE⟩ 0 #[true, true, true, true, true, true, true, true, true, true, false] [.lets (· = .pointer (some ⟨g, 0, none⟩)),
    .lets (· = .pointer (some ⟨w.heap.size, 0, none⟩)),
    .lets (· = .int .i64 c.num),
    .lets (· = .pointer (some ⟨g, 0, none⟩)),
    .lets (· = .agg #[.int .i64 c.num, .string c.s, .int .i64 c.a, .int .i64 c.b]),
    .made (· = er) (fun _ u => PB u g P1),
    .lets (· = .agg #[.int .i64 c.num, er]),
    .new (.cells #[.int .i64 c.num, er] 119),
    .lets (· = .pointer (some ⟨g, 0, none⟩)),
    .lets (· = .pointer (some ⟨g, 17, none⟩))] 5 (by kernel_rfl) (by kernel_rfl) rfl ?kinds (by kernel_rfl) (by kernel_rfl) ?_
  case kinds =>
    intro j h
    rcases j with _ | _ | _ | _ | _ | _ | _ | _ | _ | _ | j <;> simp [C.Kx.isMade] at h ⊢
  refine C.lexX_step (fun K hK => ⟨by kernel_rfl, ⟨_, rfl⟩, fun v hv => ?_, fun v hv => ?_⟩)
  · go_simp
    exact mUpon_b
  subst hv
  go_simp
  refine hK _ ?_
  clear hK K
  refine C.lexX_step (fun K hK => ⟨by kernel_rfl, ⟨_, rfl⟩, fun v hv => ?_, fun v hv => ?_⟩)
  · go_simp
    exact mUpon_b
  subst hv
  go_simp
  refine hK _ ?_
  clear hK K
  refine C.lexX_step (fun K hK => ⟨by kernel_rfl, ⟨_, rfl⟩, fun v hv => ?_, fun v hv => ?_⟩)
  · have c0 := (four_cells (hv.blk (unhideR HC) (Nat.ne_of_gt hg))).1
    go_simp
    exact mUpon_b
  subst hv
  go_simp
  refine hK _ ?_
  clear hK K
  refine C.lexX_step (fun K hK => ⟨by kernel_rfl, ⟨_, rfl⟩, fun v hv => ?_, fun v hv => ?_⟩)
  · go_simp
    exact mUpon_b
  subst hv
  go_simp
  refine hK _ ?_
  clear hK K
  refine C.lexX_step (fun K hK => ⟨by kernel_rfl, ⟨_, rfl⟩, fun v hv => ?_, fun v hv => ?_⟩)
  · obtain ⟨c0, c1, c2, c3⟩ := four_cells (hv.blk (unhideR HC) (Nat.ne_of_gt hg))
    go_simp
    exact mUpon_b
  subst hv
  go_simp
  refine hK _ ?_
  clear hK K
  refine C.lexX_made ⟨by kernel_rfl, ⟨_, rfl⟩, fun v => fun _ _ h k => h.keep k, fun v hv hγ => ?_, fun v hv K hK => ?_⟩
  · go_simp
    refine (hdo _ hγ.1 hγ.2).mono ?_
    rintro e w9 ⟨rfl, h9, k9⟩
    exact ⟨_, rfl, ⟨rfl, h9⟩, k9⟩
  replace hv := hv.symm
  subst hv
  go_simp
  refine hK _ ?_
  clear hK K
  refine C.lexX_step (fun K hK => ⟨by kernel_rfl, ⟨_, rfl⟩, fun v hv => ?_, fun v hv => ?_⟩)
  · go_simp
    exact mUpon_b
  subst hv
  go_simp
  refine hK _ ?_
  clear hK K
  refine C.lexX_new (fin0.some _) (fun b20 fb20 K hK => ⟨by kernel_rfl, fun v => ?_, ?_⟩)
  · go_simp
    first
      | exact ⟨rfl, rfl⟩
      | rfl
  unfold ptr
  go_simp
  refine hK _ ?_
  clear hK K
  refine C.lexX_step (fun K hK => ⟨by kernel_rfl, ⟨_, rfl⟩, fun v hv => ?_, fun v hv => ?_⟩)
  · go_simp
    exact mUpon_b
  subst hv
  go_simp
  refine hK _ ?_
  clear hK K
  refine C.lexX_step (fun K hK => ⟨by kernel_rfl, ⟨_, rfl⟩, fun v hv => ?_, fun v hv => ?_⟩)
  · go_simp
    exact mUpon_b
  subst hv
  go_simp
  refine hK _ ?_
  clear hK K
  refine C.lexX_end (fun v5 hv => ?_)
  have hz0 : v5.heap[b20]? = some (.cells #[.int .i64 c.num, er] 119 (0, 0)) := hv.held b20 _ (by unfold Hd.put; rw [if_pos rfl])
  have hge := fb20.ge
  have HP := hideR hv.fact
  have hq := (unhideR HP).cell 17 (by decide)
  obtain ⟨ol, hol⟩ : ∃ ol, v5.cell? ⟨g, 17, none⟩ = some ol := ⟨_, hq.1⟩
  have q2 : v5.frozen? ⟨g, 17, none⟩ = false := hq.2
  clear hq
  refine wpAny_step (i := 10) (by kernel_rfl) rfl (by kernel_rfl) (fun K hK => ?_)
  unfold Oper.wp
  go_simp
  refine hK _ _ ?_
  clear hK K
  refine wpAny_end (by kernel_rfl) ?_
  clear hol q2
  have hgb : b20 ≠ g := by have := ltB (unhideR HM).blk; omega
  have kP := (Chg.refl g v5).put 17 (.pointer (some ⟨b20, 0, none⟩))
  replace HK := hideR (((unhideR HK).trans hv.low).trans kP)
  replace HM := hideR ((unhideR HP).last (.pointer (some ⟨b20, 0, none⟩)))
  replace HC := hideR (kP.blk (hv.low.blk (unhideR HC) (Nat.ne_of_gt hg)) (Nat.ne_of_gt hg))
  replace HZ := hideR (kP.blk (hv.low.blk (unhideR HZ) (by omega)) (by omega))
  have HT : HeldR (Tk (v5.setCell ⟨g, 17, none⟩ (.pointer (some ⟨b20, 0, none⟩))) b20 c.num er) := kP.blk hz0 hgb
  have hb20 : w.heap.size + 1 < b20 := by have := ltB (unhideR HZ0); omega
  clear hv hz0 hge kP HP hdo fb20 hgb HE HZ0
  generalize v5.setCell ⟨g, 17, none⟩ (.pointer (some ⟨b20, 0, none⟩)) = W4 at *
  go_wp2_with fail
  have hll : decide (c.num < c.num) = false := decide_eq_false (by omega)
  have c17 : W4.cell? ⟨g, 17, none⟩ = some (.pointer (some ⟨b20, 0, none⟩)) := ((unhideR HM).cell 17 (by decide)).1
  have c0 := (two_cells (unhideR HT)).1
  have d0 := (four_cells (unhideR HC)).1
  refine wp_region_lets [(· = .pointer (some ⟨w.heap.size, 0, none⟩)),
    (· = .int .i64 c.num),
    (· = .pointer (some ⟨g, 0, none⟩)),
    (· = .pointer (some ⟨g, 0, none⟩)),
    (· = .pointer (some ⟨g, 17, none⟩)),
    (· = .pointer (some ⟨b20, 0, none⟩)),
    (· = .pointer (some ⟨b20, 0, none⟩)),
    (· = .pointer (some ⟨b20, 0, none⟩)),
    (· = .int .i64 c.num),
    (· = .bool false)] (by kernel_rfl) (by kernel_rfl) ?_
  refine lexL_step (fun K hK => ⟨by kernel_rfl, ⟨_, rfl⟩, fun n => ?_, fun v hv => ?_⟩)
  · go_simp
    exact lUpon_one
  subst hv
  go_simp
  refine hK _ ?_
  clear hK K
  refine lexL_step (fun K hK => ⟨by kernel_rfl, ⟨_, rfl⟩, fun n => ?_, fun v hv => ?_⟩)
  · go_simp
    exact lUpon_one
  subst hv
  go_simp
  refine hK _ ?_
  clear hK K
  refine lexL_step (fun K hK => ⟨by kernel_rfl, ⟨_, rfl⟩, fun n => ?_, fun v hv => ?_⟩)
  · go_simp
    exact lUpon_one
  subst hv
  go_simp
  refine hK _ ?_
  clear hK K
  refine lexL_step (fun K hK => ⟨by kernel_rfl, ⟨_, rfl⟩, fun n => ?_, fun v hv => ?_⟩)
  · go_simp
    exact lUpon_one
  subst hv
  go_simp
  refine hK _ ?_
  clear hK K
  refine lexL_step (fun K hK => ⟨by kernel_rfl, ⟨_, rfl⟩, fun n => ?_, fun v hv => ?_⟩)
  · go_simp
    exact lUpon_one
  subst hv
  go_simp
  refine hK _ ?_
  clear hK K
  refine lexL_step (fun K hK => ⟨by kernel_rfl, ⟨_, rfl⟩, fun n => ?_, fun v hv => ?_⟩)
  · go_simp
    exact lUpon_one
  subst hv
  go_simp
  refine hK _ ?_
  clear hK K
  refine lexL_step (fun K hK => ⟨by kernel_rfl, ⟨_, rfl⟩, fun n => ?_, fun v hv => ?_⟩)
  · go_simp
    exact lUpon_one
  subst hv
  go_simp
  refine hK _ ?_
  clear hK K
  refine lexL_step (fun K hK => ⟨by kernel_rfl, ⟨_, rfl⟩, fun n => ?_, fun v hv => ?_⟩)
  · go_simp
    exact lUpon_one
  subst hv
  go_simp
  refine hK _ ?_
  clear hK K
  refine lexL_step (fun K hK => ⟨by kernel_rfl, ⟨_, rfl⟩, fun n => ?_, fun v hv => ?_⟩)
  · go_simp
    exact lUpon_one
  subst hv
  go_simp
  refine hK _ ?_
  clear hK K
  refine lexL_step (fun K hK => ⟨by kernel_rfl, ⟨_, rfl⟩, fun n => ?_, fun v hv => ?_⟩)
  · go_simp
    exact lUpon_one
  subst hv
  go_simp
  refine hK _ ?_
  clear hK K
  refine lexL_end ?_
  intro n4
  clear c17 c0 d0
  replace HM := hideR ((unhideR HM).keep (drawn_below W4 n4))
  replace HK := hideR ((unhideR HK).go (drawn_below W4 n4))
  replace HC := hideR (keepB (unhideR HC) (drawn_below W4 n4))
  replace HZ := hideR (keepB (unhideR HZ) (drawn_below W4 n4))
  replace HT := hideR (keepB (unhideR HT) (drawn_below W4 n4))
  generalize W4.drewN n4 = W5 at *
  go_wp2_with fail
  have hrep : ∀ u : World, PB u g { P1 with last := .pointer (some ⟨b20, 0, none⟩) } → Calls Tryd.prog 67 #[.pointer (some ⟨g, 0, none⟩), .int .i64 c.num, er] u fun e w' => e = .returned (.agg #[.int .i64 c.num, er, .int .i64 P1.x, .int .i64 P1.y, .int .i64 P1.st]) ∧ Below u.heap.size u w' := fun u hu => preply_any hu c.num er (unhideR HER)
  refine wp_region_made 0 #[true, true, true, true, true, true, true, true, true, true, true, false] [.lets (· = .pointer (some ⟨g, 0, none⟩)),
    .lets (· = .pointer (some ⟨w.heap.size, 0, none⟩)),
    .lets (· = .int .i64 c.num),
    .lets (· = .pointer (some ⟨g, 0, none⟩)),
    .lets (· = .pointer (some ⟨g, 0, none⟩)),
    .lets (· = .pointer (some ⟨g, 17, none⟩)),
    .lets (· = .pointer (some ⟨b20, 0, none⟩)),
    .lets (· = .pointer (some ⟨b20, 0, none⟩)),
    .lets (· = .pointer (some ⟨b20, 1, none⟩)),
    .lets (· = er),
    .lets (· = .agg #[.int .i64 c.num, er, .int .i64 P1.x, .int .i64 P1.y, .int .i64 P1.st])] [] [] (by kernel_rfl) (by kernel_rfl) rfl ?kinds (by kernel_rfl) (by kernel_rfl) (by kernel_rfl) ?_
  case kinds =>
    constructor
    · intro i h
      rcases i with _ | _ | _ | _ | _ | _ | _ | _ | _ | _ | _ | i <;> simp [Kx.isMade] at h
    · intro i h
      rcases i with _ | _ | _ | _ | _ | _ | _ | _ | _ | _ | _ | i <;> simp [Kx.isUse] at h
  refine lexX_step (fun K hK => ⟨by kernel_rfl, ⟨_, rfl⟩, fun v hv => ?_, fun v hv => ?_⟩)
  · go_simp
    exact mUpon_b
  subst hv
  go_simp
  refine hK _ ?_
  clear hK K
  refine lexX_step (fun K hK => ⟨by kernel_rfl, ⟨_, rfl⟩, fun v hv => ?_, fun v hv => ?_⟩)
  · go_simp
    exact mUpon_b
  subst hv
  go_simp
  refine hK _ ?_
  clear hK K
  refine lexX_step (fun K hK => ⟨by kernel_rfl, ⟨_, rfl⟩, fun v hv => ?_, fun v hv => ?_⟩)
  · have c0 := (four_cells (keepB (unhideR HC) hv)).1
    go_simp
    exact mUpon_b
  subst hv
  go_simp
  refine hK _ ?_
  clear hK K
  refine lexX_step (fun K hK => ⟨by kernel_rfl, ⟨_, rfl⟩, fun v hv => ?_, fun v hv => ?_⟩)
  · go_simp
    exact mUpon_b
  subst hv
  go_simp
  refine hK _ ?_
  clear hK K
  refine lexX_step (fun K hK => ⟨by kernel_rfl, ⟨_, rfl⟩, fun v hv => ?_, fun v hv => ?_⟩)
  · go_simp
    exact mUpon_b
  subst hv
  go_simp
  refine hK _ ?_
  clear hK K
  refine lexX_step (fun K hK => ⟨by kernel_rfl, ⟨_, rfl⟩, fun v hv => ?_, fun v hv => ?_⟩)
  · go_simp
    exact mUpon_b
  subst hv
  go_simp
  refine hK _ ?_
  clear hK K
  refine lexX_step (fun K hK => ⟨by kernel_rfl, ⟨_, rfl⟩, fun v hv => ?_, fun v hv => ?_⟩)
  · have c17 : v.cell? ⟨g, 17, none⟩ = some (.pointer (some ⟨b20, 0, none⟩)) := (((unhideR HM).keep hv).cell 17 (by decide)).1
    go_simp
    exact mUpon_b
  subst hv
  go_simp
  refine hK _ ?_
  clear hK K
  refine lexX_step (fun K hK => ⟨by kernel_rfl, ⟨_, rfl⟩, fun v hv => ?_, fun v hv => ?_⟩)
  · go_simp
    exact mUpon_b
  subst hv
  go_simp
  refine hK _ ?_
  clear hK K
  refine lexX_step (fun K hK => ⟨by kernel_rfl, ⟨_, rfl⟩, fun v hv => ?_, fun v hv => ?_⟩)
  · go_simp
    exact mUpon_b
  subst hv
  go_simp
  refine hK _ ?_
  clear hK K
  refine lexX_step (fun K hK => ⟨by kernel_rfl, ⟨_, rfl⟩, fun v hv => ?_, fun v hv => ?_⟩)
  · have c1 := (two_cells (keepB (unhideR HT) hv)).2
    go_simp
    exact mUpon_b
  replace hv := hv.symm
  subst hv
  go_simp
  refine hK _ ?_
  clear hK K
  refine lexX_step (fun K hK => ⟨by kernel_rfl, ⟨_, rfl⟩, fun v hv => ?_, fun v hv => ?_⟩)
  · go_simp
    refine (hrep _ ((unhideR HM).keep hv)).mono ?_
    rintro e w9 ⟨rfl, k⟩
    exact ⟨_, rfl, rfl, k⟩
  subst hv
  go_simp
  refine hK _ ?_
  clear hK K
  refine lexX_end (fun v5 hv => ?_)
  replace HM := hideR ((unhideR HM).keep hv.low)
  replace HK := hideR ((unhideR HK).go hv.low)
  replace HZ := hideR (keepB (unhideR HZ) hv.low)
  replace HT := hideR (keepB (unhideR HT) hv.low)
  obtain ⟨⟨y0, y1, y2, y3, y4⟩, y5, y6, y7, y8, y9⟩ := five_cells (unhideR HZ)
  have hst := fun (u : World) (ad : Addr) (md : Mode) => run_store Tryd.prog u ad er md (err_cell1 (unhideR HER))
  clear hv
  refine wpAny_step (i := 11) (by kernel_rfl) rfl (by kernel_rfl) (fun K hK => ?_)
  unfold Oper.wp
  go_simp
  refine hK _ _ ?_
  clear hK K
  refine wpAny_end (by kernel_rfl) ?_
  replace HM : HeldR (PB (((((v5.setCell ⟨w.heap.size + 1, 0, none⟩ (.int .i64 c.num)).setCell ⟨w.heap.size + 1, 1, none⟩ er).setCell ⟨w.heap.size + 1, 2, none⟩ (.int .i64 P1.x)).setCell ⟨w.heap.size + 1, 3, none⟩ (.int .i64 P1.y)).setCell ⟨w.heap.size + 1, 4, none⟩ (.int .i64 P1.st)) g _) := ⟨five_other (unhideR HM).blk (by omega)⟩
  replace HK := hideR ((unhideR HK).five (b := w.heap.size + 1) (by omega) (.int .i64 c.num) er (.int .i64 P1.x) (.int .i64 P1.y) (.int .i64 P1.st))
  replace HT : HeldR (Tk (((((v5.setCell ⟨w.heap.size + 1, 0, none⟩ (.int .i64 c.num)).setCell ⟨w.heap.size + 1, 1, none⟩ er).setCell ⟨w.heap.size + 1, 2, none⟩ (.int .i64 P1.x)).setCell ⟨w.heap.size + 1, 3, none⟩ (.int .i64 P1.y)).setCell ⟨w.heap.size + 1, 4, none⟩ (.int .i64 P1.st)) b20 c.num er) := five_other (unhideR HT) (by omega)
  go_wp2
  simp [bodyPost, results, Tryd.results30, go_sem, y0, y1, y2, y3, y4]
  exact unhideR HPO _ _ (unhideR HM) (unhideR HT) (unhideR HK)
set_option maxRecDepth 100000 in
set_option maxHeartbeats 6400000 in
theorem ptake_less {g : Nat} {p : PM} {w : World} {a : Nat → Addr} (hM : PB w g p) (hE : Errs5 w a) (c : CmdS) {h : Nat} {n : Int} {er : Value} (hl : p.last = .pointer (some ⟨h, 0, none⟩)) (hT : Tk w h n er) (hn : c.num < n) :
    Calls Tryd.prog 30 #[.pointer (some ⟨g, 0, none⟩), c.val] w fun e w' => TOld g p c h n er (.iface 205 (.pointer (some (a 6)))) w e w' := by
  have k0 : Below w.heap.size w ((w.alloc (.cells #[.int .i64 c.num, .string c.s, .int .i64 c.a, .int .i64 c.b] 74)).alloc (.cells #[.int .i64 0, .nilIface, .int .i64 0, .int .i64 0, .int .i64 0] 72)) := below_al2 w _ _
  have HM := hideR (hM.keep k0)
  have HK := hideR ((Chg.refl g w).go k0)
  have HE := hideR (hE.below k0)
  have HC : HeldR (((w.alloc (.cells #[.int .i64 c.num, .string c.s, .int .i64 c.a, .int .i64 c.b] 74)).alloc (.cells #[.int .i64 0, .nilIface, .int .i64 0, .int .i64 0, .int .i64 0] 72)).heap[w.heap.size]? = some (.cells #[.int .i64 c.num, .string c.s, .int .i64 c.a, .int .i64 c.b] 74)) := keepA (alloc_last w _)
  have HZ := hideR (alloc_snd w (.cells #[.int .i64 c.num, .string c.s, .int .i64 c.a, .int .i64 c.b] 74) (.cells #[.int .i64 0, .nilIface, .int .i64 0, .int .i64 0, .int .i64 0] 72))
  have hg : g < w.heap.size := ltB hM.blk
  have HT := hideR (keepB (show w.heap[h]? = _ from hT) k0)
  have hhb : h < w.heap.size := ltB (show w.heap[h]? = _ from hT)
  have hlt : decide (n < c.num) = false := decide_eq_false (by omega)
  have hll : decide (c.num < n) = true := decide_eq_true (by omega)
  clear hn
  unfold CmdS.val
  go_enter Tryd.func30, Tryd.ntmps30
  go_wp2_with fail
  generalize (w.alloc (.cells #[.int .i64 c.num, .string c.s, .int .i64 c.a, .int .i64 c.b] 74)).alloc (.cells #[.int .i64 0, .nilIface, .int .i64 0, .int .i64 0, .int .i64 0] 72) = W1 at *
  have c17 : W1.cell? ⟨g, 17, none⟩ = some p.last := ((unhideR HM).cell 17 (by decide)).1
  rw [hl] at c17
  have c0 := (two_cells (unhideR HT)).1
  have d0 := (four_cells (unhideR HC)).1
  refine wp_region_lets [(· = .pointer (some ⟨g, 0, none⟩)),
    (· = .pointer (some ⟨g, 0, none⟩)),
    (· = .pointer (some ⟨g, 17, none⟩)),
    (· = .pointer (some ⟨h, 0, none⟩)),
    (· = .bool false),
    (· = .bool false),
    (· = .pointer (some ⟨w.heap.size, 0, none⟩)),
    (· = .int .i64 c.num),
    (· = .pointer (some ⟨g, 0, none⟩)),
    (· = .pointer (some ⟨g, 0, none⟩)),
    (· = .pointer (some ⟨g, 17, none⟩)),
    (· = .pointer (some ⟨h, 0, none⟩)),
    (· = .pointer (some ⟨h, 0, none⟩)),
    (· = .pointer (some ⟨h, 0, none⟩)),
    (· = .int .i64 n),
    (· = .bool false),
    (· = .bool false)] (by kernel_rfl) (by kernel_rfl) ?_
  refine lexL_step (fun K hK => ⟨by kernel_rfl, ⟨_, rfl⟩, fun n => ?_, fun v hv => ?_⟩)
  · go_simp
    exact lUpon_one
  subst hv
  go_simp
  refine hK _ ?_
  clear hK K
  refine lexL_step (fun K hK => ⟨by kernel_rfl, ⟨_, rfl⟩, fun n => ?_, fun v hv => ?_⟩)
  · go_simp
    exact lUpon_one
  subst hv
  go_simp
  refine hK _ ?_
  clear hK K
  refine lexL_step (fun K hK => ⟨by kernel_rfl, ⟨_, rfl⟩, fun n => ?_, fun v hv => ?_⟩)
  · go_simp
    exact lUpon_one
  subst hv
  go_simp
  refine hK _ ?_
  clear hK K
  refine lexL_step (fun K hK => ⟨by kernel_rfl, ⟨_, rfl⟩, fun n => ?_, fun v hv => ?_⟩)
  · go_simp
    exact lUpon_one
  subst hv
  go_simp
  refine hK _ ?_
  clear hK K
  refine lexL_step (fun K hK => ⟨by kernel_rfl, ⟨_, rfl⟩, fun n => ?_, fun v hv => ?_⟩)
  · go_simp
    exact lUpon_one
  subst hv
  go_simp
  refine hK _ ?_
  clear hK K
  refine lexL_step (fun K hK => ⟨by kernel_rfl, ⟨_, rfl⟩, fun n => ?_, fun v hv => ?_⟩)
  · go_simp
    exact lUpon_one
  subst hv
  go_simp
  refine hK _ ?_
  clear hK K
  refine lexL_step (fun K hK => ⟨by kernel_rfl, ⟨_, rfl⟩, fun n => ?_, fun v hv => ?_⟩)
  · go_simp
    exact lUpon_one
  subst hv
  go_simp
  refine hK _ ?_
  clear hK K
  refine lexL_step (fun K hK => ⟨by kernel_rfl, ⟨_, rfl⟩, fun n => ?_, fun v hv => ?_⟩)
  · go_simp
    exact lUpon_one
  subst hv
  go_simp
  refine hK _ ?_
  clear hK K
  refine lexL_step (fun K hK => ⟨by kernel_rfl, ⟨_, rfl⟩, fun n => ?_, fun v hv => ?_⟩)
  · go_simp
    exact lUpon_one
  subst hv
  go_simp
  refine hK _ ?_
  clear hK K
  refine lexL_step (fun K hK => ⟨by kernel_rfl, ⟨_, rfl⟩, fun n => ?_, fun v hv => ?_⟩)
  · go_simp
    exact lUpon_one
  subst hv
  go_simp
  refine hK _ ?_
  clear hK K
  refine lexL_step (fun K hK => ⟨by kernel_rfl, ⟨_, rfl⟩, fun n => ?_, fun v hv => ?_⟩)
  · go_simp
    exact lUpon_one
  subst hv
  go_simp
  refine hK _ ?_
  clear hK K
  refine lexL_step (fun K hK => ⟨by kernel_rfl, ⟨_, rfl⟩, fun n => ?_, fun v hv => ?_⟩)
  · go_simp
    exact lUpon_one
  subst hv
  go_simp
  refine hK _ ?_
  clear hK K
  refine lexL_step (fun K hK => ⟨by kernel_rfl, ⟨_, rfl⟩, fun n => ?_, fun v hv => ?_⟩)
  · go_simp
    exact lUpon_one
  subst hv
  go_simp
  refine hK _ ?_
  clear hK K
  refine lexL_step (fun K hK => ⟨by kernel_rfl, ⟨_, rfl⟩, fun n => ?_, fun v hv => ?_⟩)
  · go_simp
    exact lUpon_one
  subst hv
  go_simp
  refine hK _ ?_
  clear hK K
  refine lexL_step (fun K hK => ⟨by kernel_rfl, ⟨_, rfl⟩, fun n => ?_, fun v hv => ?_⟩)
  · go_simp
    exact lUpon_one
  subst hv
  go_simp
  refine hK _ ?_
  clear hK K
  refine lexL_step (fun K hK => ⟨by kernel_rfl, ⟨_, rfl⟩, fun n => ?_, fun v hv => ?_⟩)
  · go_simp
    exact lUpon_one
  subst hv
  go_simp
  refine hK _ ?_
  clear hK K
  refine lexL_step (fun K hK => ⟨by kernel_rfl, ⟨_, rfl⟩, fun n => ?_, fun v hv => ?_⟩)
  · go_simp
    exact lUpon_one
  subst hv
  go_simp
  refine hK _ ?_
  clear hK K
  refine lexL_end ?_
  intro n1
  clear c17 c0 d0
  replace HM := hideR ((unhideR HM).keep (drawn_below W1 n1))
  replace HK := hideR ((unhideR HK).go (drawn_below W1 n1))
  replace HE := hideR ((unhideR HE).below (drawn_below W1 n1))
  replace HC := hideR (keepB (unhideR HC) (drawn_below W1 n1))
  replace HZ := hideR (keepB (unhideR HZ) (drawn_below W1 n1))
  replace HT := hideR (keepB (unhideR HT) (drawn_below W1 n1))
  generalize W1.drewN n1 = W2 at *
  go_wp2_with fail
  have c17 : W2.cell? ⟨g, 17, none⟩ = some p.last := ((unhideR HM).cell 17 (by decide)).1
  rw [hl] at c17
  have c0 := (two_cells (unhideR HT)).1
  have d0 := (four_cells (unhideR HC)).1
  refine wp_region_lets [(· = .pointer (some ⟨w.heap.size, 0, none⟩)),
    (· = .int .i64 c.num),
    (· = .pointer (some ⟨g, 0, none⟩)),
    (· = .pointer (some ⟨g, 0, none⟩)),
    (· = .pointer (some ⟨g, 17, none⟩)),
    (· = .pointer (some ⟨h, 0, none⟩)),
    (· = .pointer (some ⟨h, 0, none⟩)),
    (· = .pointer (some ⟨h, 0, none⟩)),
    (· = .int .i64 n),
    (· = .bool true)] (by kernel_rfl) (by kernel_rfl) ?_
  refine lexL_step (fun K hK => ⟨by kernel_rfl, ⟨_, rfl⟩, fun n => ?_, fun v hv => ?_⟩)
  · go_simp
    exact lUpon_one
  subst hv
  go_simp
  refine hK _ ?_
  clear hK K
  refine lexL_step (fun K hK => ⟨by kernel_rfl, ⟨_, rfl⟩, fun n => ?_, fun v hv => ?_⟩)
  · go_simp
    exact lUpon_one
  subst hv
  go_simp
  refine hK _ ?_
  clear hK K
  refine lexL_step (fun K hK => ⟨by kernel_rfl, ⟨_, rfl⟩, fun n => ?_, fun v hv => ?_⟩)
  · go_simp
    exact lUpon_one
  subst hv
  go_simp
  refine hK _ ?_
  clear hK K
  refine lexL_step (fun K hK => ⟨by kernel_rfl, ⟨_, rfl⟩, fun n => ?_, fun v hv => ?_⟩)
  · go_simp
    exact lUpon_one
  subst hv
  go_simp
  refine hK _ ?_
  clear hK K
  refine lexL_step (fun K hK => ⟨by kernel_rfl, ⟨_, rfl⟩, fun n => ?_, fun v hv => ?_⟩)
  · go_simp
    exact lUpon_one
  subst hv
  go_simp
  refine hK _ ?_
  clear hK K
  refine lexL_step (fun K hK => ⟨by kernel_rfl, ⟨_, rfl⟩, fun n => ?_, fun v hv => ?_⟩)
  · go_simp
    exact lUpon_one
  subst hv
  go_simp
  refine hK _ ?_
  clear hK K
  refine lexL_step (fun K hK => ⟨by kernel_rfl, ⟨_, rfl⟩, fun n => ?_, fun v hv => ?_⟩)
  · go_simp
    exact lUpon_one
  subst hv
  go_simp
  refine hK _ ?_
  clear hK K
  refine lexL_step (fun K hK => ⟨by kernel_rfl, ⟨_, rfl⟩, fun n => ?_, fun v hv => ?_⟩)
  · go_simp
    exact lUpon_one
  subst hv
  go_simp
  refine hK _ ?_
  clear hK K
  refine lexL_step (fun K hK => ⟨by kernel_rfl, ⟨_, rfl⟩, fun n => ?_, fun v hv => ?_⟩)
  · go_simp
    exact lUpon_one
  subst hv
  go_simp
  refine hK _ ?_
  clear hK K
  refine lexL_step (fun K hK => ⟨by kernel_rfl, ⟨_, rfl⟩, fun n => ?_, fun v hv => ?_⟩)
  · go_simp
    exact lUpon_one
  subst hv
  go_simp
  refine hK _ ?_
  clear hK K
  refine lexL_end ?_
  intro n4
  clear c17 c0 d0
  replace HM := hideR ((unhideR HM).keep (drawn_below W2 n4))
  replace HK := hideR ((unhideR HK).go (drawn_below W2 n4))
  replace HE := hideR ((unhideR HE).below (drawn_below W2 n4))
  replace HC := hideR (keepB (unhideR HC) (drawn_below W2 n4))
  replace HZ := hideR (keepB (unhideR HZ) (drawn_below W2 n4))
  replace HT := hideR (keepB (unhideR HT) (drawn_below W2 n4))
  generalize W2.drewN n4 = W5 at *
  have e6 := (unhideR HE).e6
  have d0 := (four_cells (unhideR HC)).1
  go_wp2_with fail
  refine (preply_any (a := a) (E := 7) (unhideR HM) c.num (.iface 205 (.pointer (some (a 6)))) (err_at 6 (by decide))).mono ?_
  rintro e v5 ⟨rfl, k5⟩
  replace HM := hideR ((unhideR HM).keep k5)
  replace HK := hideR ((unhideR HK).go k5)
  replace HZ := hideR (keepB (unhideR HZ) k5)
  replace HT := hideR (keepB (unhideR HT) k5)
  obtain ⟨⟨y0, y1, y2, y3, y4⟩, y5, y6, y7, y8, y9⟩ := five_cells (unhideR HZ)
  clear e6 d0 k5
  replace HM : HeldR (PB (((((v5.setCell ⟨w.heap.size + 1, 0, none⟩ (.int .i64 c.num)).setCell ⟨w.heap.size + 1, 1, none⟩ (.iface 205 (.pointer (some (a 6))))).setCell ⟨w.heap.size + 1, 2, none⟩ (.int .i64 p.x)).setCell ⟨w.heap.size + 1, 3, none⟩ (.int .i64 p.y)).setCell ⟨w.heap.size + 1, 4, none⟩ (.int .i64 p.st)) g _) := ⟨five_other (unhideR HM).blk (by omega)⟩
  replace HK := hideR ((unhideR HK).five (b := w.heap.size + 1) (by omega) (.int .i64 c.num) (.iface 205 (.pointer (some (a 6)))) (.int .i64 p.x) (.int .i64 p.y) (.int .i64 p.st))
  replace HT : HeldR (Tk (((((v5.setCell ⟨w.heap.size + 1, 0, none⟩ (.int .i64 c.num)).setCell ⟨w.heap.size + 1, 1, none⟩ (.iface 205 (.pointer (some (a 6))))).setCell ⟨w.heap.size + 1, 2, none⟩ (.int .i64 p.x)).setCell ⟨w.heap.size + 1, 3, none⟩ (.int .i64 p.y)).setCell ⟨w.heap.size + 1, 4, none⟩ (.int .i64 p.st)) h n er) := five_other (unhideR HT) (by omega)
  go_wp2
  simp [bodyPost, results, Tryd.results30, go_sem, y0, y1, y2, y3, y4]
  exact ⟨rfl, unhideR HM, unhideR HT, unhideR HK⟩
set_option maxRecDepth 100000 in
set_option maxHeartbeats 6400000 in
theorem ptake_same {g : Nat} {p : PM} {w : World} {a : Nat → Addr} (hM : PB w g p) (hE : Errs5 w a) (c : CmdS) {h : Nat} {n : Int} {er : Value} {E : Int} (hl : p.last = .pointer (some ⟨h, 0, none⟩)) (hT : Tk w h n er) (her : ErrIs a E er) (hn : c.num = n) :
    Calls Tryd.prog 30 #[.pointer (some ⟨g, 0, none⟩), c.val] w fun e w' => TOld g p c h n er (er) w e w' := by
  have k0 : Below w.heap.size w ((w.alloc (.cells #[.int .i64 c.num, .string c.s, .int .i64 c.a, .int .i64 c.b] 74)).alloc (.cells #[.int .i64 0, .nilIface, .int .i64 0, .int .i64 0, .int .i64 0] 72)) := below_al2 w _ _
  have HM := hideR (hM.keep k0)
  have HK := hideR ((Chg.refl g w).go k0)
  have HE := hideR (hE.below k0)
  have HC : HeldR (((w.alloc (.cells #[.int .i64 c.num, .string c.s, .int .i64 c.a, .int .i64 c.b] 74)).alloc (.cells #[.int .i64 0, .nilIface, .int .i64 0, .int .i64 0, .int .i64 0] 72)).heap[w.heap.size]? = some (.cells #[.int .i64 c.num, .string c.s, .int .i64 c.a, .int .i64 c.b] 74)) := keepA (alloc_last w _)
  have HZ := hideR (alloc_snd w (.cells #[.int .i64 c.num, .string c.s, .int .i64 c.a, .int .i64 c.b] 74) (.cells #[.int .i64 0, .nilIface, .int .i64 0, .int .i64 0, .int .i64 0] 72))
  have hg : g < w.heap.size := ltB hM.blk
  have HT := hideR (keepB (show w.heap[h]? = _ from hT) k0)
  have hhb : h < w.heap.size := ltB (show w.heap[h]? = _ from hT)
  have hlt : decide (n < c.num) = false := decide_eq_false (by omega)
  have hll : decide (c.num < n) = false := decide_eq_false (by omega)
  clear hn
  have HER := hideR her
  have hfl := err_flat her
  unfold Value.cells at hfl
  unfold CmdS.val
  go_enter Tryd.func30, Tryd.ntmps30
  go_wp2_with fail
  generalize (w.alloc (.cells #[.int .i64 c.num, .string c.s, .int .i64 c.a, .int .i64 c.b] 74)).alloc (.cells #[.int .i64 0, .nilIface, .int .i64 0, .int .i64 0, .int .i64 0] 72) = W1 at *
  have c17 : W1.cell? ⟨g, 17, none⟩ = some p.last := ((unhideR HM).cell 17 (by decide)).1
  rw [hl] at c17
  have c0 := (two_cells (unhideR HT)).1
  have d0 := (four_cells (unhideR HC)).1
  refine wp_region_lets [(· = .pointer (some ⟨g, 0, none⟩)),
    (· = .pointer (some ⟨g, 0, none⟩)),
    (· = .pointer (some ⟨g, 17, none⟩)),
    (· = .pointer (some ⟨h, 0, none⟩)),
    (· = .bool false),
    (· = .bool false),
    (· = .pointer (some ⟨w.heap.size, 0, none⟩)),
    (· = .int .i64 c.num),
    (· = .pointer (some ⟨g, 0, none⟩)),
    (· = .pointer (some ⟨g, 0, none⟩)),
    (· = .pointer (some ⟨g, 17, none⟩)),
    (· = .pointer (some ⟨h, 0, none⟩)),
    (· = .pointer (some ⟨h, 0, none⟩)),
    (· = .pointer (some ⟨h, 0, none⟩)),
    (· = .int .i64 n),
    (· = .bool false),
    (· = .bool false)] (by kernel_rfl) (by kernel_rfl) ?_
  refine lexL_step (fun K hK => ⟨by kernel_rfl, ⟨_, rfl⟩, fun n => ?_, fun v hv => ?_⟩)
  · go_simp
    exact lUpon_one
  subst hv
  go_simp
  refine hK _ ?_
  clear hK K
  refine lexL_step (fun K hK => ⟨by kernel_rfl, ⟨_, rfl⟩, fun n => ?_, fun v hv => ?_⟩)
  · go_simp
    exact lUpon_one
  subst hv
  go_simp
  refine hK _ ?_
  clear hK K
  refine lexL_step (fun K hK => ⟨by kernel_rfl, ⟨_, rfl⟩, fun n => ?_, fun v hv => ?_⟩)
  · go_simp
    exact lUpon_one
  subst hv
  go_simp
  refine hK _ ?_
  clear hK K
  refine lexL_step (fun K hK => ⟨by kernel_rfl, ⟨_, rfl⟩, fun n => ?_, fun v hv => ?_⟩)
  · go_simp
    exact lUpon_one
  subst hv
  go_simp
  refine hK _ ?_
  clear hK K
  refine lexL_step (fun K hK => ⟨by kernel_rfl, ⟨_, rfl⟩, fun n => ?_, fun v hv => ?_⟩)
  · go_simp
    exact lUpon_one
  subst hv
  go_simp
  refine hK _ ?_
  clear hK K
  refine lexL_step (fun K hK => ⟨by kernel_rfl, ⟨_, rfl⟩, fun n => ?_, fun v hv => ?_⟩)
  · go_simp
    exact lUpon_one
  subst hv
  go_simp
  refine hK _ ?_
  clear hK K
  refine lexL_step (fun K hK => ⟨by kernel_rfl, ⟨_, rfl⟩, fun n => ?_, fun v hv => ?_⟩)
  · go_simp
    exact lUpon_one
  subst hv
  go_simp
  refine hK _ ?_
  clear hK K
  refine lexL_step (fun K hK => ⟨by kernel_rfl, ⟨_, rfl⟩, fun n => ?_, fun v hv => ?_⟩)
  · go_simp
    exact lUpon_one
  subst hv
  go_simp
  refine hK _ ?_
  clear hK K
  refine lexL_step (fun K hK => ⟨by kernel_rfl, ⟨_, rfl⟩, fun n => ?_, fun v hv => ?_⟩)
  · go_simp
    exact lUpon_one
  subst hv
  go_simp
  refine hK _ ?_
  clear hK K
  refine lexL_step (fun K hK => ⟨by kernel_rfl, ⟨_, rfl⟩, fun n => ?_, fun v hv => ?_⟩)
  · go_simp
    exact lUpon_one
  subst hv
  go_simp
  refine hK _ ?_
  clear hK K
  refine lexL_step (fun K hK => ⟨by kernel_rfl, ⟨_, rfl⟩, fun n => ?_, fun v hv => ?_⟩)
  · go_simp
    exact lUpon_one
  subst hv
  go_simp
  refine hK _ ?_
  clear hK K
  refine lexL_step (fun K hK => ⟨by kernel_rfl, ⟨_, rfl⟩, fun n => ?_, fun v hv => ?_⟩)
  · go_simp
    exact lUpon_one
  subst hv
  go_simp
  refine hK _ ?_
  clear hK K
  refine lexL_step (fun K hK => ⟨by kernel_rfl, ⟨_, rfl⟩, fun n => ?_, fun v hv => ?_⟩)
  · go_simp
    exact lUpon_one
  subst hv
  go_simp
  refine hK _ ?_
  clear hK K
  refine lexL_step (fun K hK => ⟨by kernel_rfl, ⟨_, rfl⟩, fun n => ?_, fun v hv => ?_⟩)
  · go_simp
    exact lUpon_one
  subst hv
  go_simp
  refine hK _ ?_
  clear hK K
  refine lexL_step (fun K hK => ⟨by kernel_rfl, ⟨_, rfl⟩, fun n => ?_, fun v hv => ?_⟩)
  · go_simp
    exact lUpon_one
  subst hv
  go_simp
  refine hK _ ?_
  clear hK K
  refine lexL_step (fun K hK => ⟨by kernel_rfl, ⟨_, rfl⟩, fun n => ?_, fun v hv => ?_⟩)
  · go_simp
    exact lUpon_one
  subst hv
  go_simp
  refine hK _ ?_
  clear hK K
  refine lexL_step (fun K hK => ⟨by kernel_rfl, ⟨_, rfl⟩, fun n => ?_, fun v hv => ?_⟩)
  · go_simp
    exact lUpon_one
  subst hv
  go_simp
  refine hK _ ?_
  clear hK K
  refine lexL_end ?_
  intro n1
  clear c17 c0 d0
  replace HM := hideR ((unhideR HM).keep (drawn_below W1 n1))
  replace HK := hideR ((unhideR HK).go (drawn_below W1 n1))
  replace HE := hideR ((unhideR HE).below (drawn_below W1 n1))
  replace HC := hideR (keepB (unhideR HC) (drawn_below W1 n1))
  replace HZ := hideR (keepB (unhideR HZ) (drawn_below W1 n1))
  replace HT := hideR (keepB (unhideR HT) (drawn_below W1 n1))
  generalize W1.drewN n1 = W2 at *
  go_wp2_with fail
  have c17 : W2.cell? ⟨g, 17, none⟩ = some p.last := ((unhideR HM).cell 17 (by decide)).1
  rw [hl] at c17
  have c0 := (two_cells (unhideR HT)).1
  have d0 := (four_cells (unhideR HC)).1
  refine wp_region_lets [(· = .pointer (some ⟨w.heap.size, 0, none⟩)),
    (· = .int .i64 c.num),
    (· = .pointer (some ⟨g, 0, none⟩)),
    (· = .pointer (some ⟨g, 0, none⟩)),
    (· = .pointer (some ⟨g, 17, none⟩)),
    (· = .pointer (some ⟨h, 0, none⟩)),
    (· = .pointer (some ⟨h, 0, none⟩)),
    (· = .pointer (some ⟨h, 0, none⟩)),
    (· = .int .i64 n),
    (· = .bool false)] (by kernel_rfl) (by kernel_rfl) ?_
  refine lexL_step (fun K hK => ⟨by kernel_rfl, ⟨_, rfl⟩, fun n => ?_, fun v hv => ?_⟩)
  · go_simp
    exact lUpon_one
  subst hv
  go_simp
  refine hK _ ?_
  clear hK K
  refine lexL_step (fun K hK => ⟨by kernel_rfl, ⟨_, rfl⟩, fun n => ?_, fun v hv => ?_⟩)
  · go_simp
    exact lUpon_one
  subst hv
  go_simp
  refine hK _ ?_
  clear hK K
  refine lexL_step (fun K hK => ⟨by kernel_rfl, ⟨_, rfl⟩, fun n => ?_, fun v hv => ?_⟩)
  · go_simp
    exact lUpon_one
  subst hv
  go_simp
  refine hK _ ?_
  clear hK K
  refine lexL_step (fun K hK => ⟨by kernel_rfl, ⟨_, rfl⟩, fun n => ?_, fun v hv => ?_⟩)
  · go_simp
    exact lUpon_one
  subst hv
  go_simp
  refine hK _ ?_
  clear hK K
  refine lexL_step (fun K hK => ⟨by kernel_rfl, ⟨_, rfl⟩, fun n => ?_, fun v hv => ?_⟩)
  · go_simp
    exact lUpon_one
  subst hv
  go_simp
  refine hK _ ?_
  clear hK K
  refine lexL_step (fun K hK => ⟨by kernel_rfl, ⟨_, rfl⟩, fun n => ?_, fun v hv => ?_⟩)
  · go_simp
    exact lUpon_one
  subst hv
  go_simp
  refine hK _ ?_
  clear hK K
  refine lexL_step (fun K hK => ⟨by kernel_rfl, ⟨_, rfl⟩, fun n => ?_, fun v hv => ?_⟩)
  · go_simp
    exact lUpon_one
  subst hv
  go_simp
  refine hK _ ?_
  clear hK K
  refine lexL_step (fun K hK => ⟨by kernel_rfl, ⟨_, rfl⟩, fun n => ?_, fun v hv => ?_⟩)
  · go_simp
    exact lUpon_one
  subst hv
  go_simp
  refine hK _ ?_
  clear hK K
  refine lexL_step (fun K hK => ⟨by kernel_rfl, ⟨_, rfl⟩, fun n => ?_, fun v hv => ?_⟩)
  · go_simp
    exact lUpon_one
  subst hv
  go_simp
  refine hK _ ?_
  clear hK K
  refine lexL_step (fun K hK => ⟨by kernel_rfl, ⟨_, rfl⟩, fun n => ?_, fun v hv => ?_⟩)
  · go_simp
    exact lUpon_one
  subst hv
  go_simp
  refine hK _ ?_
  clear hK K
  refine lexL_end ?_
  intro n4
  clear c17 c0 d0
  replace HM := hideR ((unhideR HM).keep (drawn_below W2 n4))
  replace HK := hideR ((unhideR HK).go (drawn_below W2 n4))
  replace HE := hideR ((unhideR HE).below (drawn_below W2 n4))
  replace HC := hideR (keepB (unhideR HC) (drawn_below W2 n4))
  replace HZ := hideR (keepB (unhideR HZ) (drawn_below W2 n4))
  replace HT := hideR (keepB (unhideR HT) (drawn_below W2 n4))
  generalize W2.drewN n4 = W5 at *
  go_wp2_with fail
  have hrep : ∀ u : World, PB u g p → Calls Tryd.prog 67 #[.pointer (some ⟨g, 0, none⟩), .int .i64 c.num, er] u fun e w' => e = .returned (.agg #[.int .i64 c.num, er, .int .i64 p.x, .int .i64 p.y, .int .i64 p.st]) ∧ Below u.heap.size u w' := fun u hu => preply_any hu c.num er (unhideR HER)
  refine wp_region_made 0 #[true, true, true, true, true, true, true, true, true, true, true, false] [.lets (· = .pointer (some ⟨g, 0, none⟩)),
    .lets (· = .pointer (some ⟨w.heap.size, 0, none⟩)),
    .lets (· = .int .i64 c.num),
    .lets (· = .pointer (some ⟨g, 0, none⟩)),
    .lets (· = .pointer (some ⟨g, 0, none⟩)),
    .lets (· = .pointer (some ⟨g, 17, none⟩)),
    .lets (· = .pointer (some ⟨h, 0, none⟩)),
    .lets (· = .pointer (some ⟨h, 0, none⟩)),
    .lets (· = .pointer (some ⟨h, 1, none⟩)),
    .lets (· = er),
    .lets (· = .agg #[.int .i64 c.num, er, .int .i64 p.x, .int .i64 p.y, .int .i64 p.st])] [] [] (by kernel_rfl) (by kernel_rfl) rfl ?kinds (by kernel_rfl) (by kernel_rfl) (by kernel_rfl) ?_
  case kinds =>
    constructor
    · intro i h
      rcases i with _ | _ | _ | _ | _ | _ | _ | _ | _ | _ | _ | i <;> simp [Kx.isMade] at h
    · intro i h
      rcases i with _ | _ | _ | _ | _ | _ | _ | _ | _ | _ | _ | i <;> simp [Kx.isUse] at h
  refine lexX_step (fun K hK => ⟨by kernel_rfl, ⟨_, rfl⟩, fun v hv => ?_, fun v hv => ?_⟩)
  · go_simp
    exact mUpon_b
  subst hv
  go_simp
  refine hK _ ?_
  clear hK K
  refine lexX_step (fun K hK => ⟨by kernel_rfl, ⟨_, rfl⟩, fun v hv => ?_, fun v hv => ?_⟩)
  · go_simp
    exact mUpon_b
  subst hv
  go_simp
  refine hK _ ?_
  clear hK K
  refine lexX_step (fun K hK => ⟨by kernel_rfl, ⟨_, rfl⟩, fun v hv => ?_, fun v hv => ?_⟩)
  · have c0 := (four_cells (keepB (unhideR HC) hv)).1
    go_simp
    exact mUpon_b
  subst hv
  go_simp
  refine hK _ ?_
  clear hK K
  refine lexX_step (fun K hK => ⟨by kernel_rfl, ⟨_, rfl⟩, fun v hv => ?_, fun v hv => ?_⟩)
  · go_simp
    exact mUpon_b
  subst hv
  go_simp
  refine hK _ ?_
  clear hK K
  refine lexX_step (fun K hK => ⟨by kernel_rfl, ⟨_, rfl⟩, fun v hv => ?_, fun v hv => ?_⟩)
  · go_simp
    exact mUpon_b
  subst hv
  go_simp
  refine hK _ ?_
  clear hK K
  refine lexX_step (fun K hK => ⟨by kernel_rfl, ⟨_, rfl⟩, fun v hv => ?_, fun v hv => ?_⟩)
  · go_simp
    exact mUpon_b
  subst hv
  go_simp
  refine hK _ ?_
  clear hK K
  refine lexX_step (fun K hK => ⟨by kernel_rfl, ⟨_, rfl⟩, fun v hv => ?_, fun v hv => ?_⟩)
  · have c17 : v.cell? ⟨g, 17, none⟩ = some (.pointer (some ⟨h, 0, none⟩)) := ((((unhideR HM).keep hv).cell 17 (by decide)).1).trans (congrArg some hl)
    go_simp
    exact mUpon_b
  subst hv
  go_simp
  refine hK _ ?_
  clear hK K
  refine lexX_step (fun K hK => ⟨by kernel_rfl, ⟨_, rfl⟩, fun v hv => ?_, fun v hv => ?_⟩)
  · go_simp
    exact mUpon_b
  subst hv
  go_simp
  refine hK _ ?_
  clear hK K
  refine lexX_step (fun K hK => ⟨by kernel_rfl, ⟨_, rfl⟩, fun v hv => ?_, fun v hv => ?_⟩)
  · go_simp
    exact mUpon_b
  subst hv
  go_simp
  refine hK _ ?_
  clear hK K
  refine lexX_step (fun K hK => ⟨by kernel_rfl, ⟨_, rfl⟩, fun v hv => ?_, fun v hv => ?_⟩)
  · have c1 := (two_cells (keepB (unhideR HT) hv)).2
    go_simp
    exact mUpon_b
  replace hv := hv.symm
  subst hv
  go_simp
  refine hK _ ?_
  clear hK K
  refine lexX_step (fun K hK => ⟨by kernel_rfl, ⟨_, rfl⟩, fun v hv => ?_, fun v hv => ?_⟩)
  · go_simp
    refine (hrep _ ((unhideR HM).keep hv)).mono ?_
    rintro e w9 ⟨rfl, k⟩
    exact ⟨_, rfl, rfl, k⟩
  subst hv
  go_simp
  refine hK _ ?_
  clear hK K
  refine lexX_end (fun v5 hv => ?_)
  replace HM := hideR ((unhideR HM).keep hv.low)
  replace HK := hideR ((unhideR HK).go hv.low)
  replace HZ := hideR (keepB (unhideR HZ) hv.low)
  replace HT := hideR (keepB (unhideR HT) hv.low)
  obtain ⟨⟨y0, y1, y2, y3, y4⟩, y5, y6, y7, y8, y9⟩ := five_cells (unhideR HZ)
  have hst := fun (u : World) (ad : Addr) (md : Mode) => run_store Tryd.prog u ad er md (err_cell1 (unhideR HER))
  clear hv
  refine wpAny_step (i := 11) (by kernel_rfl) rfl (by kernel_rfl) (fun K hK => ?_)
  unfold Oper.wp
  go_simp
  refine hK _ _ ?_
  clear hK K
  refine wpAny_end (by kernel_rfl) ?_
  replace HM : HeldR (PB (((((v5.setCell ⟨w.heap.size + 1, 0, none⟩ (.int .i64 c.num)).setCell ⟨w.heap.size + 1, 1, none⟩ er).setCell ⟨w.heap.size + 1, 2, none⟩ (.int .i64 p.x)).setCell ⟨w.heap.size + 1, 3, none⟩ (.int .i64 p.y)).setCell ⟨w.heap.size + 1, 4, none⟩ (.int .i64 p.st)) g _) := ⟨five_other (unhideR HM).blk (by omega)⟩
  replace HK := hideR ((unhideR HK).five (b := w.heap.size + 1) (by omega) (.int .i64 c.num) er (.int .i64 p.x) (.int .i64 p.y) (.int .i64 p.st))
  replace HT : HeldR (Tk (((((v5.setCell ⟨w.heap.size + 1, 0, none⟩ (.int .i64 c.num)).setCell ⟨w.heap.size + 1, 1, none⟩ er).setCell ⟨w.heap.size + 1, 2, none⟩ (.int .i64 p.x)).setCell ⟨w.heap.size + 1, 3, none⟩ (.int .i64 p.y)).setCell ⟨w.heap.size + 1, 4, none⟩ (.int .i64 p.st)) h n er) := five_other (unhideR HT) (by omega)
  go_wp2
  simp [bodyPost, results, Tryd.results30, go_sem, y0, y1, y2, y3, y4]
  exact ⟨rfl, unhideR HM, unhideR HT, unhideR HK⟩
end Go.Proofs.YteoappoijihomahDoor
