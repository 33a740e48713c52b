/-
  The document's mount: what is told of a command, by contract.
-/
import Derived.Test.YteoappoijihomahDoorMtDo
namespace Go.Proofs.YteoappoijihomahDoor
open Go Go.RowKit

theorem five_cells {w : World} {b : Nat} {x0 x1 x2 x3 x4 : Value} {ty : TypeId} (h : w.heap[b]? = some (.cells #[x0, x1, x2, x3, x4] ty)) :
    (w.cell? ⟨b, 0, none⟩ = some x0 ∧ w.cell? ⟨b, 1, none⟩ = some x1 ∧ w.cell? ⟨b, 2, none⟩ = some x2 ∧ w.cell? ⟨b, 3, none⟩ = some x3 ∧ w.cell? ⟨b, 4, none⟩ = some x4) ∧
    (w.frozen? ⟨b, 0, none⟩ = false ∧ w.frozen? ⟨b, 1, none⟩ = false ∧ w.frozen? ⟨b, 2, none⟩ = false ∧ w.frozen? ⟨b, 3, none⟩ = false ∧ w.frozen? ⟨b, 4, none⟩ = false) :=
  ⟨⟨(cells_at h 0 (by simp)).1, (cells_at h 1 (by simp)).1, (cells_at h 2 (by simp)).1, (cells_at h 3 (by simp)).1, (cells_at h 4 (by simp)).1⟩, (cells_at h 0 (by simp)).2, (cells_at h 1 (by simp)).2, (cells_at h 2 (by simp)).2, (cells_at h 3 (by simp)).2, (cells_at h 4 (by simp)).2⟩
theorem below_five {w v : World} {b : Nat} (h : Below w.heap.size w v) (hb : w.heap.size ≤ b) (x0 x1 x2 x3 x4 : Value) : Below w.heap.size w (((((v.setCell ⟨b, 0, none⟩ x0).setCell ⟨b, 1, none⟩ x1).setCell ⟨b, 2, none⟩ x2).setCell ⟨b, 3, none⟩ x3).setCell ⟨b, 4, none⟩ x4) :=
  ((((h.setCell hb x0).setCell hb x1).setCell hb x2).setCell hb x3).setCell hb x4
set_option maxRecDepth 100000 in
set_option maxHeartbeats 1600000 in
theorem reply_any {g : Nat} {m : Mt} {w : World} (hM : Ref w g m) (n code : Int) :
    Calls Tryd.prog 68 #[.pointer (some ⟨g, 0, none⟩), .int .i64 n, .int .i64 code] w fun e w' => e = .returned (.agg #[.int .i64 n, .int .i64 code, .int .i64 m.X, .int .i64 m.Y, .int .i64 m.st]) ∧ Below w.heap.size w w' := by
  have HM := hideR (hM.keep (below_a w (.cells #[.int .i64 0, .int .i64 0, .int .i64 0, .int .i64 0, .int .i64 0] 77)))
  have HW := hideR (below_a w (.cells #[.int .i64 0, .int .i64 0, .int .i64 0, .int .i64 0, .int .i64 0] 77))
  have HZ := hideR (alloc_last w (.cells #[.int .i64 0, .int .i64 0, .int .i64 0, .int .i64 0, .int .i64 0] 77))
  go_enter Tryd.func68, Tryd.ntmps68
  go_wp2_with fail
  generalize w.alloc (.cells #[.int .i64 0, .int .i64 0, .int .i64 0, .int .i64 0, .int .i64 0] 77) = W1 at *
  refine wp_region_made 0 #[true, true, true, true, true, true, true, true, true, true, true, true, true, true, true, false] [.lets (· = .int .i64 n),
    .lets (· = .int .i64 code),
    .lets (· = .pointer (some ⟨g, 0, none⟩)),
    .lets (· = .pointer (some ⟨g, 0, none⟩)),
    .lets (· = .pointer (some ⟨g, 8, none⟩)),
    .lets (· = .int .i64 m.X),
    .lets (· = .pointer (some ⟨g, 0, none⟩)),
    .lets (· = .pointer (some ⟨g, 0, none⟩)),
    .lets (· = .pointer (some ⟨g, 9, none⟩)),
    .lets (· = .int .i64 m.Y),
    .lets (· = .pointer (some ⟨g, 0, none⟩)),
    .lets (· = .pointer (some ⟨g, 0, none⟩)),
    .lets (· = .pointer (some ⟨g, 12, none⟩)),
    .lets (· = .int .i64 m.st),
    .lets (· = .agg #[.int .i64 n, .int .i64 code, .int .i64 m.X, .int .i64 m.Y, .int .i64 m.st])] [] [] (by kernel_rfl) (by kernel_rfl) rfl ?kinds (by kernel_rfl) (by kernel_rfl) (by kernel_rfl) ?_
  case kinds =>
    constructor
    · intro i h
      rcases i with _ | _ | _ | _ | _ | _ | _ | _ | _ | _ | _ | _ | _ | _ | _ | i <;> simp [Kx.isMade] at h
    · intro i h
      rcases i with _ | _ | _ | _ | _ | _ | _ | _ | _ | _ | _ | _ | _ | _ | _ | i <;> simp [Kx.isUse] at h
  refine lexX_step (fun K hK => ⟨by kernel_rfl, ⟨_, rfl⟩, fun v hv => ?_, fun v hv => ?_⟩)
  · go_simp
    exact mUpon_b
  subst hv
  go_simp
  refine hK _ ?_
  clear hK K
  refine lexX_step (fun K hK => ⟨by kernel_rfl, ⟨_, rfl⟩, fun v hv => ?_, fun v hv => ?_⟩)
  · go_simp
    exact mUpon_b
  subst hv
  go_simp
  refine hK _ ?_
  clear hK K
  refine lexX_step (fun K hK => ⟨by kernel_rfl, ⟨_, rfl⟩, fun v hv => ?_, fun v hv => ?_⟩)
  · go_simp
    exact mUpon_b
  subst hv
  go_simp
  refine hK _ ?_
  clear hK K
  refine lexX_step (fun K hK => ⟨by kernel_rfl, ⟨_, rfl⟩, fun v hv => ?_, fun v hv => ?_⟩)
  · go_simp
    exact mUpon_b
  subst hv
  go_simp
  refine hK _ ?_
  clear hK K
  refine lexX_step (fun K hK => ⟨by kernel_rfl, ⟨_, rfl⟩, fun v hv => ?_, fun v hv => ?_⟩)
  · go_simp
    exact mUpon_b
  subst hv
  go_simp
  refine hK _ ?_
  clear hK K
  refine lexX_step (fun K hK => ⟨by kernel_rfl, ⟨_, rfl⟩, fun v hv => ?_, fun v hv => ?_⟩)
  · have c : v.cell? ⟨g, 8, none⟩ = some (.int .i64 m.X) := (((unhideR HM).keep hv).cell 8 (by decide)).1
    go_simp
    exact mUpon_b
  subst hv
  go_simp
  refine hK _ ?_
  clear hK K
  refine lexX_step (fun K hK => ⟨by kernel_rfl, ⟨_, rfl⟩, fun v hv => ?_, fun v hv => ?_⟩)
  · go_simp
    exact mUpon_b
  subst hv
  go_simp
  refine hK _ ?_
  clear hK K
  refine lexX_step (fun K hK => ⟨by kernel_rfl, ⟨_, rfl⟩, fun v hv => ?_, fun v hv => ?_⟩)
  · go_simp
    exact mUpon_b
  subst hv
  go_simp
  refine hK _ ?_
  clear hK K
  refine lexX_step (fun K hK => ⟨by kernel_rfl, ⟨_, rfl⟩, fun v hv => ?_, fun v hv => ?_⟩)
  · go_simp
    exact mUpon_b
  subst hv
  go_simp
  refine hK _ ?_
  clear hK K
  refine lexX_step (fun K hK => ⟨by kernel_rfl, ⟨_, rfl⟩, fun v hv => ?_, fun v hv => ?_⟩)
  · have c : v.cell? ⟨g, 9, none⟩ = some (.int .i64 m.Y) := (((unhideR HM).keep hv).cell 9 (by decide)).1
    go_simp
    exact mUpon_b
  subst hv
  go_simp
  refine hK _ ?_
  clear hK K
  refine lexX_step (fun K hK => ⟨by kernel_rfl, ⟨_, rfl⟩, fun v hv => ?_, fun v hv => ?_⟩)
  · go_simp
    exact mUpon_b
  subst hv
  go_simp
  refine hK _ ?_
  clear hK K
  refine lexX_step (fun K hK => ⟨by kernel_rfl, ⟨_, rfl⟩, fun v hv => ?_, fun v hv => ?_⟩)
  · go_simp
    exact mUpon_b
  subst hv
  go_simp
  refine hK _ ?_
  clear hK K
  refine lexX_step (fun K hK => ⟨by kernel_rfl, ⟨_, rfl⟩, fun v hv => ?_, fun v hv => ?_⟩)
  · go_simp
    exact mUpon_b
  subst hv
  go_simp
  refine hK _ ?_
  clear hK K
  refine lexX_step (fun K hK => ⟨by kernel_rfl, ⟨_, rfl⟩, fun v hv => ?_, fun v hv => ?_⟩)
  · have c : v.cell? ⟨g, 12, none⟩ = some (.int .i64 m.st) := (((unhideR HM).keep hv).cell 12 (by decide)).1
    go_simp
    exact mUpon_b
  subst hv
  go_simp
  refine hK _ ?_
  clear hK K
  refine lexX_step (fun K hK => ⟨by kernel_rfl, ⟨_, rfl⟩, fun v hv => ?_, fun v hv => ?_⟩)
  · go_simp
    exact mUpon_b
  subst hv
  go_simp
  refine hK _ ?_
  clear hK K
  refine lexX_end (fun v5 hv => ?_)
  obtain ⟨⟨z0, z1, z2, z3, z4⟩, y0, y1, y2, y3, y4⟩ := five_cells (keepB (unhideR HZ) hv.low)
  replace HW := hideR (below_go (unhideR HW) hv.low)
  clear hv
  refine wpAny_step (i := 15) (by kernel_rfl) rfl (by kernel_rfl) (fun K hK => ?_)
  unfold Oper.wp
  go_simp
  refine hK _ _ ?_
  clear hK K
  refine wpAny_end (by kernel_rfl) ?_
  go_wp2
  simp [bodyPost, results, Tryd.results68, go_sem, z0, z1, z2, z3, z4]
  exact below_five (unhideR HW) (Nat.le_refl _) _ _ _ _ _
theorem do_any {g : Nat} {m : Mt} {w : World} (hM : Ref w g m) (c : CmdS) (hF : Fine m) : Calls Tryd.prog 69 #[.pointer (some ⟨g, 0, none⟩), c.val] w (DoPost g m c w) := by
  cases b1 : (c.s.toList == [115, 108, 101, 119]) with
  | true => exact do_slew hM c hF b1
  | false =>
    cases b2 : (c.s.toList == [116, 114, 97, 99, 107]) with
    | true => exact do_track hM c hF ⟨b1, b2⟩
    | false =>
      cases b3 : (c.s.toList == [115, 116, 111, 112]) with
      | true => exact do_stop hM c hF ⟨b1, b2, b3⟩
      | false =>
        cases b4 : (c.s.toList == [112, 97, 114, 107]) with
        | true => exact do_park hM c hF ⟨b1, b2, b3, b4⟩
        | false =>
          cases b5 : (c.s.toList == [104, 101, 108, 108, 111]) with
          | true => exact do_hello hM c hF ⟨b1, b2, b3, b4, b5⟩
          | false => exact do_other hM c hF ⟨b1, b2, b3, b4, b5⟩
def RepV (m : Mt) (n code : Int) : Value := .agg #[.int .i64 n, .int .i64 code, .int .i64 m.X, .int .i64 m.Y, .int .i64 m.st]
def TakePost (g : Nat) (m : Mt) (c : CmdS) (w : World) (e : Ending) (w' : World) : Prop := e = .returned (RepV (takeV m c.cmd).1 c.num (takeV m c.cmd).2) ∧ Ref w' g (takeV m c.cmd).1 ∧ Chg g w w'
theorem take_new {m : Mt} {c : Cmd} {m2 : Mt} {r2 : Int} (h1 : ¬ (m.taken = true ∧ c.num = m.num)) (h2 : ¬ (m.taken = true ∧ c.num < m.num)) (hd : doV { m with taken := true, num := c.num, quiet := 0 } c = (m2, r2)) : takeV m c = ({ m2 with code := r2 }, r2) := by
  unfold takeV
  rw [if_neg h1, if_neg h2, hd]
theorem alloc_snd (w : World) (A B : Obj) : ((w.alloc A).alloc B).heap[w.heap.size + 1]? = some B := by
  have : w.heap.size + 1 = (w.alloc A).heap.size := by simp
  rw [this]
  exact alloc_last _ _
theorem Chg.five {g b : Nat} {w v : World} (h : Chg g w v) (hb : w.heap.size ≤ b) (x0 x1 x2 x3 x4 : Value) : Chg g w (((((v.setCell ⟨b, 0, none⟩ x0).setCell ⟨b, 1, none⟩ x1).setCell ⟨b, 2, none⟩ x2).setCell ⟨b, 3, none⟩ x3).setCell ⟨b, 4, none⟩ x4) := by
  have one : ∀ {v : World}, Chg g w v → ∀ i x, Chg g w (v.setCell ⟨b, i, none⟩ x) := fun {v} h i x =>
    ⟨h.os, h.tape, h.output, by simpa [World.setCell] using h.size, fun k hk hn => (Below.heap_setCell v ⟨b, i, none⟩ x k (by show k ≠ b; omega)).trans (h.block k hk hn),
      fun cs T fr e l => (Below.heap_setCell v ⟨b, i, none⟩ x g (by show g ≠ b; have := ltB e; omega)).trans (h.little cs T fr e l)⟩
  exact one (one (one (one (one h 0 x0) 1 x1) 2 x2) 3 x3) 4 x4
theorem Ref.five {g b : Nat} {v : World} {m : Mt} (h : Ref v g m) (hb : g ≠ b) (x0 x1 x2 x3 x4 : Value) : Ref (((((v.setCell ⟨b, 0, none⟩ x0).setCell ⟨b, 1, none⟩ x1).setCell ⟨b, 2, none⟩ x2).setCell ⟨b, 3, none⟩ x3).setCell ⟨b, 4, none⟩ x4) g m :=
  ⟨blk_other (blk_other (blk_other (blk_other (blk_other h.blk hb) hb) hb) hb) hb⟩
set_option maxRecDepth 100000 in
set_option maxHeartbeats 3200000 in
theorem rtake_any {g : Nat} {m : Mt} {w : World} (hM : Ref w g m) (c : CmdS) (hF : Fine m) : Calls Tryd.prog 32 #[.pointer (some ⟨g, 0, none⟩), c.val] w (TakePost g m c w) := by
  have hF2 : Fine { m with taken := true, num := c.num, quiet := 0 } := by
    obtain ⟨sa, sb, la, lb, x, y, slew, track, parked, st0, q0, p1⟩ := hF
    exact ⟨sa, sb, la, lb, x, y, slew, track, parked, st0, Int.le_refl _, p1⟩
  have hg : g < w.heap.size := ltB hM.blk
  have hne0 : w.heap.size ≠ g := by omega
  have hne1 : g ≠ w.heap.size + 1 := by omega
  have hne2 : w.heap.size + 1 ≠ g := by omega
  have HC := hideR ((two_blocks (Below.refl _ ((w.alloc (.cells #[.int .i64 c.num, .string c.s, .int .i64 c.a, .int .i64 c.b] 64)).alloc (.cells #[.int .i64 0, .int .i64 0, .int .i64 0, .int .i64 0, .int .i64 0] 77)))).1)
  have HZ := hideR ((two_blocks (Below.refl _ ((w.alloc (.cells #[.int .i64 c.num, .string c.s, .int .i64 c.a, .int .i64 c.b] 64)).alloc (.cells #[.int .i64 0, .int .i64 0, .int .i64 0, .int .i64 0, .int .i64 0] 77)))).2.1)
  have HM := hideR (hM.keep (below_al2 w (.cells #[.int .i64 c.num, .string c.s, .int .i64 c.a, .int .i64 c.b] 64) (.cells #[.int .i64 0, .int .i64 0, .int .i64 0, .int .i64 0, .int .i64 0] 77)))
  have HK := hideR ((Chg.refl g w).go (below_al2 w (.cells #[.int .i64 c.num, .string c.s, .int .i64 c.a, .int .i64 c.b] 64) (.cells #[.int .i64 0, .int .i64 0, .int .i64 0, .int .i64 0, .int .i64 0] 77)))
  have c15 : ((w.alloc (.cells #[.int .i64 c.num, .string c.s, .int .i64 c.a, .int .i64 c.b] 64)).alloc (.cells #[.int .i64 0, .int .i64 0, .int .i64 0, .int .i64 0, .int .i64 0] 77)).cell? ⟨g, 15, none⟩ = some (.bool m.taken) := ((unhideR HM).cell 15 (by decide)).1
  unfold CmdS.val
  by_cases b1 : m.taken = true
  · rw [b1] at c15
    by_cases b2 : c.num = m.num
    · have htk : takeV m c.cmd = (m, m.code) := if_pos ⟨b1, b2⟩
      have HF : HeldR (∀ e u, e = .returned (RepV m c.num m.code) → Ref u g m → Chg g w u → TakePost g m c w e u) := fun e u h1 h2 h3 => by
        unfold TakePost
        rw [htk]
        exact ⟨h1, h2, h3⟩
      clear htk
      have t1 : (c.num == m.num) = true := by simp [b2]
      clear b1 b2
      go_enter Tryd.func32, Tryd.ntmps32
      go_wp2_with fail
      clear c15
      generalize ((w.alloc (.cells #[.int .i64 c.num, .string c.s, .int .i64 c.a, .int .i64 c.b] 64)).alloc (.cells #[.int .i64 0, .int .i64 0, .int .i64 0, .int .i64 0, .int .i64 0] 77)) = W1 at *
      have e0 : W1.cell? ⟨w.heap.size, 0, none⟩ = some (.int .i64 c.num) := (four_cells (unhideR HC)).1
      have c16 : W1.cell? ⟨g, 16, none⟩ = some (.int .i64 m.num) := ((unhideR HM).cell 16 (by decide)).1
      refine wp_region_lets [(· = .pointer (some ⟨w.heap.size, 0, none⟩)),
        (· = .int .i64 c.num),
        (· = .pointer (some ⟨g, 0, none⟩)),
        (· = .pointer (some ⟨g, 0, none⟩)),
        (· = .pointer (some ⟨g, 16, none⟩)),
        (· = .int .i64 m.num),
        (· = .bool true)] (by kernel_rfl) (by kernel_rfl) ?_
      refine lexL_step (fun K hK => ⟨by kernel_rfl, ⟨_, rfl⟩, fun n => ?_, fun v hv => ?_⟩)
      · go_simp
        exact lUpon_one
      subst hv
      go_simp
      refine hK _ ?_
      clear hK K
      refine lexL_step (fun K hK => ⟨by kernel_rfl, ⟨_, rfl⟩, fun n => ?_, fun v hv => ?_⟩)
      · go_simp
        exact lUpon_one
      subst hv
      go_simp
      refine hK _ ?_
      clear hK K
      refine lexL_step (fun K hK => ⟨by kernel_rfl, ⟨_, rfl⟩, fun n => ?_, fun v hv => ?_⟩)
      · go_simp
        exact lUpon_one
      subst hv
      go_simp
      refine hK _ ?_
      clear hK K
      refine lexL_step (fun K hK => ⟨by kernel_rfl, ⟨_, rfl⟩, fun n => ?_, fun v hv => ?_⟩)
      · go_simp
        exact lUpon_one
      subst hv
      go_simp
      refine hK _ ?_
      clear hK K
      refine lexL_step (fun K hK => ⟨by kernel_rfl, ⟨_, rfl⟩, fun n => ?_, fun v hv => ?_⟩)
      · go_simp
        exact lUpon_one
      subst hv
      go_simp
      refine hK _ ?_
      clear hK K
      refine lexL_step (fun K hK => ⟨by kernel_rfl, ⟨_, rfl⟩, fun n => ?_, fun v hv => ?_⟩)
      · go_simp
        exact lUpon_one
      subst hv
      go_simp
      refine hK _ ?_
      clear hK K
      refine lexL_step (fun K hK => ⟨by kernel_rfl, ⟨_, rfl⟩, fun n => ?_, fun v hv => ?_⟩)
      · go_simp
        exact lUpon_one
      subst hv
      go_simp
      refine hK _ ?_
      clear hK K
      refine lexL_end ?_
      intro n9
      replace HM := hideR ((unhideR HM).keep (drawn_below W1 n9))
      replace HK := hideR ((unhideR HK).go (drawn_below W1 n9))
      replace HC := hideR (keepB (unhideR HC) (drawn_below W1 n9))
      replace HZ := hideR (keepB (unhideR HZ) (drawn_below W1 n9))
      clear e0 c16
      generalize W1.drewN n9 = W2 at *
      go_wp2_with fail
      refine wp_region_made 0 #[true, true, true, true, true, true, true, true, false] [.lets (· = .pointer (some ⟨g, 0, none⟩)),
        .lets (· = .pointer (some ⟨w.heap.size, 0, none⟩)),
        .lets (· = .int .i64 c.num),
        .lets (· = .pointer (some ⟨g, 0, none⟩)),
        .lets (· = .pointer (some ⟨g, 0, none⟩)),
        .lets (· = .pointer (some ⟨g, 17, none⟩)),
        .lets (· = .int .i64 m.code),
        .lets (· = .agg #[.int .i64 c.num, .int .i64 m.code, .int .i64 m.X, .int .i64 m.Y, .int .i64 m.st])] [] [] (by kernel_rfl) (by kernel_rfl) rfl ?kinds (by kernel_rfl) (by kernel_rfl) (by kernel_rfl) ?_
      case kinds =>
        constructor
        · intro i h
          rcases i with _ | _ | _ | _ | _ | _ | _ | _ | i <;> simp [Kx.isMade] at h
        · intro i h
          rcases i with _ | _ | _ | _ | _ | _ | _ | _ | i <;> simp [Kx.isUse] at h
      refine lexX_step (fun K hK => ⟨by kernel_rfl, ⟨_, rfl⟩, fun v hv => ?_, fun v hv => ?_⟩)
      · go_simp
        exact mUpon_b
      subst hv
      go_simp
      refine hK _ ?_
      clear hK K
      refine lexX_step (fun K hK => ⟨by kernel_rfl, ⟨_, rfl⟩, fun v hv => ?_, fun v hv => ?_⟩)
      · go_simp
        exact mUpon_b
      subst hv
      go_simp
      refine hK _ ?_
      clear hK K
      refine lexX_step (fun K hK => ⟨by kernel_rfl, ⟨_, rfl⟩, fun v hv => ?_, fun v hv => ?_⟩)
      · have c : v.cell? ⟨w.heap.size, 0, none⟩ = some (.int .i64 c.num) := (four_cells (keepB (unhideR HC) hv)).1
        go_simp
        exact mUpon_b
      subst hv
      go_simp
      refine hK _ ?_
      clear hK K
      refine lexX_step (fun K hK => ⟨by kernel_rfl, ⟨_, rfl⟩, fun v hv => ?_, fun v hv => ?_⟩)
      · go_simp
        exact mUpon_b
      subst hv
      go_simp
      refine hK _ ?_
      clear hK K
      refine lexX_step (fun K hK => ⟨by kernel_rfl, ⟨_, rfl⟩, fun v hv => ?_, fun v hv => ?_⟩)
      · go_simp
        exact mUpon_b
      subst hv
      go_simp
      refine hK _ ?_
      clear hK K
      refine lexX_step (fun K hK => ⟨by kernel_rfl, ⟨_, rfl⟩, fun v hv => ?_, fun v hv => ?_⟩)
      · go_simp
        exact mUpon_b
      subst hv
      go_simp
      refine hK _ ?_
      clear hK K
      refine lexX_step (fun K hK => ⟨by kernel_rfl, ⟨_, rfl⟩, fun v hv => ?_, fun v hv => ?_⟩)
      · have c : v.cell? ⟨g, 17, none⟩ = some (.int .i64 m.code) := (((unhideR HM).keep hv).cell 17 (by decide)).1
        go_simp
        exact mUpon_b
      subst hv
      go_simp
      refine hK _ ?_
      clear hK K
      refine lexX_step (fun K hK => ⟨by kernel_rfl, ⟨_, rfl⟩, fun v hv => ?_, fun v hv => ?_⟩)
      · go_simp
        refine (reply_any ((unhideR HM).keep hv) c.num m.code).mono ?_
        rintro e w9 ⟨rfl, k⟩
        exact ⟨_, rfl, rfl, k⟩
      subst hv
      go_simp
      refine hK _ ?_
      clear hK K
      refine lexX_end (fun v5 hv => ?_)
      obtain ⟨⟨z0, z1, z2, z3, z4⟩, y0, y1, y2, y3, y4⟩ := five_cells (keepB (unhideR HZ) hv.low)
      replace HM := hideR ((unhideR HM).keep hv.low)
      replace HK := hideR ((unhideR HK).go hv.low)
      clear hv
      refine wpAny_step (i := 8) (by kernel_rfl) rfl (by kernel_rfl) (fun K hK => ?_)
      unfold Oper.wp
      go_simp
      refine hK _ _ ?_
      clear hK K
      refine wpAny_end (by kernel_rfl) ?_
      go_wp2
      simp [bodyPost, results, Tryd.results32, go_sem, z0, z1, z2, z3, z4]
      exact unhideR HF _ _ rfl ((unhideR HM).five hne1 _ _ _ _ _) ((unhideR HK).five (by omega) _ _ _ _ _)
    · have n1 : ¬ (m.taken = true ∧ c.num = m.num) := fun k => b2 k.2
      have t1 : (c.num == m.num) = false := by simp [b2]
      by_cases b3 : c.num < m.num
      · have htk : takeV m c.cmd = (m, 7) := (if_neg n1).trans (if_pos ⟨b1, b3⟩)
        have HF : HeldR (∀ e u, e = .returned (RepV m c.num 7) → Ref u g m → Chg g w u → TakePost g m c w e u) := fun e u h1 h2 h3 => by
          unfold TakePost
          rw [htk]
          exact ⟨h1, h2, h3⟩
        clear htk
        have t2 : decide (c.num < m.num) = true := decide_eq_true b3
        clear b1 b2 b3 n1
        go_enter Tryd.func32, Tryd.ntmps32
        go_wp2_with fail
        clear c15
        generalize ((w.alloc (.cells #[.int .i64 c.num, .string c.s, .int .i64 c.a, .int .i64 c.b] 64)).alloc (.cells #[.int .i64 0, .int .i64 0, .int .i64 0, .int .i64 0, .int .i64 0] 77)) = W1 at *
        have e0 : W1.cell? ⟨w.heap.size, 0, none⟩ = some (.int .i64 c.num) := (four_cells (unhideR HC)).1
        have c16 : W1.cell? ⟨g, 16, none⟩ = some (.int .i64 m.num) := ((unhideR HM).cell 16 (by decide)).1
        skip
        refine wp_region_lets [(· = .pointer (some ⟨w.heap.size, 0, none⟩)),
          (· = .int .i64 c.num),
          (· = .pointer (some ⟨g, 0, none⟩)),
          (· = .pointer (some ⟨g, 0, none⟩)),
          (· = .pointer (some ⟨g, 16, none⟩)),
          (· = .int .i64 m.num),
          (· = .bool false)] (by kernel_rfl) (by kernel_rfl) ?_
        refine lexL_step (fun K hK => ⟨by kernel_rfl, ⟨_, rfl⟩, fun n => ?_, fun v hv => ?_⟩)
        · go_simp
          exact lUpon_one
        subst hv
        go_simp
        refine hK _ ?_
        clear hK K
        refine lexL_step (fun K hK => ⟨by kernel_rfl, ⟨_, rfl⟩, fun n => ?_, fun v hv => ?_⟩)
        · go_simp
          exact lUpon_one
        subst hv
        go_simp
        refine hK _ ?_
        clear hK K
        refine lexL_step (fun K hK => ⟨by kernel_rfl, ⟨_, rfl⟩, fun n => ?_, fun v hv => ?_⟩)
        · go_simp
          exact lUpon_one
        subst hv
        go_simp
        refine hK _ ?_
        clear hK K
        refine lexL_step (fun K hK => ⟨by kernel_rfl, ⟨_, rfl⟩, fun n => ?_, fun v hv => ?_⟩)
        · go_simp
          exact lUpon_one
        subst hv
        go_simp
        refine hK _ ?_
        clear hK K
        refine lexL_step (fun K hK => ⟨by kernel_rfl, ⟨_, rfl⟩, fun n => ?_, fun v hv => ?_⟩)
        · go_simp
          exact lUpon_one
        subst hv
        go_simp
        refine hK _ ?_
        clear hK K
        refine lexL_step (fun K hK => ⟨by kernel_rfl, ⟨_, rfl⟩, fun n => ?_, fun v hv => ?_⟩)
        · go_simp
          exact lUpon_one
        subst hv
        go_simp
        refine hK _ ?_
        clear hK K
        refine lexL_step (fun K hK => ⟨by kernel_rfl, ⟨_, rfl⟩, fun n => ?_, fun v hv => ?_⟩)
        · go_simp
          exact lUpon_one
        subst hv
        go_simp
        refine hK _ ?_
        clear hK K
        refine lexL_end ?_
        intro n9
        replace HM := hideR ((unhideR HM).keep (drawn_below W1 n9))
        replace HK := hideR ((unhideR HK).go (drawn_below W1 n9))
        replace HC := hideR (keepB (unhideR HC) (drawn_below W1 n9))
        replace HZ := hideR (keepB (unhideR HZ) (drawn_below W1 n9))
        clear e0 c16
        generalize W1.drewN n9 = W2 at *
        go_wp2_with fail
        have e0 : W2.cell? ⟨w.heap.size, 0, none⟩ = some (.int .i64 c.num) := (four_cells (unhideR HC)).1
        have c16 : W2.cell? ⟨g, 16, none⟩ = some (.int .i64 m.num) := ((unhideR HM).cell 16 (by decide)).1
        refine wp_region_lets [(· = .pointer (some ⟨w.heap.size, 0, none⟩)),
          (· = .int .i64 c.num),
          (· = .pointer (some ⟨g, 0, none⟩)),
          (· = .pointer (some ⟨g, 0, none⟩)),
          (· = .pointer (some ⟨g, 16, none⟩)),
          (· = .int .i64 m.num),
          (· = .bool true)] (by kernel_rfl) (by kernel_rfl) ?_
        refine lexL_step (fun K hK => ⟨by kernel_rfl, ⟨_, rfl⟩, fun n => ?_, fun v hv => ?_⟩)
        · go_simp
          exact lUpon_one
        subst hv
        go_simp
        refine hK _ ?_
        clear hK K
        refine lexL_step (fun K hK => ⟨by kernel_rfl, ⟨_, rfl⟩, fun n => ?_, fun v hv => ?_⟩)
        · go_simp
          exact lUpon_one
        subst hv
        go_simp
        refine hK _ ?_
        clear hK K
        refine lexL_step (fun K hK => ⟨by kernel_rfl, ⟨_, rfl⟩, fun n => ?_, fun v hv => ?_⟩)
        · go_simp
          exact lUpon_one
        subst hv
        go_simp
        refine hK _ ?_
        clear hK K
        refine lexL_step (fun K hK => ⟨by kernel_rfl, ⟨_, rfl⟩, fun n => ?_, fun v hv => ?_⟩)
        · go_simp
          exact lUpon_one
        subst hv
        go_simp
        refine hK _ ?_
        clear hK K
        refine lexL_step (fun K hK => ⟨by kernel_rfl, ⟨_, rfl⟩, fun n => ?_, fun v hv => ?_⟩)
        · go_simp
          exact lUpon_one
        subst hv
        go_simp
        refine hK _ ?_
        clear hK K
        refine lexL_step (fun K hK => ⟨by kernel_rfl, ⟨_, rfl⟩, fun n => ?_, fun v hv => ?_⟩)
        · go_simp
          exact lUpon_one
        subst hv
        go_simp
        refine hK _ ?_
        clear hK K
        refine lexL_step (fun K hK => ⟨by kernel_rfl, ⟨_, rfl⟩, fun n => ?_, fun v hv => ?_⟩)
        · go_simp
          exact lUpon_one
        subst hv
        go_simp
        refine hK _ ?_
        clear hK K
        refine lexL_end ?_
        intro n9
        replace HM := hideR ((unhideR HM).keep (drawn_below W2 n9))
        replace HK := hideR ((unhideR HK).go (drawn_below W2 n9))
        replace HC := hideR (keepB (unhideR HC) (drawn_below W2 n9))
        replace HZ := hideR (keepB (unhideR HZ) (drawn_below W2 n9))
        clear e0 c16
        generalize W2.drewN n9 = W3 at *
        have e0 : W3.cell? ⟨w.heap.size, 0, none⟩ = some (.int .i64 c.num) := (four_cells (unhideR HC)).1
        go_wp2_with fail
        refine (reply_any (unhideR HM) c.num 7).mono ?_
        rintro e v5 ⟨rfl, hv⟩
        obtain ⟨⟨z0, z1, z2, z3, z4⟩, y0, y1, y2, y3, y4⟩ := five_cells (keepB (unhideR HZ) hv)
        replace HM := hideR ((unhideR HM).keep hv)
        replace HK := hideR ((unhideR HK).go hv)
        clear hv e0
        go_wp2
        simp [bodyPost, results, Tryd.results32, go_sem, z0, z1, z2, z3, z4]
        exact unhideR HF _ _ rfl ((unhideR HM).five hne1 _ _ _ _ _) ((unhideR HK).five (by omega) _ _ _ _ _)
      · have n2 : ¬ (m.taken = true ∧ c.num < m.num) := fun k => b3 k.2
        have t2 : decide (c.num < m.num) = false := decide_eq_false b3
        obtain ⟨m2, r2, hd⟩ : ∃ m2 r2, doV { m with taken := true, num := c.num, quiet := 0 } c.cmd = (m2, r2) := ⟨_, _, rfl⟩
        have hdo : ∀ u, Ref u g { m with taken := true, num := c.num, quiet := 0 } → Calls Tryd.prog 69 #[.pointer (some ⟨g, 0, none⟩), .agg #[.int .i64 c.num, .string c.s, .int .i64 c.a, .int .i64 c.b]] u (fun e w' => e = .returned (.int .i64 r2) ∧ Ref w' g m2 ∧ Chg g u w') := fun u hu => by
          have h := do_any hu c hF2
          unfold DoPost at h
          rw [hd] at h
          exact h
        have htk : takeV m c.cmd = ({ m2 with code := r2 }, r2) := take_new n1 n2 hd
        have HF : HeldR (∀ e u, e = .returned (RepV { m2 with code := r2 } c.num r2) → Ref u g { m2 with code := r2 } → Chg g w u → TakePost g m c w e u) := fun e u h1 h2 h3 => by
          unfold TakePost
          rw [htk]
          exact ⟨h1, h2, h3⟩
        clear htk
        clear hd
        clear b1 b2 b3 n1 n2
        go_enter Tryd.func32, Tryd.ntmps32
        go_wp2_with fail
        clear c15
        generalize ((w.alloc (.cells #[.int .i64 c.num, .string c.s, .int .i64 c.a, .int .i64 c.b] 64)).alloc (.cells #[.int .i64 0, .int .i64 0, .int .i64 0, .int .i64 0, .int .i64 0] 77)) = W1 at *
        have e0 : W1.cell? ⟨w.heap.size, 0, none⟩ = some (.int .i64 c.num) := (four_cells (unhideR HC)).1
        have c16 : W1.cell? ⟨g, 16, none⟩ = some (.int .i64 m.num) := ((unhideR HM).cell 16 (by decide)).1
        skip
        refine wp_region_lets [(· = .pointer (some ⟨w.heap.size, 0, none⟩)),
          (· = .int .i64 c.num),
          (· = .pointer (some ⟨g, 0, none⟩)),
          (· = .pointer (some ⟨g, 0, none⟩)),
          (· = .pointer (some ⟨g, 16, none⟩)),
          (· = .int .i64 m.num),
          (· = .bool false)] (by kernel_rfl) (by kernel_rfl) ?_
        refine lexL_step (fun K hK => ⟨by kernel_rfl, ⟨_, rfl⟩, fun n => ?_, fun v hv => ?_⟩)
        · go_simp
          exact lUpon_one
        subst hv
        go_simp
        refine hK _ ?_
        clear hK K
        refine lexL_step (fun K hK => ⟨by kernel_rfl, ⟨_, rfl⟩, fun n => ?_, fun v hv => ?_⟩)
        · go_simp
          exact lUpon_one
        subst hv
        go_simp
        refine hK _ ?_
        clear hK K
        refine lexL_step (fun K hK => ⟨by kernel_rfl, ⟨_, rfl⟩, fun n => ?_, fun v hv => ?_⟩)
        · go_simp
          exact lUpon_one
        subst hv
        go_simp
        refine hK _ ?_
        clear hK K
        refine lexL_step (fun K hK => ⟨by kernel_rfl, ⟨_, rfl⟩, fun n => ?_, fun v hv => ?_⟩)
        · go_simp
          exact lUpon_one
        subst hv
        go_simp
        refine hK _ ?_
        clear hK K
        refine lexL_step (fun K hK => ⟨by kernel_rfl, ⟨_, rfl⟩, fun n => ?_, fun v hv => ?_⟩)
        · go_simp
          exact lUpon_one
        subst hv
        go_simp
        refine hK _ ?_
        clear hK K
        refine lexL_step (fun K hK => ⟨by kernel_rfl, ⟨_, rfl⟩, fun n => ?_, fun v hv => ?_⟩)
        · go_simp
          exact lUpon_one
        subst hv
        go_simp
        refine hK _ ?_
        clear hK K
        refine lexL_step (fun K hK => ⟨by kernel_rfl, ⟨_, rfl⟩, fun n => ?_, fun v hv => ?_⟩)
        · go_simp
          exact lUpon_one
        subst hv
        go_simp
        refine hK _ ?_
        clear hK K
        refine lexL_end ?_
        intro n9
        replace HM := hideR ((unhideR HM).keep (drawn_below W1 n9))
        replace HK := hideR ((unhideR HK).go (drawn_below W1 n9))
        replace HC := hideR (keepB (unhideR HC) (drawn_below W1 n9))
        replace HZ := hideR (keepB (unhideR HZ) (drawn_below W1 n9))
        clear e0 c16
        generalize W1.drewN n9 = W2 at *
        go_wp2_with fail
        have e0 : W2.cell? ⟨w.heap.size, 0, none⟩ = some (.int .i64 c.num) := (four_cells (unhideR HC)).1
        have c16 : W2.cell? ⟨g, 16, none⟩ = some (.int .i64 m.num) := ((unhideR HM).cell 16 (by decide)).1
        refine wp_region_lets [(· = .pointer (some ⟨w.heap.size, 0, none⟩)),
          (· = .int .i64 c.num),
          (· = .pointer (some ⟨g, 0, none⟩)),
          (· = .pointer (some ⟨g, 0, none⟩)),
          (· = .pointer (some ⟨g, 16, none⟩)),
          (· = .int .i64 m.num),
          (· = .bool false)] (by kernel_rfl) (by kernel_rfl) ?_
        refine lexL_step (fun K hK => ⟨by kernel_rfl, ⟨_, rfl⟩, fun n => ?_, fun v hv => ?_⟩)
        · go_simp
          exact lUpon_one
        subst hv
        go_simp
        refine hK _ ?_
        clear hK K
        refine lexL_step (fun K hK => ⟨by kernel_rfl, ⟨_, rfl⟩, fun n => ?_, fun v hv => ?_⟩)
        · go_simp
          exact lUpon_one
        subst hv
        go_simp
        refine hK _ ?_
        clear hK K
        refine lexL_step (fun K hK => ⟨by kernel_rfl, ⟨_, rfl⟩, fun n => ?_, fun v hv => ?_⟩)
        · go_simp
          exact lUpon_one
        subst hv
        go_simp
        refine hK _ ?_
        clear hK K
        refine lexL_step (fun K hK => ⟨by kernel_rfl, ⟨_, rfl⟩, fun n => ?_, fun v hv => ?_⟩)
        · go_simp
          exact lUpon_one
        subst hv
        go_simp
        refine hK _ ?_
        clear hK K
        refine lexL_step (fun K hK => ⟨by kernel_rfl, ⟨_, rfl⟩, fun n => ?_, fun v hv => ?_⟩)
        · go_simp
          exact lUpon_one
        subst hv
        go_simp
        refine hK _ ?_
        clear hK K
        refine lexL_step (fun K hK => ⟨by kernel_rfl, ⟨_, rfl⟩, fun n => ?_, fun v hv => ?_⟩)
        · go_simp
          exact lUpon_one
        subst hv
        go_simp
        refine hK _ ?_
        clear hK K
        refine lexL_step (fun K hK => ⟨by kernel_rfl, ⟨_, rfl⟩, fun n => ?_, fun v hv => ?_⟩)
        · go_simp
          exact lUpon_one
        subst hv
        go_simp
        refine hK _ ?_
        clear hK K
        refine lexL_end ?_
        intro n9
        replace HM := hideR ((unhideR HM).keep (drawn_below W2 n9))
        replace HK := hideR ((unhideR HK).go (drawn_below W2 n9))
        replace HC := hideR (keepB (unhideR HC) (drawn_below W2 n9))
        replace HZ := hideR (keepB (unhideR HZ) (drawn_below W2 n9))
        clear e0 c16
        generalize W2.drewN n9 = W3 at *
        have d15 := (unhideR HM).cell 15 (by decide)
        have c15 : W3.cell? ⟨g, 15, none⟩ = some (.bool m.taken) := d15.1
        have f15 := d15.2
        have M1 := (unhideR HM).taken true
        have d16 := M1.cell 16 (by decide)
        have c16 : (W3.setCell ⟨g, 15, none⟩ (.bool true)).cell? ⟨g, 16, none⟩ = some (.int .i64 m.num) := d16.1
        have f16 := d16.2
        have M2 := M1.num c.num
        have d14 := M2.cell 14 (by decide)
        have c14 : ((W3.setCell ⟨g, 15, none⟩ (.bool true)).setCell ⟨g, 16, none⟩ (.int .i64 c.num)).cell? ⟨g, 14, none⟩ = some (.int .i64 m.quiet) := d14.1
        have f14 := d14.2
        have M3 := M2.quiet 0
        have E1 := blk_other (i := 15) (x := .bool true) (unhideR HC) hne0
        have E2 := blk_other (i := 16) (x := .int .i64 c.num) E1 hne0
        have E3 := blk_other (i := 14) (x := .int .i64 0) E2 hne0
        have e0 := (four_cells E1).1
        obtain ⟨q0, q1, q2, q3⟩ := four_cells E3
        replace HC := hideR E3
        replace HZ := hideR (blk_other (i := 14) (x := .int .i64 0) (blk_other (i := 16) (x := .int .i64 c.num) (blk_other (i := 15) (x := .bool true) (unhideR HZ) hne2) hne2) hne2)
        replace HM := hideR M3
        replace HK := hideR ((((unhideR HK).put 15 (.bool true)).put 16 (.int .i64 c.num)).put 14 (.int .i64 0))
        clear E1 E2 E3 M1 M2 M3 d14 d15 d16
        go_wp2_with fail
        clear c15 f15 c16 f16 c14 f14 e0 q0 q1 q2 q3
        generalize (((W3.setCell ⟨g, 15, none⟩ (.bool true)).setCell ⟨g, 16, none⟩ (.int .i64 c.num)).setCell ⟨g, 14, none⟩ (.int .i64 0)) = W4 at *
        refine (hdo W4 (unhideR HM)).mono ?_
        rintro e W5 ⟨rfl, h1, h2⟩
        have HB := h2
        replace HM := hideR (h1.code r2)
        have d17 := h1.cell 17 (by decide)
        have c17 : W5.cell? ⟨g, 17, none⟩ = some (.int .i64 m2.code) := d17.1
        have f17 := d17.2
        replace HC := hideR (blk_other (i := 17) (x := .int .i64 r2) (h2.blk (unhideR HC) hne0) hne0)
        replace HZ := hideR (blk_other (i := 17) (x := .int .i64 r2) (h2.blk (unhideR HZ) hne2) hne2)
        replace HK := hideR (((unhideR HK).trans h2).put 17 (.int .i64 r2))
        clear h1 h2 HB d17
        go_wp2_with fail
        clear c17 f17
        generalize W5.setCell ⟨g, 17, none⟩ (.int .i64 r2) = W6 at *
        obtain ⟨m3, hm3⟩ : ∃ m3 : Mt, m3 = { m2 with code := r2 } := ⟨_, rfl⟩
        have hcode : m3.code = r2 := by rw [hm3]
        rw [← hm3] at HM HF
        rw [← hcode] at HF ⊢
        clear hm3 hcode hdo
        refine wp_region_made 0 #[true, true, true, true, true, true, true, true, false] [.lets (· = .pointer (some ⟨g, 0, none⟩)),
          .lets (· = .pointer (some ⟨w.heap.size, 0, none⟩)),
          .lets (· = .int .i64 c.num),
          .lets (· = .pointer (some ⟨g, 0, none⟩)),
          .lets (· = .pointer (some ⟨g, 0, none⟩)),
          .lets (· = .pointer (some ⟨g, 17, none⟩)),
          .lets (· = .int .i64 m3.code),
          .lets (· = .agg #[.int .i64 c.num, .int .i64 m3.code, .int .i64 m3.X, .int .i64 m3.Y, .int .i64 m3.st])] [] [] (by kernel_rfl) (by kernel_rfl) rfl ?kinds (by kernel_rfl) (by kernel_rfl) (by kernel_rfl) ?_
        case kinds =>
          constructor
          · intro i h
            rcases i with _ | _ | _ | _ | _ | _ | _ | _ | i <;> simp [Kx.isMade] at h
          · intro i h
            rcases i with _ | _ | _ | _ | _ | _ | _ | _ | i <;> simp [Kx.isUse] at h
        refine lexX_step (fun K hK => ⟨by kernel_rfl, ⟨_, rfl⟩, fun v hv => ?_, fun v hv => ?_⟩)
        · go_simp
          exact mUpon_b
        subst hv
        go_simp
        refine hK _ ?_
        clear hK K
        refine lexX_step (fun K hK => ⟨by kernel_rfl, ⟨_, rfl⟩, fun v hv => ?_, fun v hv => ?_⟩)
        · go_simp
          exact mUpon_b
        subst hv
        go_simp
        refine hK _ ?_
        clear hK K
        refine lexX_step (fun K hK => ⟨by kernel_rfl, ⟨_, rfl⟩, fun v hv => ?_, fun v hv => ?_⟩)
        · have c : v.cell? ⟨w.heap.size, 0, none⟩ = some (.int .i64 c.num) := (four_cells (keepB (unhideR HC) hv)).1
          go_simp
          exact mUpon_b
        subst hv
        go_simp
        refine hK _ ?_
        clear hK K
        refine lexX_step (fun K hK => ⟨by kernel_rfl, ⟨_, rfl⟩, fun v hv => ?_, fun v hv => ?_⟩)
        · go_simp
          exact mUpon_b
        subst hv
        go_simp
        refine hK _ ?_
        clear hK K
        refine lexX_step (fun K hK => ⟨by kernel_rfl, ⟨_, rfl⟩, fun v hv => ?_, fun v hv => ?_⟩)
        · go_simp
          exact mUpon_b
        subst hv
        go_simp
        refine hK _ ?_
        clear hK K
        refine lexX_step (fun K hK => ⟨by kernel_rfl, ⟨_, rfl⟩, fun v hv => ?_, fun v hv => ?_⟩)
        · go_simp
          exact mUpon_b
        subst hv
        go_simp
        refine hK _ ?_
        clear hK K
        refine lexX_step (fun K hK => ⟨by kernel_rfl, ⟨_, rfl⟩, fun v hv => ?_, fun v hv => ?_⟩)
        · have c : v.cell? ⟨g, 17, none⟩ = some (.int .i64 m3.code) := (((unhideR HM).keep hv).cell 17 (by decide)).1
          go_simp
          exact mUpon_b
        subst hv
        go_simp
        refine hK _ ?_
        clear hK K
        refine lexX_step (fun K hK => ⟨by kernel_rfl, ⟨_, rfl⟩, fun v hv => ?_, fun v hv => ?_⟩)
        · go_simp
          refine (reply_any ((unhideR HM).keep hv) c.num m3.code).mono ?_
          rintro e w9 ⟨rfl, k⟩
          exact ⟨_, rfl, rfl, k⟩
        subst hv
        go_simp
        refine hK _ ?_
        clear hK K
        refine lexX_end (fun v5 hv => ?_)
        obtain ⟨⟨z0, z1, z2, z3, z4⟩, y0, y1, y2, y3, y4⟩ := five_cells (keepB (unhideR HZ) hv.low)
        replace HM := hideR ((unhideR HM).keep hv.low)
        replace HK := hideR ((unhideR HK).go hv.low)
        clear hv
        refine wpAny_step (i := 8) (by kernel_rfl) rfl (by kernel_rfl) (fun K hK => ?_)
        unfold Oper.wp
        go_simp
        refine hK _ _ ?_
        clear hK K
        refine wpAny_end (by kernel_rfl) ?_
        go_wp2
        simp [bodyPost, results, Tryd.results32, go_sem, z0, z1, z2, z3, z4]
        exact unhideR HF _ _ rfl ((unhideR HM).five hne1 _ _ _ _ _) ((unhideR HK).five (by omega) _ _ _ _ _)
  · have n1 : ¬ (m.taken = true ∧ c.num = m.num) := fun k => b1 k.1
    have n2 : ¬ (m.taken = true ∧ c.num < m.num) := fun k => b1 k.1
    have b0 : m.taken = false := by simpa using b1
    rw [b0] at c15
    obtain ⟨m2, r2, hd⟩ : ∃ m2 r2, doV { m with taken := true, num := c.num, quiet := 0 } c.cmd = (m2, r2) := ⟨_, _, rfl⟩
    have hdo : ∀ u, Ref u g { m with taken := true, num := c.num, quiet := 0 } → Calls Tryd.prog 69 #[.pointer (some ⟨g, 0, none⟩), .agg #[.int .i64 c.num, .string c.s, .int .i64 c.a, .int .i64 c.b]] u (fun e w' => e = .returned (.int .i64 r2) ∧ Ref w' g m2 ∧ Chg g u w') := fun u hu => by
      have h := do_any hu c hF2
      unfold DoPost at h
      rw [hd] at h
      exact h
    have htk : takeV m c.cmd = ({ m2 with code := r2 }, r2) := take_new n1 n2 hd
    have HF : HeldR (∀ e u, e = .returned (RepV { m2 with code := r2 } c.num r2) → Ref u g { m2 with code := r2 } → Chg g w u → TakePost g m c w e u) := fun e u h1 h2 h3 => by
      unfold TakePost
      rw [htk]
      exact ⟨h1, h2, h3⟩
    clear htk
    clear hd
    clear b1 b0 n1 n2
    have f15 : ((w.alloc (.cells #[.int .i64 c.num, .string c.s, .int .i64 c.a, .int .i64 c.b] 64)).alloc (.cells #[.int .i64 0, .int .i64 0, .int .i64 0, .int .i64 0, .int .i64 0] 77)).frozen? ⟨g, 15, none⟩ = false := ((unhideR HM).cell 15 (by decide)).2
    have N1 := hM.taken true
    have d16 := (N1.keep (below_al2 (w.setCell ⟨g, 15, none⟩ (.bool true)) (.cells #[.int .i64 c.num, .string c.s, .int .i64 c.a, .int .i64 c.b] 64) (.cells #[.int .i64 0, .int .i64 0, .int .i64 0, .int .i64 0, .int .i64 0] 77))).cell 16 (by decide)
    have c16 : (((w.setCell ⟨g, 15, none⟩ (.bool true)).alloc (.cells #[.int .i64 c.num, .string c.s, .int .i64 c.a, .int .i64 c.b] 64)).alloc (.cells #[.int .i64 0, .int .i64 0, .int .i64 0, .int .i64 0, .int .i64 0] 77)).cell? ⟨g, 16, none⟩ = some (.int .i64 m.num) := d16.1
    have f16 := d16.2
    have N2 := N1.num c.num
    have d14 := (N2.keep (below_al2 ((w.setCell ⟨g, 15, none⟩ (.bool true)).setCell ⟨g, 16, none⟩ (.int .i64 c.num)) (.cells #[.int .i64 c.num, .string c.s, .int .i64 c.a, .int .i64 c.b] 64) (.cells #[.int .i64 0, .int .i64 0, .int .i64 0, .int .i64 0, .int .i64 0] 77))).cell 14 (by decide)
    have c14 : ((((w.setCell ⟨g, 15, none⟩ (.bool true)).setCell ⟨g, 16, none⟩ (.int .i64 c.num)).alloc (.cells #[.int .i64 c.num, .string c.s, .int .i64 c.a, .int .i64 c.b] 64)).alloc (.cells #[.int .i64 0, .int .i64 0, .int .i64 0, .int .i64 0, .int .i64 0] 77)).cell? ⟨g, 14, none⟩ = some (.int .i64 m.quiet) := d14.1
    have f14 := d14.2
    have N3 := N2.quiet 0
    have hs : (((w.setCell ⟨g, 15, none⟩ (.bool true)).setCell ⟨g, 16, none⟩ (.int .i64 c.num)).setCell ⟨g, 14, none⟩ (.int .i64 0)).heap.size = w.heap.size := by simp [World.setCell]
    have D := two_blocks (Below.refl _ (((((w.setCell ⟨g, 15, none⟩ (.bool true)).setCell ⟨g, 16, none⟩ (.int .i64 c.num)).setCell ⟨g, 14, none⟩ (.int .i64 0)).alloc (.cells #[.int .i64 c.num, .string c.s, .int .i64 c.a, .int .i64 c.b] 64)).alloc (.cells #[.int .i64 0, .int .i64 0, .int .i64 0, .int .i64 0, .int .i64 0] 77)))
    rw [hs] at D
    replace HC := hideR D.1
    replace HZ := hideR D.2.1
    replace HM := hideR (N3.keep (below_al2 (((w.setCell ⟨g, 15, none⟩ (.bool true)).setCell ⟨g, 16, none⟩ (.int .i64 c.num)).setCell ⟨g, 14, none⟩ (.int .i64 0)) (.cells #[.int .i64 c.num, .string c.s, .int .i64 c.a, .int .i64 c.b] 64) (.cells #[.int .i64 0, .int .i64 0, .int .i64 0, .int .i64 0, .int .i64 0] 77)))
    replace HK := hideR (((((Chg.refl g w).put 15 (.bool true)).put 16 (.int .i64 c.num)).put 14 (.int .i64 0)).go (below_al2 (((w.setCell ⟨g, 15, none⟩ (.bool true)).setCell ⟨g, 16, none⟩ (.int .i64 c.num)).setCell ⟨g, 14, none⟩ (.int .i64 0)) (.cells #[.int .i64 c.num, .string c.s, .int .i64 c.a, .int .i64 c.b] 64) (.cells #[.int .i64 0, .int .i64 0, .int .i64 0, .int .i64 0, .int .i64 0] 77)))
    clear D N1 N2 N3 d14 d16 hs
    go_enter Tryd.func32, Tryd.ntmps32
    go_wp2_with fail
    clear c15 f15 c16 f16 c14 f14
    generalize (((((w.setCell ⟨g, 15, none⟩ (.bool true)).setCell ⟨g, 16, none⟩ (.int .i64 c.num)).setCell ⟨g, 14, none⟩ (.int .i64 0)).alloc (.cells #[.int .i64 c.num, .string c.s, .int .i64 c.a, .int .i64 c.b] 64)).alloc (.cells #[.int .i64 0, .int .i64 0, .int .i64 0, .int .i64 0, .int .i64 0] 77)) = W4 at *
    refine (hdo W4 (unhideR HM)).mono ?_
    rintro e W5 ⟨rfl, h1, h2⟩
    have HB := h2
    replace HM := hideR (h1.code r2)
    have d17 := h1.cell 17 (by decide)
    have c17 : W5.cell? ⟨g, 17, none⟩ = some (.int .i64 m2.code) := d17.1
    have f17 := d17.2
    replace HC := hideR (blk_other (i := 17) (x := .int .i64 r2) (h2.blk (unhideR HC) hne0) hne0)
    replace HZ := hideR (blk_other (i := 17) (x := .int .i64 r2) (h2.blk (unhideR HZ) hne2) hne2)
    replace HK := hideR (((unhideR HK).trans h2).put 17 (.int .i64 r2))
    clear h1 h2 HB d17
    go_wp2_with fail
    clear c17 f17
    generalize W5.setCell ⟨g, 17, none⟩ (.int .i64 r2) = W6 at *
    obtain ⟨m3, hm3⟩ : ∃ m3 : Mt, m3 = { m2 with code := r2 } := ⟨_, rfl⟩
    have hcode : m3.code = r2 := by rw [hm3]
    rw [← hm3] at HM HF
    rw [← hcode] at HF ⊢
    clear hm3 hcode hdo
    refine wp_region_made 0 #[true, true, true, true, true, true, true, true, false] [.lets (· = .pointer (some ⟨g, 0, none⟩)),
      .lets (· = .pointer (some ⟨w.heap.size, 0, none⟩)),
      .lets (· = .int .i64 c.num),
      .lets (· = .pointer (some ⟨g, 0, none⟩)),
      .lets (· = .pointer (some ⟨g, 0, none⟩)),
      .lets (· = .pointer (some ⟨g, 17, none⟩)),
      .lets (· = .int .i64 m3.code),
      .lets (· = .agg #[.int .i64 c.num, .int .i64 m3.code, .int .i64 m3.X, .int .i64 m3.Y, .int .i64 m3.st])] [] [] (by kernel_rfl) (by kernel_rfl) rfl ?kinds (by kernel_rfl) (by kernel_rfl) (by kernel_rfl) ?_
    case kinds =>
      constructor
      · intro i h
        rcases i with _ | _ | _ | _ | _ | _ | _ | _ | i <;> simp [Kx.isMade] at h
      · intro i h
        rcases i with _ | _ | _ | _ | _ | _ | _ | _ | i <;> simp [Kx.isUse] at h
    refine lexX_step (fun K hK => ⟨by kernel_rfl, ⟨_, rfl⟩, fun v hv => ?_, fun v hv => ?_⟩)
    · go_simp
      exact mUpon_b
    subst hv
    go_simp
    refine hK _ ?_
    clear hK K
    refine lexX_step (fun K hK => ⟨by kernel_rfl, ⟨_, rfl⟩, fun v hv => ?_, fun v hv => ?_⟩)
    · go_simp
      exact mUpon_b
    subst hv
    go_simp
    refine hK _ ?_
    clear hK K
    refine lexX_step (fun K hK => ⟨by kernel_rfl, ⟨_, rfl⟩, fun v hv => ?_, fun v hv => ?_⟩)
    · have c : v.cell? ⟨w.heap.size, 0, none⟩ = some (.int .i64 c.num) := (four_cells (keepB (unhideR HC) hv)).1
      go_simp
      exact mUpon_b
    subst hv
    go_simp
    refine hK _ ?_
    clear hK K
    refine lexX_step (fun K hK => ⟨by kernel_rfl, ⟨_, rfl⟩, fun v hv => ?_, fun v hv => ?_⟩)
    · go_simp
      exact mUpon_b
    subst hv
    go_simp
    refine hK _ ?_
    clear hK K
    refine lexX_step (fun K hK => ⟨by kernel_rfl, ⟨_, rfl⟩, fun v hv => ?_, fun v hv => ?_⟩)
    · go_simp
      exact mUpon_b
    subst hv
    go_simp
    refine hK _ ?_
    clear hK K
    refine lexX_step (fun K hK => ⟨by kernel_rfl, ⟨_, rfl⟩, fun v hv => ?_, fun v hv => ?_⟩)
    · go_simp
      exact mUpon_b
    subst hv
    go_simp
    refine hK _ ?_
    clear hK K
    refine lexX_step (fun K hK => ⟨by kernel_rfl, ⟨_, rfl⟩, fun v hv => ?_, fun v hv => ?_⟩)
    · have c : v.cell? ⟨g, 17, none⟩ = some (.int .i64 m3.code) := (((unhideR HM).keep hv).cell 17 (by decide)).1
      go_simp
      exact mUpon_b
    subst hv
    go_simp
    refine hK _ ?_
    clear hK K
    refine lexX_step (fun K hK => ⟨by kernel_rfl, ⟨_, rfl⟩, fun v hv => ?_, fun v hv => ?_⟩)
    · go_simp
      refine (reply_any ((unhideR HM).keep hv) c.num m3.code).mono ?_
      rintro e w9 ⟨rfl, k⟩
      exact ⟨_, rfl, rfl, k⟩
    subst hv
    go_simp
    refine hK _ ?_
    clear hK K
    refine lexX_end (fun v5 hv => ?_)
    obtain ⟨⟨z0, z1, z2, z3, z4⟩, y0, y1, y2, y3, y4⟩ := five_cells (keepB (unhideR HZ) hv.low)
    replace HM := hideR ((unhideR HM).keep hv.low)
    replace HK := hideR ((unhideR HK).go hv.low)
    clear hv
    refine wpAny_step (i := 8) (by kernel_rfl) rfl (by kernel_rfl) (fun K hK => ?_)
    unfold Oper.wp
    go_simp
    refine hK _ _ ?_
    clear hK K
    refine wpAny_end (by kernel_rfl) ?_
    go_wp2
    simp [bodyPost, results, Tryd.results32, go_sem, z0, z1, z2, z3, z4]
    exact unhideR HF _ _ rfl ((unhideR HM).five hne1 _ _ _ _ _) ((unhideR HK).five (by omega) _ _ _ _ _)
end Go.Proofs.YteoappoijihomahDoor
