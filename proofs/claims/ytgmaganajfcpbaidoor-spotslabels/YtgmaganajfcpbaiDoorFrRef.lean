/-
  The document's pictures: which are right, by contract.
-/
import Derived.Test.YtgmaganajfcpbaiDoorIcK
import Derived.Test.YtgmaganajfcpbaiDoorFrP
import Derived.Test.YtgmaganajfcpbaiDoorLoose7
import Derived.Deep.QuietTactic
namespace Go.Proofs.YtgmaganajfcpbaiDoor
open Go Go.RowKit

/-- a picture in memory. -/
structure PicAt (w : World) (b o : Nat) (ad : Option Addr) (cap : Nat) (p : Pic) : Prop where
  low : b < w.heap.size
  c0 : w.cell? ⟨b, o, none⟩ = some (.int .i64 p.wide)
  c1 : w.cell? ⟨b, o + 1, none⟩ = some (.int .i64 p.high)
  c2 : w.cell? ⟨b, o + 2, none⟩ = some (.slice ad p.L.length cap)
  row : ICame w ad p.L
theorem PicAt.below {w v : World} {b o : Nat} {ad : Option Addr} {cap : Nat} {p : Pic} (h : PicAt w b o ad cap p) (k : Below w.heap.size w v) : PicAt v b o ad cap p :=
  ⟨Nat.lt_of_lt_of_le h.low k.size, (k.cell (p := ⟨b, o, none⟩) h.low).trans h.c0, (k.cell (p := ⟨b, o + 1, none⟩) h.low).trans h.c1, (k.cell (p := ⟨b, o + 2, none⟩) h.low).trans h.c2, h.row.below k⟩
set_option maxRecDepth 100000 in
set_option maxHeartbeats 3200000 in
theorem pictureError_any {w : World} {b o cap : Nat} {ad : Option Addr} {p : Pic} (h : PicAt w b o ad cap p) (hl : p.L.length * 8 ≤ 140737488355328) :
    Calls Tryd.prog 28 #[.pointer (some ⟨b, o, none⟩)] w fun e w' => e = .returned (.int .i64 (picE p)) ∧ Below w.heap.size w w' := by
  obtain ⟨hlow, c0, c1, c2, hrow⟩ := h
  have HR := hideR hrow
  clear hrow
  by_cases q1 : 256 < p.wide ∨ 256 < p.high
  · have e : picE p = 2 := by unfold picE; rw [if_pos q1]
    rw [e]
    clear e
    have q1' : 256 < p.wide ∨ (p.wide ≤ 256 ∧ 256 < p.high) := by omega
    clear q1
    rcases q1' with q | ⟨q, q'⟩
    all_goals
      go_enter Tryd.func28, Tryd.ntmps28
      go_wp2
      go_ret
      exact ⟨rfl, Below.refl _ _⟩
  · have w2 : p.wide ≤ 256 := by omega
    have h2 : p.high ≤ 256 := by omega
    by_cases q2 : p.wide < 1 ∨ p.high < 1 ∨ (p.L.length : Int) ≠ p.wide * p.high
    · have e : picE p = 5 := by unfold picE; rw [if_neg q1, if_pos q2]
      rw [e]
      clear e q1
      by_cases x1 : p.wide < 1
      · have t1 : decide (p.wide < 1) = true := decide_eq_true x1
        clear q2
        go_enter Tryd.func28, Tryd.ntmps28
        go_wp2
        refine wp_region_lets [(· = .pointer (some ⟨b, o, none⟩)),
          (· = .pointer (some ⟨b, o, none⟩)),
          (· = .pointer (some ⟨b, o, none⟩)),
          (· = .int .i64 p.wide),
          (· = .bool true),
          (· = .bool true),
          (· = undef),
          (· = undef),
          (· = undef),
          (· = undef),
          (· = undef),
          (· = .bool true),
          (· = .bool true),
          (· = undef),
          (· = undef),
          (· = undef),
          (· = undef),
          (· = undef),
          (· = undef),
          (· = undef),
          (· = undef),
          (· = undef),
          (· = undef),
          (· = undef),
          (· = undef),
          (· = undef),
          (· = undef),
          (· = undef),
          (· = .bool true)] (by kernel_rfl) (by kernel_rfl) ?_
        refine lexL_step (fun K hK => ⟨by kernel_rfl, ⟨_, rfl⟩, fun n => ?_, fun v hv => ?_⟩)
        · go_simp
          exact lUpon_one
        subst hv
        go_simp
        refine hK _ ?_
        clear hK K
        refine lexL_step (fun K hK => ⟨by kernel_rfl, ⟨_, rfl⟩, fun n => ?_, fun v hv => ?_⟩)
        · go_simp
          exact lUpon_one
        subst hv
        go_simp
        refine hK _ ?_
        clear hK K
        refine lexL_step (fun K hK => ⟨by kernel_rfl, ⟨_, rfl⟩, fun n => ?_, fun v hv => ?_⟩)
        · go_simp
          exact lUpon_one
        subst hv
        go_simp
        refine hK _ ?_
        clear hK K
        refine lexL_step (fun K hK => ⟨by kernel_rfl, ⟨_, rfl⟩, fun n => ?_, fun v hv => ?_⟩)
        · go_simp
          exact lUpon_one
        subst hv
        go_simp
        refine hK _ ?_
        clear hK K
        refine lexL_step (fun K hK => ⟨by kernel_rfl, ⟨_, rfl⟩, fun n => ?_, fun v hv => ?_⟩)
        · go_simp
          exact lUpon_one
        subst hv
        go_simp
        refine hK _ ?_
        clear hK K
        refine lexL_step (fun K hK => ⟨by kernel_rfl, ⟨_, rfl⟩, fun n => ?_, fun v hv => ?_⟩)
        · go_simp
          exact lUpon_one
        subst hv
        go_simp
        refine hK _ ?_
        clear hK K
        refine lexL_skip (fun K hK => ⟨by kernel_rfl, ?_⟩)
        go_simp
        refine hK _ ?_
        clear hK K
        refine lexL_skip (fun K hK => ⟨by kernel_rfl, ?_⟩)
        go_simp
        refine hK _ ?_
        clear hK K
        refine lexL_skip (fun K hK => ⟨by kernel_rfl, ?_⟩)
        go_simp
        refine hK _ ?_
        clear hK K
        refine lexL_skip (fun K hK => ⟨by kernel_rfl, ?_⟩)
        go_simp
        refine hK _ ?_
        clear hK K
        refine lexL_skip (fun K hK => ⟨by kernel_rfl, ?_⟩)
        go_simp
        refine hK _ ?_
        clear hK K
        refine lexL_step (fun K hK => ⟨by kernel_rfl, ⟨_, rfl⟩, fun n => ?_, fun v hv => ?_⟩)
        · go_simp
          exact lUpon_one
        subst hv
        go_simp
        refine hK _ ?_
        clear hK K
        refine lexL_step (fun K hK => ⟨by kernel_rfl, ⟨_, rfl⟩, fun n => ?_, fun v hv => ?_⟩)
        · go_simp
          exact lUpon_one
        subst hv
        go_simp
        refine hK _ ?_
        clear hK K
        refine lexL_skip (fun K hK => ⟨by kernel_rfl, ?_⟩)
        go_simp
        refine hK _ ?_
        clear hK K
        refine lexL_skip (fun K hK => ⟨by kernel_rfl, ?_⟩)
        go_simp
        refine hK _ ?_
        clear hK K
        refine lexL_skip (fun K hK => ⟨by kernel_rfl, ?_⟩)
        go_simp
        refine hK _ ?_
        clear hK K
        refine lexL_skip (fun K hK => ⟨by kernel_rfl, ?_⟩)
        go_simp
        refine hK _ ?_
        clear hK K
        refine lexL_skip (fun K hK => ⟨by kernel_rfl, ?_⟩)
        go_simp
        refine hK _ ?_
        clear hK K
        refine lexL_skip (fun K hK => ⟨by kernel_rfl, ?_⟩)
        go_simp
        refine hK _ ?_
        clear hK K
        refine lexL_skip (fun K hK => ⟨by kernel_rfl, ?_⟩)
        go_simp
        refine hK _ ?_
        clear hK K
        refine lexL_skip (fun K hK => ⟨by kernel_rfl, ?_⟩)
        go_simp
        refine hK _ ?_
        clear hK K
        refine lexL_skip (fun K hK => ⟨by kernel_rfl, ?_⟩)
        go_simp
        refine hK _ ?_
        clear hK K
        refine lexL_skip (fun K hK => ⟨by kernel_rfl, ?_⟩)
        go_simp
        refine hK _ ?_
        clear hK K
        refine lexL_skip (fun K hK => ⟨by kernel_rfl, ?_⟩)
        go_simp
        refine hK _ ?_
        clear hK K
        refine lexL_skip (fun K hK => ⟨by kernel_rfl, ?_⟩)
        go_simp
        refine hK _ ?_
        clear hK K
        refine lexL_skip (fun K hK => ⟨by kernel_rfl, ?_⟩)
        go_simp
        refine hK _ ?_
        clear hK K
        refine lexL_skip (fun K hK => ⟨by kernel_rfl, ?_⟩)
        go_simp
        refine hK _ ?_
        clear hK K
        refine lexL_skip (fun K hK => ⟨by kernel_rfl, ?_⟩)
        go_simp
        refine hK _ ?_
        clear hK K
        refine lexL_step (fun K hK => ⟨by kernel_rfl, ⟨_, rfl⟩, fun n => ?_, fun v hv => ?_⟩)
        · go_simp
          exact lUpon_one
        subst hv
        go_simp
        refine hK _ ?_
        clear hK K
        refine lexL_end ?_
        intro n9
        have hb := drawn_below w n9
        go_wp2
        go_ret
        exact ⟨rfl, hb⟩
      · have t1 : decide (p.wide < 1) = false := decide_eq_false x1
        by_cases x2 : p.high < 1
        · have t2 : decide (p.high < 1) = true := decide_eq_true x2
          clear q2
          go_enter Tryd.func28, Tryd.ntmps28
          go_wp2
          refine wp_region_lets [(· = .pointer (some ⟨b, o, none⟩)),
            (· = .pointer (some ⟨b, o, none⟩)),
            (· = .pointer (some ⟨b, o, none⟩)),
            (· = .int .i64 p.wide),
            (· = .bool false),
            (· = .bool false),
            (· = .pointer (some ⟨b, o, none⟩)),
            (· = .pointer (some ⟨b, o, none⟩)),
            (· = .pointer (some ⟨b, o + 1, none⟩)),
            (· = .int .i64 p.high),
            (· = .bool true),
            (· = .bool true),
            (· = .bool true),
            (· = undef),
            (· = undef),
            (· = undef),
            (· = undef),
            (· = undef),
            (· = undef),
            (· = undef),
            (· = undef),
            (· = undef),
            (· = undef),
            (· = undef),
            (· = undef),
            (· = undef),
            (· = undef),
            (· = undef),
            (· = .bool true)] (by kernel_rfl) (by kernel_rfl) ?_
          refine lexL_step (fun K hK => ⟨by kernel_rfl, ⟨_, rfl⟩, fun n => ?_, fun v hv => ?_⟩)
          · go_simp
            exact lUpon_one
          subst hv
          go_simp
          refine hK _ ?_
          clear hK K
          refine lexL_step (fun K hK => ⟨by kernel_rfl, ⟨_, rfl⟩, fun n => ?_, fun v hv => ?_⟩)
          · go_simp
            exact lUpon_one
          subst hv
          go_simp
          refine hK _ ?_
          clear hK K
          refine lexL_step (fun K hK => ⟨by kernel_rfl, ⟨_, rfl⟩, fun n => ?_, fun v hv => ?_⟩)
          · go_simp
            exact lUpon_one
          subst hv
          go_simp
          refine hK _ ?_
          clear hK K
          refine lexL_step (fun K hK => ⟨by kernel_rfl, ⟨_, rfl⟩, fun n => ?_, fun v hv => ?_⟩)
          · go_simp
            exact lUpon_one
          subst hv
          go_simp
          refine hK _ ?_
          clear hK K
          refine lexL_step (fun K hK => ⟨by kernel_rfl, ⟨_, rfl⟩, fun n => ?_, fun v hv => ?_⟩)
          · go_simp
            exact lUpon_one
          subst hv
          go_simp
          refine hK _ ?_
          clear hK K
          refine lexL_step (fun K hK => ⟨by kernel_rfl, ⟨_, rfl⟩, fun n => ?_, fun v hv => ?_⟩)
          · go_simp
            exact lUpon_one
          subst hv
          go_simp
          refine hK _ ?_
          clear hK K
          refine lexL_step (fun K hK => ⟨by kernel_rfl, ⟨_, rfl⟩, fun n => ?_, fun v hv => ?_⟩)
          · go_simp
            exact lUpon_one
          subst hv
          go_simp
          refine hK _ ?_
          clear hK K
          refine lexL_step (fun K hK => ⟨by kernel_rfl, ⟨_, rfl⟩, fun n => ?_, fun v hv => ?_⟩)
          · go_simp
            exact lUpon_one
          subst hv
          go_simp
          refine hK _ ?_
          clear hK K
          refine lexL_step (fun K hK => ⟨by kernel_rfl, ⟨_, rfl⟩, fun n => ?_, fun v hv => ?_⟩)
          · go_simp
            exact lUpon_one
          subst hv
          go_simp
          refine hK _ ?_
          clear hK K
          refine lexL_step (fun K hK => ⟨by kernel_rfl, ⟨_, rfl⟩, fun n => ?_, fun v hv => ?_⟩)
          · go_simp
            exact lUpon_one
          subst hv
          go_simp
          refine hK _ ?_
          clear hK K
          refine lexL_step (fun K hK => ⟨by kernel_rfl, ⟨_, rfl⟩, fun n => ?_, fun v hv => ?_⟩)
          · go_simp
            exact lUpon_one
          subst hv
          go_simp
          refine hK _ ?_
          clear hK K
          refine lexL_step (fun K hK => ⟨by kernel_rfl, ⟨_, rfl⟩, fun n => ?_, fun v hv => ?_⟩)
          · go_simp
            exact lUpon_one
          subst hv
          go_simp
          refine hK _ ?_
          clear hK K
          refine lexL_step (fun K hK => ⟨by kernel_rfl, ⟨_, rfl⟩, fun n => ?_, fun v hv => ?_⟩)
          · go_simp
            exact lUpon_one
          subst hv
          go_simp
          refine hK _ ?_
          clear hK K
          refine lexL_skip (fun K hK => ⟨by kernel_rfl, ?_⟩)
          go_simp
          refine hK _ ?_
          clear hK K
          refine lexL_skip (fun K hK => ⟨by kernel_rfl, ?_⟩)
          go_simp
          refine hK _ ?_
          clear hK K
          refine lexL_skip (fun K hK => ⟨by kernel_rfl, ?_⟩)
          go_simp
          refine hK _ ?_
          clear hK K
          refine lexL_skip (fun K hK => ⟨by kernel_rfl, ?_⟩)
          go_simp
          refine hK _ ?_
          clear hK K
          refine lexL_skip (fun K hK => ⟨by kernel_rfl, ?_⟩)
          go_simp
          refine hK _ ?_
          clear hK K
          refine lexL_skip (fun K hK => ⟨by kernel_rfl, ?_⟩)
          go_simp
          refine hK _ ?_
          clear hK K
          refine lexL_skip (fun K hK => ⟨by kernel_rfl, ?_⟩)
          go_simp
          refine hK _ ?_
          clear hK K
          refine lexL_skip (fun K hK => ⟨by kernel_rfl, ?_⟩)
          go_simp
          refine hK _ ?_
          clear hK K
          refine lexL_skip (fun K hK => ⟨by kernel_rfl, ?_⟩)
          go_simp
          refine hK _ ?_
          clear hK K
          refine lexL_skip (fun K hK => ⟨by kernel_rfl, ?_⟩)
          go_simp
          refine hK _ ?_
          clear hK K
          refine lexL_skip (fun K hK => ⟨by kernel_rfl, ?_⟩)
          go_simp
          refine hK _ ?_
          clear hK K
          refine lexL_skip (fun K hK => ⟨by kernel_rfl, ?_⟩)
          go_simp
          refine hK _ ?_
          clear hK K
          refine lexL_skip (fun K hK => ⟨by kernel_rfl, ?_⟩)
          go_simp
          refine hK _ ?_
          clear hK K
          refine lexL_skip (fun K hK => ⟨by kernel_rfl, ?_⟩)
          go_simp
          refine hK _ ?_
          clear hK K
          refine lexL_skip (fun K hK => ⟨by kernel_rfl, ?_⟩)
          go_simp
          refine hK _ ?_
          clear hK K
          refine lexL_step (fun K hK => ⟨by kernel_rfl, ⟨_, rfl⟩, fun n => ?_, fun v hv => ?_⟩)
          · go_simp
            exact lUpon_one
          subst hv
          go_simp
          refine hK _ ?_
          clear hK K
          refine lexL_end ?_
          intro n9
          have hb := drawn_below w n9
          go_wp2
          go_ret
          exact ⟨rfl, hb⟩
        · have t2 : decide (p.high < 1) = false := decide_eq_false x2
          have t3 : ((p.L.length : Int) != p.wide * p.high) = true := by simp; omega
          have ha : p.wide * p.high ≤ 256 * 256 := Int.mul_le_mul w2 h2 (by omega) (by omega)
          have hz : 0 ≤ p.wide * p.high := Int.mul_nonneg (by omega) (by omega)
          have wr : IntKind.i64.wrap (p.wide * p.high) = p.wide * p.high := iwrap (by omega) (by omega)
          clear q2
          go_enter Tryd.func28, Tryd.ntmps28
          go_wp2
          refine wp_region_lets [(· = .pointer (some ⟨b, o, none⟩)),
            (· = .pointer (some ⟨b, o, none⟩)),
            (· = .pointer (some ⟨b, o, none⟩)),
            (· = .int .i64 p.wide),
            (· = .bool false),
            (· = .bool false),
            (· = .pointer (some ⟨b, o, none⟩)),
            (· = .pointer (some ⟨b, o, none⟩)),
            (· = .pointer (some ⟨b, o + 1, none⟩)),
            (· = .int .i64 p.high),
            (· = .bool false),
            (· = .bool false),
            (· = .bool false),
            (· = .pointer (some ⟨b, o, none⟩)),
            (· = .pointer (some ⟨b, o, none⟩)),
            (· = .pointer (some ⟨b, o + 2, none⟩)),
            (· = .slice ad p.L.length cap),
            (· = .int .i64 (p.L.length : Nat)),
            (· = .pointer (some ⟨b, o, none⟩)),
            (· = .pointer (some ⟨b, o, none⟩)),
            (· = .pointer (some ⟨b, o, none⟩)),
            (· = .int .i64 p.wide),
            (· = .pointer (some ⟨b, o, none⟩)),
            (· = .pointer (some ⟨b, o, none⟩)),
            (· = .pointer (some ⟨b, o + 1, none⟩)),
            (· = .int .i64 p.high),
            (· = .int .i64 (p.wide * p.high)),
            (· = .bool true),
            (· = .bool true)] (by kernel_rfl) (by kernel_rfl) ?_
          refine lexL_step (fun K hK => ⟨by kernel_rfl, ⟨_, rfl⟩, fun n => ?_, fun v hv => ?_⟩)
          · go_simp
            exact lUpon_one
          subst hv
          go_simp
          refine hK _ ?_
          clear hK K
          refine lexL_step (fun K hK => ⟨by kernel_rfl, ⟨_, rfl⟩, fun n => ?_, fun v hv => ?_⟩)
          · go_simp
            exact lUpon_one
          subst hv
          go_simp
          refine hK _ ?_
          clear hK K
          refine lexL_step (fun K hK => ⟨by kernel_rfl, ⟨_, rfl⟩, fun n => ?_, fun v hv => ?_⟩)
          · go_simp
            exact lUpon_one
          subst hv
          go_simp
          refine hK _ ?_
          clear hK K
          refine lexL_step (fun K hK => ⟨by kernel_rfl, ⟨_, rfl⟩, fun n => ?_, fun v hv => ?_⟩)
          · go_simp
            exact lUpon_one
          subst hv
          go_simp
          refine hK _ ?_
          clear hK K
          refine lexL_step (fun K hK => ⟨by kernel_rfl, ⟨_, rfl⟩, fun n => ?_, fun v hv => ?_⟩)
          · go_simp
            exact lUpon_one
          subst hv
          go_simp
          refine hK _ ?_
          clear hK K
          refine lexL_step (fun K hK => ⟨by kernel_rfl, ⟨_, rfl⟩, fun n => ?_, fun v hv => ?_⟩)
          · go_simp
            exact lUpon_one
          subst hv
          go_simp
          refine hK _ ?_
          clear hK K
          refine lexL_step (fun K hK => ⟨by kernel_rfl, ⟨_, rfl⟩, fun n => ?_, fun v hv => ?_⟩)
          · go_simp
            exact lUpon_one
          subst hv
          go_simp
          refine hK _ ?_
          clear hK K
          refine lexL_step (fun K hK => ⟨by kernel_rfl, ⟨_, rfl⟩, fun n => ?_, fun v hv => ?_⟩)
          · go_simp
            exact lUpon_one
          subst hv
          go_simp
          refine hK _ ?_
          clear hK K
          refine lexL_step (fun K hK => ⟨by kernel_rfl, ⟨_, rfl⟩, fun n => ?_, fun v hv => ?_⟩)
          · go_simp
            exact lUpon_one
          subst hv
          go_simp
          refine hK _ ?_
          clear hK K
          refine lexL_step (fun K hK => ⟨by kernel_rfl, ⟨_, rfl⟩, fun n => ?_, fun v hv => ?_⟩)
          · go_simp
            exact lUpon_one
          subst hv
          go_simp
          refine hK _ ?_
          clear hK K
          refine lexL_step (fun K hK => ⟨by kernel_rfl, ⟨_, rfl⟩, fun n => ?_, fun v hv => ?_⟩)
          · go_simp
            exact lUpon_one
          subst hv
          go_simp
          refine hK _ ?_
          clear hK K
          refine lexL_step (fun K hK => ⟨by kernel_rfl, ⟨_, rfl⟩, fun n => ?_, fun v hv => ?_⟩)
          · go_simp
            exact lUpon_one
          subst hv
          go_simp
          refine hK _ ?_
          clear hK K
          refine lexL_step (fun K hK => ⟨by kernel_rfl, ⟨_, rfl⟩, fun n => ?_, fun v hv => ?_⟩)
          · go_simp
            exact lUpon_one
          subst hv
          go_simp
          refine hK _ ?_
          clear hK K
          refine lexL_step (fun K hK => ⟨by kernel_rfl, ⟨_, rfl⟩, fun n => ?_, fun v hv => ?_⟩)
          · go_simp
            exact lUpon_one
          subst hv
          go_simp
          refine hK _ ?_
          clear hK K
          refine lexL_step (fun K hK => ⟨by kernel_rfl, ⟨_, rfl⟩, fun n => ?_, fun v hv => ?_⟩)
          · go_simp
            exact lUpon_one
          subst hv
          go_simp
          refine hK _ ?_
          clear hK K
          refine lexL_step (fun K hK => ⟨by kernel_rfl, ⟨_, rfl⟩, fun n => ?_, fun v hv => ?_⟩)
          · go_simp
            exact lUpon_one
          subst hv
          go_simp
          refine hK _ ?_
          clear hK K
          refine lexL_step (fun K hK => ⟨by kernel_rfl, ⟨_, rfl⟩, fun n => ?_, fun v hv => ?_⟩)
          · go_simp
            exact lUpon_one
          subst hv
          go_simp
          refine hK _ ?_
          clear hK K
          refine lexL_step (fun K hK => ⟨by kernel_rfl, ⟨_, rfl⟩, fun n => ?_, fun v hv => ?_⟩)
          · go_simp
            exact lUpon_one
          subst hv
          go_simp
          refine hK _ ?_
          clear hK K
          refine lexL_step (fun K hK => ⟨by kernel_rfl, ⟨_, rfl⟩, fun n => ?_, fun v hv => ?_⟩)
          · go_simp
            exact lUpon_one
          subst hv
          go_simp
          refine hK _ ?_
          clear hK K
          refine lexL_step (fun K hK => ⟨by kernel_rfl, ⟨_, rfl⟩, fun n => ?_, fun v hv => ?_⟩)
          · go_simp
            exact lUpon_one
          subst hv
          go_simp
          refine hK _ ?_
          clear hK K
          refine lexL_step (fun K hK => ⟨by kernel_rfl, ⟨_, rfl⟩, fun n => ?_, fun v hv => ?_⟩)
          · go_simp
            exact lUpon_one
          subst hv
          go_simp
          refine hK _ ?_
          clear hK K
          refine lexL_step (fun K hK => ⟨by kernel_rfl, ⟨_, rfl⟩, fun n => ?_, fun v hv => ?_⟩)
          · go_simp
            exact lUpon_one
          subst hv
          go_simp
          refine hK _ ?_
          clear hK K
          refine lexL_step (fun K hK => ⟨by kernel_rfl, ⟨_, rfl⟩, fun n => ?_, fun v hv => ?_⟩)
          · go_simp
            exact lUpon_one
          subst hv
          go_simp
          refine hK _ ?_
          clear hK K
          refine lexL_step (fun K hK => ⟨by kernel_rfl, ⟨_, rfl⟩, fun n => ?_, fun v hv => ?_⟩)
          · go_simp
            exact lUpon_one
          subst hv
          go_simp
          refine hK _ ?_
          clear hK K
          refine lexL_step (fun K hK => ⟨by kernel_rfl, ⟨_, rfl⟩, fun n => ?_, fun v hv => ?_⟩)
          · go_simp
            exact lUpon_one
          subst hv
          go_simp
          refine hK _ ?_
          clear hK K
          refine lexL_step (fun K hK => ⟨by kernel_rfl, ⟨_, rfl⟩, fun n => ?_, fun v hv => ?_⟩)
          · go_simp
            exact lUpon_one
          subst hv
          go_simp
          refine hK _ ?_
          clear hK K
          refine lexL_step (fun K hK => ⟨by kernel_rfl, ⟨_, rfl⟩, fun n => ?_, fun v hv => ?_⟩)
          · go_simp
            exact lUpon_one
          subst hv
          go_simp
          refine hK _ ?_
          clear hK K
          refine lexL_step (fun K hK => ⟨by kernel_rfl, ⟨_, rfl⟩, fun n => ?_, fun v hv => ?_⟩)
          · go_simp
            exact lUpon_one
          subst hv
          go_simp
          refine hK _ ?_
          clear hK K
          refine lexL_step (fun K hK => ⟨by kernel_rfl, ⟨_, rfl⟩, fun n => ?_, fun v hv => ?_⟩)
          · go_simp
            exact lUpon_one
          subst hv
          go_simp
          refine hK _ ?_
          clear hK K
          refine lexL_end ?_
          intro n9
          have hb := drawn_below w n9
          go_wp2
          go_ret
          exact ⟨rfl, hb⟩
    · have x1 : 1 ≤ p.wide := by omega
      have x2 : 1 ≤ p.high := by omega
      have x3 : (p.L.length : Int) = p.wide * p.high := Decidable.byContradiction fun k => q2 (.inr (.inr k))
      have t1 : decide (p.wide < 1) = false := decide_eq_false (by omega)
      have t2 : decide (p.high < 1) = false := decide_eq_false (by omega)
      have t3 : ((p.L.length : Int) != p.wide * p.high) = false := by simp; omega
      have ha : p.wide * p.high ≤ 256 * 256 := Int.mul_le_mul w2 h2 (by omega) (by omega)
      have hz : 0 ≤ p.wide * p.high := Int.mul_nonneg (by omega) (by omega)
      have wr : IntKind.i64.wrap (p.wide * p.high) = p.wide * p.high := iwrap (by omega) (by omega)
      have hn : p.L.length ≤ 65536 := by omega
      have HB : HeldR (∀ k, k < p.L.length → ¬ (0 ≤ p.L.getD k 0 ∧ p.L.getD k 0 ≤ 65535) → picE p = 5) := fun k hk q => by
        unfold picE
        rw [if_neg q1, if_neg q2, if_pos]
        cases e : p.L.all countB with
        | false => rfl
        | true =>
          have := all_at e hk
          unfold countB at this
          simp at this
          exact absurd this q
      have HG : HeldR ((∀ k, k < p.L.length → 0 ≤ p.L.getD k 0 ∧ p.L.getD k 0 ≤ 65535) → picE p = 0) := fun q => by
        unfold picE
        rw [if_neg q1, if_neg q2, if_neg]
        rw [all_of (fun k hk => by have := q k hk; unfold countB; simp; exact this)]
        simp
      have HX3 := hideR x3
      generalize picE p = E at *
      clear q1 q2 x3
      go_enter Tryd.func28, Tryd.ntmps28
      go_wp2
      refine wp_region_lets [(· = .pointer (some ⟨b, o, none⟩)),
        (· = .pointer (some ⟨b, o, none⟩)),
        (· = .pointer (some ⟨b, o, none⟩)),
        (· = .int .i64 p.wide),
        (· = .bool false),
        (· = .bool false),
        (· = .pointer (some ⟨b, o, none⟩)),
        (· = .pointer (some ⟨b, o, none⟩)),
        (· = .pointer (some ⟨b, o + 1, none⟩)),
        (· = .int .i64 p.high),
        (· = .bool false),
        (· = .bool false),
        (· = .bool false),
        (· = .pointer (some ⟨b, o, none⟩)),
        (· = .pointer (some ⟨b, o, none⟩)),
        (· = .pointer (some ⟨b, o + 2, none⟩)),
        (· = .slice ad p.L.length cap),
        (· = .int .i64 (p.L.length : Nat)),
        (· = .pointer (some ⟨b, o, none⟩)),
        (· = .pointer (some ⟨b, o, none⟩)),
        (· = .pointer (some ⟨b, o, none⟩)),
        (· = .int .i64 p.wide),
        (· = .pointer (some ⟨b, o, none⟩)),
        (· = .pointer (some ⟨b, o, none⟩)),
        (· = .pointer (some ⟨b, o + 1, none⟩)),
        (· = .int .i64 p.high),
        (· = .int .i64 (p.wide * p.high)),
        (· = .bool false),
        (· = .bool false)] (by kernel_rfl) (by kernel_rfl) ?_
      refine lexL_step (fun K hK => ⟨by kernel_rfl, ⟨_, rfl⟩, fun n => ?_, fun v hv => ?_⟩)
      · go_simp
        exact lUpon_one
      subst hv
      go_simp
      refine hK _ ?_
      clear hK K
      refine lexL_step (fun K hK => ⟨by kernel_rfl, ⟨_, rfl⟩, fun n => ?_, fun v hv => ?_⟩)
      · go_simp
        exact lUpon_one
      subst hv
      go_simp
      refine hK _ ?_
      clear hK K
      refine lexL_step (fun K hK => ⟨by kernel_rfl, ⟨_, rfl⟩, fun n => ?_, fun v hv => ?_⟩)
      · go_simp
        exact lUpon_one
      subst hv
      go_simp
      refine hK _ ?_
      clear hK K
      refine lexL_step (fun K hK => ⟨by kernel_rfl, ⟨_, rfl⟩, fun n => ?_, fun v hv => ?_⟩)
      · go_simp
        exact lUpon_one
      subst hv
      go_simp
      refine hK _ ?_
      clear hK K
      refine lexL_step (fun K hK => ⟨by kernel_rfl, ⟨_, rfl⟩, fun n => ?_, fun v hv => ?_⟩)
      · go_simp
        exact lUpon_one
      subst hv
      go_simp
      refine hK _ ?_
      clear hK K
      refine lexL_step (fun K hK => ⟨by kernel_rfl, ⟨_, rfl⟩, fun n => ?_, fun v hv => ?_⟩)
      · go_simp
        exact lUpon_one
      subst hv
      go_simp
      refine hK _ ?_
      clear hK K
      refine lexL_step (fun K hK => ⟨by kernel_rfl, ⟨_, rfl⟩, fun n => ?_, fun v hv => ?_⟩)
      · go_simp
        exact lUpon_one
      subst hv
      go_simp
      refine hK _ ?_
      clear hK K
      refine lexL_step (fun K hK => ⟨by kernel_rfl, ⟨_, rfl⟩, fun n => ?_, fun v hv => ?_⟩)
      · go_simp
        exact lUpon_one
      subst hv
      go_simp
      refine hK _ ?_
      clear hK K
      refine lexL_step (fun K hK => ⟨by kernel_rfl, ⟨_, rfl⟩, fun n => ?_, fun v hv => ?_⟩)
      · go_simp
        exact lUpon_one
      subst hv
      go_simp
      refine hK _ ?_
      clear hK K
      refine lexL_step (fun K hK => ⟨by kernel_rfl, ⟨_, rfl⟩, fun n => ?_, fun v hv => ?_⟩)
      · go_simp
        exact lUpon_one
      subst hv
      go_simp
      refine hK _ ?_
      clear hK K
      refine lexL_step (fun K hK => ⟨by kernel_rfl, ⟨_, rfl⟩, fun n => ?_, fun v hv => ?_⟩)
      · go_simp
        exact lUpon_one
      subst hv
      go_simp
      refine hK _ ?_
      clear hK K
      refine lexL_step (fun K hK => ⟨by kernel_rfl, ⟨_, rfl⟩, fun n => ?_, fun v hv => ?_⟩)
      · go_simp
        exact lUpon_one
      subst hv
      go_simp
      refine hK _ ?_
      clear hK K
      refine lexL_step (fun K hK => ⟨by kernel_rfl, ⟨_, rfl⟩, fun n => ?_, fun v hv => ?_⟩)
      · go_simp
        exact lUpon_one
      subst hv
      go_simp
      refine hK _ ?_
      clear hK K
      refine lexL_step (fun K hK => ⟨by kernel_rfl, ⟨_, rfl⟩, fun n => ?_, fun v hv => ?_⟩)
      · go_simp
        exact lUpon_one
      subst hv
      go_simp
      refine hK _ ?_
      clear hK K
      refine lexL_step (fun K hK => ⟨by kernel_rfl, ⟨_, rfl⟩, fun n => ?_, fun v hv => ?_⟩)
      · go_simp
        exact lUpon_one
      subst hv
      go_simp
      refine hK _ ?_
      clear hK K
      refine lexL_step (fun K hK => ⟨by kernel_rfl, ⟨_, rfl⟩, fun n => ?_, fun v hv => ?_⟩)
      · go_simp
        exact lUpon_one
      subst hv
      go_simp
      refine hK _ ?_
      clear hK K
      refine lexL_step (fun K hK => ⟨by kernel_rfl, ⟨_, rfl⟩, fun n => ?_, fun v hv => ?_⟩)
      · go_simp
        exact lUpon_one
      subst hv
      go_simp
      refine hK _ ?_
      clear hK K
      refine lexL_step (fun K hK => ⟨by kernel_rfl, ⟨_, rfl⟩, fun n => ?_, fun v hv => ?_⟩)
      · go_simp
        exact lUpon_one
      subst hv
      go_simp
      refine hK _ ?_
      clear hK K
      refine lexL_step (fun K hK => ⟨by kernel_rfl, ⟨_, rfl⟩, fun n => ?_, fun v hv => ?_⟩)
      · go_simp
        exact lUpon_one
      subst hv
      go_simp
      refine hK _ ?_
      clear hK K
      refine lexL_step (fun K hK => ⟨by kernel_rfl, ⟨_, rfl⟩, fun n => ?_, fun v hv => ?_⟩)
      · go_simp
        exact lUpon_one
      subst hv
      go_simp
      refine hK _ ?_
      clear hK K
      refine lexL_step (fun K hK => ⟨by kernel_rfl, ⟨_, rfl⟩, fun n => ?_, fun v hv => ?_⟩)
      · go_simp
        exact lUpon_one
      subst hv
      go_simp
      refine hK _ ?_
      clear hK K
      refine lexL_step (fun K hK => ⟨by kernel_rfl, ⟨_, rfl⟩, fun n => ?_, fun v hv => ?_⟩)
      · go_simp
        exact lUpon_one
      subst hv
      go_simp
      refine hK _ ?_
      clear hK K
      refine lexL_step (fun K hK => ⟨by kernel_rfl, ⟨_, rfl⟩, fun n => ?_, fun v hv => ?_⟩)
      · go_simp
        exact lUpon_one
      subst hv
      go_simp
      refine hK _ ?_
      clear hK K
      refine lexL_step (fun K hK => ⟨by kernel_rfl, ⟨_, rfl⟩, fun n => ?_, fun v hv => ?_⟩)
      · go_simp
        exact lUpon_one
      subst hv
      go_simp
      refine hK _ ?_
      clear hK K
      refine lexL_step (fun K hK => ⟨by kernel_rfl, ⟨_, rfl⟩, fun n => ?_, fun v hv => ?_⟩)
      · go_simp
        exact lUpon_one
      subst hv
      go_simp
      refine hK _ ?_
      clear hK K
      refine lexL_step (fun K hK => ⟨by kernel_rfl, ⟨_, rfl⟩, fun n => ?_, fun v hv => ?_⟩)
      · go_simp
        exact lUpon_one
      subst hv
      go_simp
      refine hK _ ?_
      clear hK K
      refine lexL_step (fun K hK => ⟨by kernel_rfl, ⟨_, rfl⟩, fun n => ?_, fun v hv => ?_⟩)
      · go_simp
        exact lUpon_one
      subst hv
      go_simp
      refine hK _ ?_
      clear hK K
      refine lexL_step (fun K hK => ⟨by kernel_rfl, ⟨_, rfl⟩, fun n => ?_, fun v hv => ?_⟩)
      · go_simp
        exact lUpon_one
      subst hv
      go_simp
      refine hK _ ?_
      clear hK K
      refine lexL_step (fun K hK => ⟨by kernel_rfl, ⟨_, rfl⟩, fun n => ?_, fun v hv => ?_⟩)
      · go_simp
        exact lUpon_one
      subst hv
      go_simp
      refine hK _ ?_
      clear hK K
      refine lexL_end ?_
      intro n9
      have hb := drawn_below w n9
      replace c0 := (hb.cell (p := ⟨b, o, none⟩) hlow).trans c0
      replace c1 := (hb.cell (p := ⟨b, o + 1, none⟩) hlow).trans c1
      replace c2 := (hb.cell (p := ⟨b, o + 2, none⟩) hlow).trans c2
      replace HR := hideR ((unhideR HR).below hb)
      have HW := hideR hb
      generalize w.drewN n9 = W at *
      clear hb wr ha hz t1 t2 t3 c0 c1
      go_wp2
      go_loop [3] (fun kv => ∃ k : Nat, k ≤ p.L.length ∧ kv = .int .i64 (k : Nat) ∧ HeldR (∀ j, j < k → 0 ≤ p.L.getD j 0 ∧ p.L.getD j 0 ≤ 65535)) (fun kv => p.L.length + 1 - (intOf kv).toNat)
      case atStart => exact ⟨0, by omega, rfl, hideR (fun j hj => absurd hj (Nat.not_lt_zero j))⟩
      case round =>
        obtain ⟨k, hk, rfl, HM⟩ := hrel
        by_cases hlt : k < p.L.length
        · obtain ⟨bl, ol, rfl, hbl, cl⟩ := (unhideR HR).at_ k hlt
          have HBk := hideR (unhideR HB k hlt)
          have HMk : HeldR ((0 ≤ p.L.getD k 0 ∧ p.L.getD k 0 ≤ 65535) → ∀ j, j < k + 1 → 0 ≤ p.L.getD j 0 ∧ p.L.getD j 0 ≤ 65535) := fun q j hj => by
            rcases (show j < k ∨ j = k by omega) with z | rfl
            · exact unhideR HM j z
            · exact q
          generalize p.L.getD k 0 = x at cl HBk HMk
          by_cases y1 : x < 0
          · obtain rfl := unhideR HBk (by omega)
            go_wp2
            go_ret
            exact ⟨rfl, unhideR HW⟩
          · by_cases y2 : 65535 < x
            · obtain rfl := unhideR HBk (by omega)
              go_wp2
              go_ret
              exact ⟨rfl, unhideR HW⟩
            · have HM2 := hideR (unhideR HMk (by omega))
              clear HMk HBk HM
              go_wp2
              exact ⟨⟨k + 1, by omega, by go_num, HM2⟩, by simp [intOf]; omega⟩
        · obtain rfl : k = p.L.length := by omega
          obtain rfl := unhideR HG (unhideR HM)
          go_wp2
          go_ret
          exact ⟨rfl, unhideR HW⟩
end Go.Proofs.YtgmaganajfcpbaiDoor
