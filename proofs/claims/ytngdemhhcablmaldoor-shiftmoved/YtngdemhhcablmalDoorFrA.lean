/-
  The document's pictures: which are right, by contract. Pictures in rows: what came in. (cut out of FrStk) Pictures that are handed over. A picture that is handed over, with room to look at parts of it. Pictures that came in: a row of them, one behind a pointer.
-/
import Derived.Test.YtngdemhhcablmalDoorKitA
import Derived.Test.YtngdemhhcablmalDoorFrP
import Derived.Test.YtngdemhhcablmalDoorLooseA
import Derived.Deep.QuietTactic
import Derived.WalkSpells
import Derived.ProofKit
import Derived.OpenShut
import Derived.ChangeSlices
import Derived.Carry
namespace Go.Proofs.YtngdemhhcablmalDoor
open Go Go.RowKit

/-- a picture in memory. -/
structure PicAt (w : World) (b o : Nat) (ad : Option Addr) (cap : Nat) (p : Pic) : Prop where
  low : b < w.heap.size
  c0 : w.cell? ⟨b, o, none⟩ = some (.int .i64 p.wide)
  c1 : w.cell? ⟨b, o + 1, none⟩ = some (.int .i64 p.high)
  c2 : w.cell? ⟨b, o + 2, none⟩ = some (.slice ad p.L.length cap)
  row : ICame w ad p.L
theorem PicAt.below {w v : World} {b o : Nat} {ad : Option Addr} {cap : Nat} {p : Pic} (h : PicAt w b o ad cap p) (k : Below w.heap.size w v) : PicAt v b o ad cap p :=
  ⟨Nat.lt_of_lt_of_le h.low k.size, (k.cell (p := ⟨b, o, none⟩) h.low).trans h.c0, (k.cell (p := ⟨b, o + 1, none⟩) h.low).trans h.c1, (k.cell (p := ⟨b, o + 2, none⟩) h.low).trans h.c2, h.row.below k⟩
set_option maxRecDepth 100000 in
set_option maxHeartbeats 3200000 in
theorem pictureError_any {w : World} {b o cap : Nat} {ad : Option Addr} {p : Pic} (h : PicAt w b o ad cap p) (hl : p.L.length * 8 ≤ 140737488355328) :
    Calls Tryd.prog 5 #[.pointer (some ⟨b, o, none⟩)] w fun e w' => e = .returned (.int .i64 (picE p)) ∧ Below w.heap.size w w' := by
  obtain ⟨hlow, c0, c1, c2, hrow⟩ := h
  have HR := hideR hrow
  clear hrow
  by_cases q1 : 256 < p.wide ∨ 256 < p.high
  · have e : picE p = 2 := by unfold picE; rw [if_pos q1]
    rw [e]
    clear e
    have q1' : 256 < p.wide ∨ (p.wide ≤ 256 ∧ 256 < p.high) := by omega
    clear q1
    rcases q1' with q | ⟨q, q'⟩
    all_goals
      go_enter Tryd.func5, Tryd.ntmps5
      go_wp2
      go_ret
      exact ⟨rfl, Below.refl _ _⟩
  · have w2 : p.wide ≤ 256 := by omega
    have h2 : p.high ≤ 256 := by omega
    by_cases q2 : p.wide < 1 ∨ p.high < 1 ∨ (p.L.length : Int) ≠ p.wide * p.high
    · have e : picE p = 5 := by unfold picE; rw [if_neg q1, if_pos q2]
      rw [e]
      clear e q1
      by_cases x1 : p.wide < 1
      · have t1 : decide (p.wide < 1) = true := decide_eq_true x1
        clear q2
        go_enter Tryd.func5, Tryd.ntmps5
        go_wp2
        refine wp_region_lets [(· = .pointer (some ⟨b, o, none⟩)),
          (· = .pointer (some ⟨b, o, none⟩)),
          (· = .pointer (some ⟨b, o, none⟩)),
          (· = .int .i64 p.wide),
          (· = .bool true),
          (· = .bool true),
          (· = undef),
          (· = undef),
          (· = undef),
          (· = undef),
          (· = undef),
          (· = .bool true),
          (· = .bool true),
          (· = undef),
          (· = undef),
          (· = undef),
          (· = undef),
          (· = undef),
          (· = undef),
          (· = undef),
          (· = undef),
          (· = undef),
          (· = undef),
          (· = undef),
          (· = undef),
          (· = undef),
          (· = undef),
          (· = undef),
          (· = .bool true)] (by kernel_rfl) (by kernel_rfl) ?_
        refine lexL_step (fun K hK => ⟨by kernel_rfl, ⟨_, rfl⟩, fun n => ?_, fun v hv => ?_⟩)
        · go_simp
          exact lUpon_one
        subst hv
        go_simp
        refine hK _ ?_
        clear hK K
        refine lexL_step (fun K hK => ⟨by kernel_rfl, ⟨_, rfl⟩, fun n => ?_, fun v hv => ?_⟩)
        · go_simp
          exact lUpon_one
        subst hv
        go_simp
        refine hK _ ?_
        clear hK K
        refine lexL_step (fun K hK => ⟨by kernel_rfl, ⟨_, rfl⟩, fun n => ?_, fun v hv => ?_⟩)
        · go_simp
          exact lUpon_one
        subst hv
        go_simp
        refine hK _ ?_
        clear hK K
        refine lexL_step (fun K hK => ⟨by kernel_rfl, ⟨_, rfl⟩, fun n => ?_, fun v hv => ?_⟩)
        · go_simp
          exact lUpon_one
        subst hv
        go_simp
        refine hK _ ?_
        clear hK K
        refine lexL_step (fun K hK => ⟨by kernel_rfl, ⟨_, rfl⟩, fun n => ?_, fun v hv => ?_⟩)
        · go_simp
          exact lUpon_one
        subst hv
        go_simp
        refine hK _ ?_
        clear hK K
        refine lexL_step (fun K hK => ⟨by kernel_rfl, ⟨_, rfl⟩, fun n => ?_, fun v hv => ?_⟩)
        · go_simp
          exact lUpon_one
        subst hv
        go_simp
        refine hK _ ?_
        clear hK K
        refine lexL_skip (fun K hK => ⟨by kernel_rfl, ?_⟩)
        go_simp
        refine hK _ ?_
        clear hK K
        refine lexL_skip (fun K hK => ⟨by kernel_rfl, ?_⟩)
        go_simp
        refine hK _ ?_
        clear hK K
        refine lexL_skip (fun K hK => ⟨by kernel_rfl, ?_⟩)
        go_simp
        refine hK _ ?_
        clear hK K
        refine lexL_skip (fun K hK => ⟨by kernel_rfl, ?_⟩)
        go_simp
        refine hK _ ?_
        clear hK K
        refine lexL_skip (fun K hK => ⟨by kernel_rfl, ?_⟩)
        go_simp
        refine hK _ ?_
        clear hK K
        refine lexL_step (fun K hK => ⟨by kernel_rfl, ⟨_, rfl⟩, fun n => ?_, fun v hv => ?_⟩)
        · go_simp
          exact lUpon_one
        subst hv
        go_simp
        refine hK _ ?_
        clear hK K
        refine lexL_step (fun K hK => ⟨by kernel_rfl, ⟨_, rfl⟩, fun n => ?_, fun v hv => ?_⟩)
        · go_simp
          exact lUpon_one
        subst hv
        go_simp
        refine hK _ ?_
        clear hK K
        refine lexL_skip (fun K hK => ⟨by kernel_rfl, ?_⟩)
        go_simp
        refine hK _ ?_
        clear hK K
        refine lexL_skip (fun K hK => ⟨by kernel_rfl, ?_⟩)
        go_simp
        refine hK _ ?_
        clear hK K
        refine lexL_skip (fun K hK => ⟨by kernel_rfl, ?_⟩)
        go_simp
        refine hK _ ?_
        clear hK K
        refine lexL_skip (fun K hK => ⟨by kernel_rfl, ?_⟩)
        go_simp
        refine hK _ ?_
        clear hK K
        refine lexL_skip (fun K hK => ⟨by kernel_rfl, ?_⟩)
        go_simp
        refine hK _ ?_
        clear hK K
        refine lexL_skip (fun K hK => ⟨by kernel_rfl, ?_⟩)
        go_simp
        refine hK _ ?_
        clear hK K
        refine lexL_skip (fun K hK => ⟨by kernel_rfl, ?_⟩)
        go_simp
        refine hK _ ?_
        clear hK K
        refine lexL_skip (fun K hK => ⟨by kernel_rfl, ?_⟩)
        go_simp
        refine hK _ ?_
        clear hK K
        refine lexL_skip (fun K hK => ⟨by kernel_rfl, ?_⟩)
        go_simp
        refine hK _ ?_
        clear hK K
        refine lexL_skip (fun K hK => ⟨by kernel_rfl, ?_⟩)
        go_simp
        refine hK _ ?_
        clear hK K
        refine lexL_skip (fun K hK => ⟨by kernel_rfl, ?_⟩)
        go_simp
        refine hK _ ?_
        clear hK K
        refine lexL_skip (fun K hK => ⟨by kernel_rfl, ?_⟩)
        go_simp
        refine hK _ ?_
        clear hK K
        refine lexL_skip (fun K hK => ⟨by kernel_rfl, ?_⟩)
        go_simp
        refine hK _ ?_
        clear hK K
        refine lexL_skip (fun K hK => ⟨by kernel_rfl, ?_⟩)
        go_simp
        refine hK _ ?_
        clear hK K
        refine lexL_skip (fun K hK => ⟨by kernel_rfl, ?_⟩)
        go_simp
        refine hK _ ?_
        clear hK K
        refine lexL_step (fun K hK => ⟨by kernel_rfl, ⟨_, rfl⟩, fun n => ?_, fun v hv => ?_⟩)
        · go_simp
          exact lUpon_one
        subst hv
        go_simp
        refine hK _ ?_
        clear hK K
        refine lexL_end ?_
        intro n9
        have hb := drawn_below w n9
        go_wp2
        go_ret
        exact ⟨rfl, hb⟩
      · have t1 : decide (p.wide < 1) = false := decide_eq_false x1
        by_cases x2 : p.high < 1
        · have t2 : decide (p.high < 1) = true := decide_eq_true x2
          clear q2
          go_enter Tryd.func5, Tryd.ntmps5
          go_wp2
          refine wp_region_lets [(· = .pointer (some ⟨b, o, none⟩)),
            (· = .pointer (some ⟨b, o, none⟩)),
            (· = .pointer (some ⟨b, o, none⟩)),
            (· = .int .i64 p.wide),
            (· = .bool false),
            (· = .bool false),
            (· = .pointer (some ⟨b, o, none⟩)),
            (· = .pointer (some ⟨b, o, none⟩)),
            (· = .pointer (some ⟨b, o + 1, none⟩)),
            (· = .int .i64 p.high),
            (· = .bool true),
            (· = .bool true),
            (· = .bool true),
            (· = undef),
            (· = undef),
            (· = undef),
            (· = undef),
            (· = undef),
            (· = undef),
            (· = undef),
            (· = undef),
            (· = undef),
            (· = undef),
            (· = undef),
            (· = undef),
            (· = undef),
            (· = undef),
            (· = undef),
            (· = .bool true)] (by kernel_rfl) (by kernel_rfl) ?_
          refine lexL_step (fun K hK => ⟨by kernel_rfl, ⟨_, rfl⟩, fun n => ?_, fun v hv => ?_⟩)
          · go_simp
            exact lUpon_one
          subst hv
          go_simp
          refine hK _ ?_
          clear hK K
          refine lexL_step (fun K hK => ⟨by kernel_rfl, ⟨_, rfl⟩, fun n => ?_, fun v hv => ?_⟩)
          · go_simp
            exact lUpon_one
          subst hv
          go_simp
          refine hK _ ?_
          clear hK K
          refine lexL_step (fun K hK => ⟨by kernel_rfl, ⟨_, rfl⟩, fun n => ?_, fun v hv => ?_⟩)
          · go_simp
            exact lUpon_one
          subst hv
          go_simp
          refine hK _ ?_
          clear hK K
          refine lexL_step (fun K hK => ⟨by kernel_rfl, ⟨_, rfl⟩, fun n => ?_, fun v hv => ?_⟩)
          · go_simp
            exact lUpon_one
          subst hv
          go_simp
          refine hK _ ?_
          clear hK K
          refine lexL_step (fun K hK => ⟨by kernel_rfl, ⟨_, rfl⟩, fun n => ?_, fun v hv => ?_⟩)
          · go_simp
            exact lUpon_one
          subst hv
          go_simp
          refine hK _ ?_
          clear hK K
          refine lexL_step (fun K hK => ⟨by kernel_rfl, ⟨_, rfl⟩, fun n => ?_, fun v hv => ?_⟩)
          · go_simp
            exact lUpon_one
          subst hv
          go_simp
          refine hK _ ?_
          clear hK K
          refine lexL_step (fun K hK => ⟨by kernel_rfl, ⟨_, rfl⟩, fun n => ?_, fun v hv => ?_⟩)
          · go_simp
            exact lUpon_one
          subst hv
          go_simp
          refine hK _ ?_
          clear hK K
          refine lexL_step (fun K hK => ⟨by kernel_rfl, ⟨_, rfl⟩, fun n => ?_, fun v hv => ?_⟩)
          · go_simp
            exact lUpon_one
          subst hv
          go_simp
          refine hK _ ?_
          clear hK K
          refine lexL_step (fun K hK => ⟨by kernel_rfl, ⟨_, rfl⟩, fun n => ?_, fun v hv => ?_⟩)
          · go_simp
            exact lUpon_one
          subst hv
          go_simp
          refine hK _ ?_
          clear hK K
          refine lexL_step (fun K hK => ⟨by kernel_rfl, ⟨_, rfl⟩, fun n => ?_, fun v hv => ?_⟩)
          · go_simp
            exact lUpon_one
          subst hv
          go_simp
          refine hK _ ?_
          clear hK K
          refine lexL_step (fun K hK => ⟨by kernel_rfl, ⟨_, rfl⟩, fun n => ?_, fun v hv => ?_⟩)
          · go_simp
            exact lUpon_one
          subst hv
          go_simp
          refine hK _ ?_
          clear hK K
          refine lexL_step (fun K hK => ⟨by kernel_rfl, ⟨_, rfl⟩, fun n => ?_, fun v hv => ?_⟩)
          · go_simp
            exact lUpon_one
          subst hv
          go_simp
          refine hK _ ?_
          clear hK K
          refine lexL_step (fun K hK => ⟨by kernel_rfl, ⟨_, rfl⟩, fun n => ?_, fun v hv => ?_⟩)
          · go_simp
            exact lUpon_one
          subst hv
          go_simp
          refine hK _ ?_
          clear hK K
          refine lexL_skip (fun K hK => ⟨by kernel_rfl, ?_⟩)
          go_simp
          refine hK _ ?_
          clear hK K
          refine lexL_skip (fun K hK => ⟨by kernel_rfl, ?_⟩)
          go_simp
          refine hK _ ?_
          clear hK K
          refine lexL_skip (fun K hK => ⟨by kernel_rfl, ?_⟩)
          go_simp
          refine hK _ ?_
          clear hK K
          refine lexL_skip (fun K hK => ⟨by kernel_rfl, ?_⟩)
          go_simp
          refine hK _ ?_
          clear hK K
          refine lexL_skip (fun K hK => ⟨by kernel_rfl, ?_⟩)
          go_simp
          refine hK _ ?_
          clear hK K
          refine lexL_skip (fun K hK => ⟨by kernel_rfl, ?_⟩)
          go_simp
          refine hK _ ?_
          clear hK K
          refine lexL_skip (fun K hK => ⟨by kernel_rfl, ?_⟩)
          go_simp
          refine hK _ ?_
          clear hK K
          refine lexL_skip (fun K hK => ⟨by kernel_rfl, ?_⟩)
          go_simp
          refine hK _ ?_
          clear hK K
          refine lexL_skip (fun K hK => ⟨by kernel_rfl, ?_⟩)
          go_simp
          refine hK _ ?_
          clear hK K
          refine lexL_skip (fun K hK => ⟨by kernel_rfl, ?_⟩)
          go_simp
          refine hK _ ?_
          clear hK K
          refine lexL_skip (fun K hK => ⟨by kernel_rfl, ?_⟩)
          go_simp
          refine hK _ ?_
          clear hK K
          refine lexL_skip (fun K hK => ⟨by kernel_rfl, ?_⟩)
          go_simp
          refine hK _ ?_
          clear hK K
          refine lexL_skip (fun K hK => ⟨by kernel_rfl, ?_⟩)
          go_simp
          refine hK _ ?_
          clear hK K
          refine lexL_skip (fun K hK => ⟨by kernel_rfl, ?_⟩)
          go_simp
          refine hK _ ?_
          clear hK K
          refine lexL_skip (fun K hK => ⟨by kernel_rfl, ?_⟩)
          go_simp
          refine hK _ ?_
          clear hK K
          refine lexL_step (fun K hK => ⟨by kernel_rfl, ⟨_, rfl⟩, fun n => ?_, fun v hv => ?_⟩)
          · go_simp
            exact lUpon_one
          subst hv
          go_simp
          refine hK _ ?_
          clear hK K
          refine lexL_end ?_
          intro n9
          have hb := drawn_below w n9
          go_wp2
          go_ret
          exact ⟨rfl, hb⟩
        · have t2 : decide (p.high < 1) = false := decide_eq_false x2
          have t3 : ((p.L.length : Int) != p.wide * p.high) = true := by simp; omega
          have ha : p.wide * p.high ≤ 256 * 256 := Int.mul_le_mul w2 h2 (by omega) (by omega)
          have hz : 0 ≤ p.wide * p.high := Int.mul_nonneg (by omega) (by omega)
          have wr : IntKind.i64.wrap (p.wide * p.high) = p.wide * p.high := iwrap (by omega) (by omega)
          clear q2
          go_enter Tryd.func5, Tryd.ntmps5
          go_wp2
          refine wp_region_lets [(· = .pointer (some ⟨b, o, none⟩)),
            (· = .pointer (some ⟨b, o, none⟩)),
            (· = .pointer (some ⟨b, o, none⟩)),
            (· = .int .i64 p.wide),
            (· = .bool false),
            (· = .bool false),
            (· = .pointer (some ⟨b, o, none⟩)),
            (· = .pointer (some ⟨b, o, none⟩)),
            (· = .pointer (some ⟨b, o + 1, none⟩)),
            (· = .int .i64 p.high),
            (· = .bool false),
            (· = .bool false),
            (· = .bool false),
            (· = .pointer (some ⟨b, o, none⟩)),
            (· = .pointer (some ⟨b, o, none⟩)),
            (· = .pointer (some ⟨b, o + 2, none⟩)),
            (· = .slice ad p.L.length cap),
            (· = .int .i64 (p.L.length : Nat)),
            (· = .pointer (some ⟨b, o, none⟩)),
            (· = .pointer (some ⟨b, o, none⟩)),
            (· = .pointer (some ⟨b, o, none⟩)),
            (· = .int .i64 p.wide),
            (· = .pointer (some ⟨b, o, none⟩)),
            (· = .pointer (some ⟨b, o, none⟩)),
            (· = .pointer (some ⟨b, o + 1, none⟩)),
            (· = .int .i64 p.high),
            (· = .int .i64 (p.wide * p.high)),
            (· = .bool true),
            (· = .bool true)] (by kernel_rfl) (by kernel_rfl) ?_
          refine lexL_step (fun K hK => ⟨by kernel_rfl, ⟨_, rfl⟩, fun n => ?_, fun v hv => ?_⟩)
          · go_simp
            exact lUpon_one
          subst hv
          go_simp
          refine hK _ ?_
          clear hK K
          refine lexL_step (fun K hK => ⟨by kernel_rfl, ⟨_, rfl⟩, fun n => ?_, fun v hv => ?_⟩)
          · go_simp
            exact lUpon_one
          subst hv
          go_simp
          refine hK _ ?_
          clear hK K
          refine lexL_step (fun K hK => ⟨by kernel_rfl, ⟨_, rfl⟩, fun n => ?_, fun v hv => ?_⟩)
          · go_simp
            exact lUpon_one
          subst hv
          go_simp
          refine hK _ ?_
          clear hK K
          refine lexL_step (fun K hK => ⟨by kernel_rfl, ⟨_, rfl⟩, fun n => ?_, fun v hv => ?_⟩)
          · go_simp
            exact lUpon_one
          subst hv
          go_simp
          refine hK _ ?_
          clear hK K
          refine lexL_step (fun K hK => ⟨by kernel_rfl, ⟨_, rfl⟩, fun n => ?_, fun v hv => ?_⟩)
          · go_simp
            exact lUpon_one
          subst hv
          go_simp
          refine hK _ ?_
          clear hK K
          refine lexL_step (fun K hK => ⟨by kernel_rfl, ⟨_, rfl⟩, fun n => ?_, fun v hv => ?_⟩)
          · go_simp
            exact lUpon_one
          subst hv
          go_simp
          refine hK _ ?_
          clear hK K
          refine lexL_step (fun K hK => ⟨by kernel_rfl, ⟨_, rfl⟩, fun n => ?_, fun v hv => ?_⟩)
          · go_simp
            exact lUpon_one
          subst hv
          go_simp
          refine hK _ ?_
          clear hK K
          refine lexL_step (fun K hK => ⟨by kernel_rfl, ⟨_, rfl⟩, fun n => ?_, fun v hv => ?_⟩)
          · go_simp
            exact lUpon_one
          subst hv
          go_simp
          refine hK _ ?_
          clear hK K
          refine lexL_step (fun K hK => ⟨by kernel_rfl, ⟨_, rfl⟩, fun n => ?_, fun v hv => ?_⟩)
          · go_simp
            exact lUpon_one
          subst hv
          go_simp
          refine hK _ ?_
          clear hK K
          refine lexL_step (fun K hK => ⟨by kernel_rfl, ⟨_, rfl⟩, fun n => ?_, fun v hv => ?_⟩)
          · go_simp
            exact lUpon_one
          subst hv
          go_simp
          refine hK _ ?_
          clear hK K
          refine lexL_step (fun K hK => ⟨by kernel_rfl, ⟨_, rfl⟩, fun n => ?_, fun v hv => ?_⟩)
          · go_simp
            exact lUpon_one
          subst hv
          go_simp
          refine hK _ ?_
          clear hK K
          refine lexL_step (fun K hK => ⟨by kernel_rfl, ⟨_, rfl⟩, fun n => ?_, fun v hv => ?_⟩)
          · go_simp
            exact lUpon_one
          subst hv
          go_simp
          refine hK _ ?_
          clear hK K
          refine lexL_step (fun K hK => ⟨by kernel_rfl, ⟨_, rfl⟩, fun n => ?_, fun v hv => ?_⟩)
          · go_simp
            exact lUpon_one
          subst hv
          go_simp
          refine hK _ ?_
          clear hK K
          refine lexL_step (fun K hK => ⟨by kernel_rfl, ⟨_, rfl⟩, fun n => ?_, fun v hv => ?_⟩)
          · go_simp
            exact lUpon_one
          subst hv
          go_simp
          refine hK _ ?_
          clear hK K
          refine lexL_step (fun K hK => ⟨by kernel_rfl, ⟨_, rfl⟩, fun n => ?_, fun v hv => ?_⟩)
          · go_simp
            exact lUpon_one
          subst hv
          go_simp
          refine hK _ ?_
          clear hK K
          refine lexL_step (fun K hK => ⟨by kernel_rfl, ⟨_, rfl⟩, fun n => ?_, fun v hv => ?_⟩)
          · go_simp
            exact lUpon_one
          subst hv
          go_simp
          refine hK _ ?_
          clear hK K
          refine lexL_step (fun K hK => ⟨by kernel_rfl, ⟨_, rfl⟩, fun n => ?_, fun v hv => ?_⟩)
          · go_simp
            exact lUpon_one
          subst hv
          go_simp
          refine hK _ ?_
          clear hK K
          refine lexL_step (fun K hK => ⟨by kernel_rfl, ⟨_, rfl⟩, fun n => ?_, fun v hv => ?_⟩)
          · go_simp
            exact lUpon_one
          subst hv
          go_simp
          refine hK _ ?_
          clear hK K
          refine lexL_step (fun K hK => ⟨by kernel_rfl, ⟨_, rfl⟩, fun n => ?_, fun v hv => ?_⟩)
          · go_simp
            exact lUpon_one
          subst hv
          go_simp
          refine hK _ ?_
          clear hK K
          refine lexL_step (fun K hK => ⟨by kernel_rfl, ⟨_, rfl⟩, fun n => ?_, fun v hv => ?_⟩)
          · go_simp
            exact lUpon_one
          subst hv
          go_simp
          refine hK _ ?_
          clear hK K
          refine lexL_step (fun K hK => ⟨by kernel_rfl, ⟨_, rfl⟩, fun n => ?_, fun v hv => ?_⟩)
          · go_simp
            exact lUpon_one
          subst hv
          go_simp
          refine hK _ ?_
          clear hK K
          refine lexL_step (fun K hK => ⟨by kernel_rfl, ⟨_, rfl⟩, fun n => ?_, fun v hv => ?_⟩)
          · go_simp
            exact lUpon_one
          subst hv
          go_simp
          refine hK _ ?_
          clear hK K
          refine lexL_step (fun K hK => ⟨by kernel_rfl, ⟨_, rfl⟩, fun n => ?_, fun v hv => ?_⟩)
          · go_simp
            exact lUpon_one
          subst hv
          go_simp
          refine hK _ ?_
          clear hK K
          refine lexL_step (fun K hK => ⟨by kernel_rfl, ⟨_, rfl⟩, fun n => ?_, fun v hv => ?_⟩)
          · go_simp
            exact lUpon_one
          subst hv
          go_simp
          refine hK _ ?_
          clear hK K
          refine lexL_step (fun K hK => ⟨by kernel_rfl, ⟨_, rfl⟩, fun n => ?_, fun v hv => ?_⟩)
          · go_simp
            exact lUpon_one
          subst hv
          go_simp
          refine hK _ ?_
          clear hK K
          refine lexL_step (fun K hK => ⟨by kernel_rfl, ⟨_, rfl⟩, fun n => ?_, fun v hv => ?_⟩)
          · go_simp
            exact lUpon_one
          subst hv
          go_simp
          refine hK _ ?_
          clear hK K
          refine lexL_step (fun K hK => ⟨by kernel_rfl, ⟨_, rfl⟩, fun n => ?_, fun v hv => ?_⟩)
          · go_simp
            exact lUpon_one
          subst hv
          go_simp
          refine hK _ ?_
          clear hK K
          refine lexL_step (fun K hK => ⟨by kernel_rfl, ⟨_, rfl⟩, fun n => ?_, fun v hv => ?_⟩)
          · go_simp
            exact lUpon_one
          subst hv
          go_simp
          refine hK _ ?_
          clear hK K
          refine lexL_step (fun K hK => ⟨by kernel_rfl, ⟨_, rfl⟩, fun n => ?_, fun v hv => ?_⟩)
          · go_simp
            exact lUpon_one
          subst hv
          go_simp
          refine hK _ ?_
          clear hK K
          refine lexL_end ?_
          intro n9
          have hb := drawn_below w n9
          go_wp2
          go_ret
          exact ⟨rfl, hb⟩
    · have x1 : 1 ≤ p.wide := by omega
      have x2 : 1 ≤ p.high := by omega
      have x3 : (p.L.length : Int) = p.wide * p.high := Decidable.byContradiction fun k => q2 (.inr (.inr k))
      have t1 : decide (p.wide < 1) = false := decide_eq_false (by omega)
      have t2 : decide (p.high < 1) = false := decide_eq_false (by omega)
      have t3 : ((p.L.length : Int) != p.wide * p.high) = false := by simp; omega
      have ha : p.wide * p.high ≤ 256 * 256 := Int.mul_le_mul w2 h2 (by omega) (by omega)
      have hz : 0 ≤ p.wide * p.high := Int.mul_nonneg (by omega) (by omega)
      have wr : IntKind.i64.wrap (p.wide * p.high) = p.wide * p.high := iwrap (by omega) (by omega)
      have hn : p.L.length ≤ 65536 := by omega
      have HB : HeldR (∀ k, k < p.L.length → ¬ (0 ≤ p.L.getD k 0 ∧ p.L.getD k 0 ≤ 65535) → picE p = 5) := fun k hk q => by
        unfold picE
        rw [if_neg q1, if_neg q2, if_pos]
        cases e : p.L.all countB with
        | false => rfl
        | true =>
          have := all_at e hk
          unfold countB at this
          simp at this
          exact absurd this q
      have HG : HeldR ((∀ k, k < p.L.length → 0 ≤ p.L.getD k 0 ∧ p.L.getD k 0 ≤ 65535) → picE p = 0) := fun q => by
        unfold picE
        rw [if_neg q1, if_neg q2, if_neg]
        rw [all_of (fun k hk => by have := q k hk; unfold countB; simp; exact this)]
        simp
      have HX3 := hideR x3
      generalize picE p = E at *
      clear q1 q2 x3
      go_enter Tryd.func5, Tryd.ntmps5
      go_wp2
      refine wp_region_lets [(· = .pointer (some ⟨b, o, none⟩)),
        (· = .pointer (some ⟨b, o, none⟩)),
        (· = .pointer (some ⟨b, o, none⟩)),
        (· = .int .i64 p.wide),
        (· = .bool false),
        (· = .bool false),
        (· = .pointer (some ⟨b, o, none⟩)),
        (· = .pointer (some ⟨b, o, none⟩)),
        (· = .pointer (some ⟨b, o + 1, none⟩)),
        (· = .int .i64 p.high),
        (· = .bool false),
        (· = .bool false),
        (· = .bool false),
        (· = .pointer (some ⟨b, o, none⟩)),
        (· = .pointer (some ⟨b, o, none⟩)),
        (· = .pointer (some ⟨b, o + 2, none⟩)),
        (· = .slice ad p.L.length cap),
        (· = .int .i64 (p.L.length : Nat)),
        (· = .pointer (some ⟨b, o, none⟩)),
        (· = .pointer (some ⟨b, o, none⟩)),
        (· = .pointer (some ⟨b, o, none⟩)),
        (· = .int .i64 p.wide),
        (· = .pointer (some ⟨b, o, none⟩)),
        (· = .pointer (some ⟨b, o, none⟩)),
        (· = .pointer (some ⟨b, o + 1, none⟩)),
        (· = .int .i64 p.high),
        (· = .int .i64 (p.wide * p.high)),
        (· = .bool false),
        (· = .bool false)] (by kernel_rfl) (by kernel_rfl) ?_
      refine lexL_step (fun K hK => ⟨by kernel_rfl, ⟨_, rfl⟩, fun n => ?_, fun v hv => ?_⟩)
      · go_simp
        exact lUpon_one
      subst hv
      go_simp
      refine hK _ ?_
      clear hK K
      refine lexL_step (fun K hK => ⟨by kernel_rfl, ⟨_, rfl⟩, fun n => ?_, fun v hv => ?_⟩)
      · go_simp
        exact lUpon_one
      subst hv
      go_simp
      refine hK _ ?_
      clear hK K
      refine lexL_step (fun K hK => ⟨by kernel_rfl, ⟨_, rfl⟩, fun n => ?_, fun v hv => ?_⟩)
      · go_simp
        exact lUpon_one
      subst hv
      go_simp
      refine hK _ ?_
      clear hK K
      refine lexL_step (fun K hK => ⟨by kernel_rfl, ⟨_, rfl⟩, fun n => ?_, fun v hv => ?_⟩)
      · go_simp
        exact lUpon_one
      subst hv
      go_simp
      refine hK _ ?_
      clear hK K
      refine lexL_step (fun K hK => ⟨by kernel_rfl, ⟨_, rfl⟩, fun n => ?_, fun v hv => ?_⟩)
      · go_simp
        exact lUpon_one
      subst hv
      go_simp
      refine hK _ ?_
      clear hK K
      refine lexL_step (fun K hK => ⟨by kernel_rfl, ⟨_, rfl⟩, fun n => ?_, fun v hv => ?_⟩)
      · go_simp
        exact lUpon_one
      subst hv
      go_simp
      refine hK _ ?_
      clear hK K
      refine lexL_step (fun K hK => ⟨by kernel_rfl, ⟨_, rfl⟩, fun n => ?_, fun v hv => ?_⟩)
      · go_simp
        exact lUpon_one
      subst hv
      go_simp
      refine hK _ ?_
      clear hK K
      refine lexL_step (fun K hK => ⟨by kernel_rfl, ⟨_, rfl⟩, fun n => ?_, fun v hv => ?_⟩)
      · go_simp
        exact lUpon_one
      subst hv
      go_simp
      refine hK _ ?_
      clear hK K
      refine lexL_step (fun K hK => ⟨by kernel_rfl, ⟨_, rfl⟩, fun n => ?_, fun v hv => ?_⟩)
      · go_simp
        exact lUpon_one
      subst hv
      go_simp
      refine hK _ ?_
      clear hK K
      refine lexL_step (fun K hK => ⟨by kernel_rfl, ⟨_, rfl⟩, fun n => ?_, fun v hv => ?_⟩)
      · go_simp
        exact lUpon_one
      subst hv
      go_simp
      refine hK _ ?_
      clear hK K
      refine lexL_step (fun K hK => ⟨by kernel_rfl, ⟨_, rfl⟩, fun n => ?_, fun v hv => ?_⟩)
      · go_simp
        exact lUpon_one
      subst hv
      go_simp
      refine hK _ ?_
      clear hK K
      refine lexL_step (fun K hK => ⟨by kernel_rfl, ⟨_, rfl⟩, fun n => ?_, fun v hv => ?_⟩)
      · go_simp
        exact lUpon_one
      subst hv
      go_simp
      refine hK _ ?_
      clear hK K
      refine lexL_step (fun K hK => ⟨by kernel_rfl, ⟨_, rfl⟩, fun n => ?_, fun v hv => ?_⟩)
      · go_simp
        exact lUpon_one
      subst hv
      go_simp
      refine hK _ ?_
      clear hK K
      refine lexL_step (fun K hK => ⟨by kernel_rfl, ⟨_, rfl⟩, fun n => ?_, fun v hv => ?_⟩)
      · go_simp
        exact lUpon_one
      subst hv
      go_simp
      refine hK _ ?_
      clear hK K
      refine lexL_step (fun K hK => ⟨by kernel_rfl, ⟨_, rfl⟩, fun n => ?_, fun v hv => ?_⟩)
      · go_simp
        exact lUpon_one
      subst hv
      go_simp
      refine hK _ ?_
      clear hK K
      refine lexL_step (fun K hK => ⟨by kernel_rfl, ⟨_, rfl⟩, fun n => ?_, fun v hv => ?_⟩)
      · go_simp
        exact lUpon_one
      subst hv
      go_simp
      refine hK _ ?_
      clear hK K
      refine lexL_step (fun K hK => ⟨by kernel_rfl, ⟨_, rfl⟩, fun n => ?_, fun v hv => ?_⟩)
      · go_simp
        exact lUpon_one
      subst hv
      go_simp
      refine hK _ ?_
      clear hK K
      refine lexL_step (fun K hK => ⟨by kernel_rfl, ⟨_, rfl⟩, fun n => ?_, fun v hv => ?_⟩)
      · go_simp
        exact lUpon_one
      subst hv
      go_simp
      refine hK _ ?_
      clear hK K
      refine lexL_step (fun K hK => ⟨by kernel_rfl, ⟨_, rfl⟩, fun n => ?_, fun v hv => ?_⟩)
      · go_simp
        exact lUpon_one
      subst hv
      go_simp
      refine hK _ ?_
      clear hK K
      refine lexL_step (fun K hK => ⟨by kernel_rfl, ⟨_, rfl⟩, fun n => ?_, fun v hv => ?_⟩)
      · go_simp
        exact lUpon_one
      subst hv
      go_simp
      refine hK _ ?_
      clear hK K
      refine lexL_step (fun K hK => ⟨by kernel_rfl, ⟨_, rfl⟩, fun n => ?_, fun v hv => ?_⟩)
      · go_simp
        exact lUpon_one
      subst hv
      go_simp
      refine hK _ ?_
      clear hK K
      refine lexL_step (fun K hK => ⟨by kernel_rfl, ⟨_, rfl⟩, fun n => ?_, fun v hv => ?_⟩)
      · go_simp
        exact lUpon_one
      subst hv
      go_simp
      refine hK _ ?_
      clear hK K
      refine lexL_step (fun K hK => ⟨by kernel_rfl, ⟨_, rfl⟩, fun n => ?_, fun v hv => ?_⟩)
      · go_simp
        exact lUpon_one
      subst hv
      go_simp
      refine hK _ ?_
      clear hK K
      refine lexL_step (fun K hK => ⟨by kernel_rfl, ⟨_, rfl⟩, fun n => ?_, fun v hv => ?_⟩)
      · go_simp
        exact lUpon_one
      subst hv
      go_simp
      refine hK _ ?_
      clear hK K
      refine lexL_step (fun K hK => ⟨by kernel_rfl, ⟨_, rfl⟩, fun n => ?_, fun v hv => ?_⟩)
      · go_simp
        exact lUpon_one
      subst hv
      go_simp
      refine hK _ ?_
      clear hK K
      refine lexL_step (fun K hK => ⟨by kernel_rfl, ⟨_, rfl⟩, fun n => ?_, fun v hv => ?_⟩)
      · go_simp
        exact lUpon_one
      subst hv
      go_simp
      refine hK _ ?_
      clear hK K
      refine lexL_step (fun K hK => ⟨by kernel_rfl, ⟨_, rfl⟩, fun n => ?_, fun v hv => ?_⟩)
      · go_simp
        exact lUpon_one
      subst hv
      go_simp
      refine hK _ ?_
      clear hK K
      refine lexL_step (fun K hK => ⟨by kernel_rfl, ⟨_, rfl⟩, fun n => ?_, fun v hv => ?_⟩)
      · go_simp
        exact lUpon_one
      subst hv
      go_simp
      refine hK _ ?_
      clear hK K
      refine lexL_step (fun K hK => ⟨by kernel_rfl, ⟨_, rfl⟩, fun n => ?_, fun v hv => ?_⟩)
      · go_simp
        exact lUpon_one
      subst hv
      go_simp
      refine hK _ ?_
      clear hK K
      refine lexL_end ?_
      intro n9
      have hb := drawn_below w n9
      replace c0 := (hb.cell (p := ⟨b, o, none⟩) hlow).trans c0
      replace c1 := (hb.cell (p := ⟨b, o + 1, none⟩) hlow).trans c1
      replace c2 := (hb.cell (p := ⟨b, o + 2, none⟩) hlow).trans c2
      replace HR := hideR ((unhideR HR).below hb)
      have HW := hideR hb
      generalize w.drewN n9 = W at *
      clear hb wr ha hz t1 t2 t3 c0 c1
      go_wp2
      go_loop [3] (fun kv => ∃ k : Nat, k ≤ p.L.length ∧ kv = .int .i64 (k : Nat) ∧ HeldR (∀ j, j < k → 0 ≤ p.L.getD j 0 ∧ p.L.getD j 0 ≤ 65535)) (fun kv => p.L.length + 1 - (intOf kv).toNat)
      case atStart => exact ⟨0, by omega, rfl, hideR (fun j hj => absurd hj (Nat.not_lt_zero j))⟩
      case round =>
        obtain ⟨k, hk, rfl, HM⟩ := hrel
        by_cases hlt : k < p.L.length
        · obtain ⟨bl, ol, rfl, hbl, cl⟩ := (unhideR HR).at_ k hlt
          have HBk := hideR (unhideR HB k hlt)
          have HMk : HeldR ((0 ≤ p.L.getD k 0 ∧ p.L.getD k 0 ≤ 65535) → ∀ j, j < k + 1 → 0 ≤ p.L.getD j 0 ∧ p.L.getD j 0 ≤ 65535) := fun q j hj => by
            rcases (show j < k ∨ j = k by omega) with z | rfl
            · exact unhideR HM j z
            · exact q
          generalize p.L.getD k 0 = x at cl HBk HMk
          by_cases y1 : x < 0
          · obtain rfl := unhideR HBk (by omega)
            go_wp2
            go_ret
            exact ⟨rfl, unhideR HW⟩
          · by_cases y2 : 65535 < x
            · obtain rfl := unhideR HBk (by omega)
              go_wp2
              go_ret
              exact ⟨rfl, unhideR HW⟩
            · have HM2 := hideR (unhideR HMk (by omega))
              clear HMk HBk HM
              go_wp2
              exact ⟨⟨k + 1, by omega, by go_num, HM2⟩, by simp [intOf]; omega⟩
        · obtain rfl : k = p.L.length := by omega
          obtain rfl := unhideR HG (unhideR HM)
          go_wp2
          go_ret
          exact ⟨rfl, unhideR HW⟩
end Go.Proofs.YtngdemhhcablmalDoor
namespace Go.Proofs.YtngdemhhcablmalDoor
open Go Go.RowKit

/-- pictures that came in. -/
structure PCame (w : World) (ad : Option Addr) (Ls : List Pic) : Prop where
  at_ : ∀ k, k < Ls.length → ∃ b off adk capk, ad = some ⟨b, off, none⟩ ∧ PicAt w b (off + k * 3) adk capk (Ls.getD k pic0) ∧ (Ls.getD k pic0).L.length * 8 ≤ 140737488355328
theorem PCame.below {w v : World} {ad : Option Addr} {Ls : List Pic} (h : PCame w ad Ls) (k : Below w.heap.size w v) : PCame v ad Ls := ⟨fun j hj => by
  obtain ⟨b, off, adk, capk, e, h1, h2⟩ := h.at_ j hj
  exact ⟨b, off, adk, capk, e, h1.below k, h2⟩⟩
theorem picE_range (p : Pic) : picE p = 0 ∨ picE p = 2 ∨ picE p = 5 := by
  unfold picE
  split
  · simp
  · split
    · simp
    · split <;> simp
theorem firstE_zero : ∀ {Ls : List Pic}, (∀ j, j < Ls.length → picE (Ls.getD j pic0) = 0) → firstE Ls = 0
  | [], _ => rfl
  | p :: Ls, h => by
    have h0 : picE p = 0 := h 0 (by simp)
    unfold firstE
    rw [if_neg (fun k => k h0)]
    exact firstE_zero (fun j hj => h (j + 1) (by simp; omega))
theorem firstE_at : ∀ {Ls : List Pic} {i : Nat}, (∀ j, j < i → picE (Ls.getD j pic0) = 0) → i < Ls.length → picE (Ls.getD i pic0) ≠ 0 → firstE Ls = picE (Ls.getD i pic0)
  | [], i, _, hi, _ => absurd hi (Nat.not_lt_zero i)
  | p :: Ls, 0, _, _, hn => by
    have hn' : picE p ≠ 0 := hn
    unfold firstE
    rw [if_pos hn']
    rfl
  | p :: Ls, i + 1, h, hi, hn => by
    have h0 : picE p = 0 := h 0 (by omega)
    unfold firstE
    rw [if_neg (fun k => k h0)]
    exact firstE_at (fun j hj => h (j + 1) (by omega)) (by simpa using hi) hn
theorem size_at {Ls : List Pic} {W H : Int} : (Ls.all fun p => decide (p.wide = W) && decide (p.high = H)) = true ↔ ∀ j, j < Ls.length → (Ls.getD j pic0).wide = W ∧ (Ls.getD j pic0).high = H := by
  rw [List.all_eq_true]
  constructor
  · intro h j hj
    have e : Ls.getD j pic0 = Ls[j] := by simp [List.getD, List.getElem?_eq_getElem hj]
    have := h _ (List.getElem_mem hj)
    rw [e]
    simpa using this
  · intro h x hx
    obtain ⟨j, hj, rfl⟩ := List.getElem_of_mem hx
    have e : Ls.getD j pic0 = Ls[j] := by simp [List.getD, List.getElem?_eq_getElem hj]
    have := h j hj
    rw [e] at this
    simpa using this
def colV (Ls : List Pic) (k : Nat) : List Int := Ls.map fun p => p.L.getD k 0
def stkK (Ls : List Pic) (k : Nat) : List Int := (List.range k).map fun k => medV (colV Ls k)
theorem stkK_next (Ls : List Pic) (k : Nat) : stkK Ls (k + 1) = stkK Ls k ++ [medV (colV Ls k)] := by
  unfold stkK
  rw [List.range_succ, List.map_append]
  rfl
theorem stkK_length (Ls : List Pic) (k : Nat) : (stkK Ls k).length = k := by simp [stkK]
theorem stk_all (Ls : List Pic) : stkK Ls (Ls.getD 0 pic0).L.length = stackV Ls := rfl
theorem col_next {Ls : List Pic} {k i : Nat} (h : i < Ls.length) : colV (Ls.take (i + 1)) k = colV (Ls.take i) k ++ [(Ls.getD i pic0).L.getD k 0] := by
  unfold colV
  rw [List.take_add_one, List.getElem?_eq_getElem h, List.map_append]
  simp [List.getElem?_eq_getElem h]
theorem col_length (Ls : List Pic) (k : Nat) : (colV Ls k).length = Ls.length := by simp [colV]
theorem one_int (w : World) (x : Int) : ∀ k u, ([.int .i64 x] : List Value)[k]? = some u → (w.alloc (.cells #[.int .i64 x] 3)).cell? ((⟨w.heap.size, 0, none⟩ : Addr).add k) = some u := by
  intro k u hu
  have hk : k = 0 := by
    have := (List.getElem?_eq_some_iff.1 hu).1
    simpa using this
  subst hk
  rw [add_pl2, Nat.zero_add]
  rw [one_at (alloc_last w (.cells #[.int .i64 x] 3))]
  exact hu
end Go.Proofs.YtngdemhhcablmalDoor
namespace Go.Proofs.YtngdemhhcablmalDoor
open Go Go.RowKit

/-- a picture that is handed over. -/
def PicV (w : World) (v : Value) (p : Pic) : Prop := ∃ ad cap, v = .agg #[.int .i64 p.wide, .int .i64 p.high, .slice ad p.L.length cap] ∧ ICame w ad p.L ∧ p.L.length * 8 ≤ 140737488355328
theorem PicV.below {w u : World} {v : Value} {p : Pic} (h : PicV w v p) (k : Below w.heap.size w u) : PicV u v p := by
  obtain ⟨ad, cap, e, h1, h2⟩ := h
  exact ⟨ad, cap, e, h1.below k, h2⟩
theorem pic_three {w : World} {g : Nat} {x0 x1 x2 : Value} {ty : TypeId} (h : w.heap[g]? = some (.cells #[x0, x1, x2] ty)) : w.cell? ⟨g, 0, none⟩ = some x0 ∧ w.cell? ⟨g, 1, none⟩ = some x1 ∧ w.cell? ⟨g, 2, none⟩ = some x2 :=
  ⟨(cells_at h 0 (by simp)).1, (cells_at h 1 (by simp)).1, (cells_at h 2 (by simp)).1⟩
theorem PicAt.val {w : World} {b o cap : Nat} {ad : Option Addr} {p : Pic} (h : PicAt w b o ad cap p) (hl : p.L.length * 8 ≤ 140737488355328) : PicV w (.agg #[.int .i64 p.wide, .int .i64 p.high, .slice ad p.L.length cap]) p := ⟨ad, cap, rfl, h.row, hl⟩
end Go.Proofs.YtngdemhhcablmalDoor
namespace Go.Proofs.YtngdemhhcablmalDoor
open Go Go.RowKit

/-- a picture as a value, its counts in memory with room to look at parts of them. -/
def PicC (w : World) (v : Value) (p : Pic) : Prop := ∃ ad cap, v = .agg #[.int .i64 p.wide, .int .i64 p.high, .slice ad p.L.length cap] ∧ ICame w ad p.L ∧ p.L.length * 8 ≤ 140737488355328 ∧ p.L.length ≤ cap ∧ cap ≤ 9223372036854775807
theorem PicC.v {w : World} {v : Value} {p : Pic} (h : PicC w v p) : PicV w v p := by
  obtain ⟨ad, cap, e, h1, h2, _⟩ := h
  exact ⟨ad, cap, e, h1, h2⟩
theorem PicC.below {w u : World} {v : Value} {p : Pic} (h : PicC w v p) (k : Below w.heap.size w u) : PicC u v p := by
  obtain ⟨ad, cap, e, h1, h2⟩ := h
  exact ⟨ad, cap, e, h1.below k, h2⟩
end Go.Proofs.YtngdemhhcablmalDoor
namespace Go.Proofs.YtngdemhhcablmalDoor
open Go Go.ChangeShapes Go.WideShapes Go.ChangeAt Go.RowKit

theorem okWide_int {P : Program} {w : World} {r : Reach} {base : Nat} {t : TypeId} {v : Value} (ht : P.underlying t = some (.int .i64)) (h : Value.okWide P w r base t v) : ∃ b, v = .int .i64 b := by
  simp only [Value.okWide, ht, Cell.okWide] at h
  cases v <;> simp_all [Cell.ok]
theorem cellsI : Tryd.prog.cellsOf 3 = 1 := by kernel_rfl
theorem cellsPic : Tryd.prog.cellsOf 25 = 3 := by kernel_rfl
theorem cellsSI : Tryd.prog.cellsOf 23 = 1 := by kernel_rfl
theorem bytesI : Tryd.prog.bytesOf 3 = 8 := by kernel_rfl
theorem bytesPic : Tryd.prog.bytesOf 25 = 40 := by kernel_rfl
section
variable {H : Type} {enc : TypeId × Value → H} {w : World} {base : Nat} {spare : Nat → Bool} {held : Bool}
theorem int_of_trod {P : Program} {e : TypeId} {n : Nat} {cs : List Value} {y : DataW H × List MemPlace} (he : P.underlying e = some (.int .i64)) (h : DataW.trod enc P w base spare held n e cs = some y) : ∃ b, cs = [.int .i64 b] := by
  cases n with
  | zero => simp [DataW.trod] at h
  | succ n =>
    unfold DataW.trod at h
    rw [he] at h
    split at h
    all_goals try (rename_i e1; cases e1)
    all_goals try (rename_i e1 e2; cases e1)
    all_goals try cases h
    · split at h
      · exact ⟨_, rfl⟩
      · cases h
theorem lt_of_cell {b o : Nat} {u : Value} (h : w.cell? ⟨b, o, none⟩ = some u) : b < w.heap.size := by
  rcases Nat.lt_or_ge b w.heap.size with k | k
  · exact k
  · simp [World.cell?, Array.getElem?_eq_none k] at h
set_option maxRecDepth 100000 in
theorem pic_of_trod {n : Nat} {cs : List Value} {y : DataW H × List MemPlace} (h : DataW.trod enc Tryd.prog w base spare held n 25 cs = some y) (hw : (y.1.weights Tryd.prog 25).all (· ≤ reachBytes) = true) :
    ∃ (p : Pic) (ad : Option Addr) (cap : Nat), cs = [.int .i64 p.wide, .int .i64 p.high, .slice ad p.L.length cap] ∧ ICame w ad p.L ∧ p.L.length * 8 ≤ 140737488355328 := by
  obtain ⟨xs, m, _, hx, hl, hlen, hf⟩ := DataW.trod_struct Tryd.underlying25 h
  rw [cellsPic] at hl
  match cs, hl with
  | [c0, c1, c2], _ =>
    have hxx : ∀ i, i < 3 → ∃ yy, xs[i]? = some yy := fun i hi => by
      have : i < xs.length := by rw [hlen]; simpa using hi
      exact ⟨_, List.getElem?_eq_getElem this⟩
    have g0 := hf 0 _ rfl
    have g1 := hf 1 _ rfl
    have g2 := hf 2 _ rfl
    obtain ⟨y0, e0⟩ := hxx 0 (by omega)
    obtain ⟨y1, e1⟩ := hxx 1 (by omega)
    obtain ⟨y2, e2⟩ := hxx 2 (by omega)
    rw [e0] at g0
    rw [e1] at g1
    rw [e2] at g2
    replace g0 : DataW.trod enc Tryd.prog w base spare held m 3 (([c0, c1, c2].drop 0).take (Tryd.prog.cellsOf 3)) = some y0 := g0
    replace g1 : DataW.trod enc Tryd.prog w base spare held m 3 (([c0, c1, c2].drop 1).take (Tryd.prog.cellsOf 3)) = some y1 := g1
    replace g2 : DataW.trod enc Tryd.prog w base spare held m 23 (([c0, c1, c2].drop 2).take (Tryd.prog.cellsOf 23)) = some y2 := g2
    rw [cellsI] at g0 g1
    rw [cellsSI] at g2
    obtain ⟨wd, hwd⟩ := int_of_trod Tryd.underlying3 g0
    obtain ⟨hg, hhg⟩ := int_of_trod Tryd.underlying3 g1
    simp at hwd hhg
    subst hwd hhg
    have hxs : xs = [y0, y1, y2] := by
      match xs, hlen, e0, e1, e2 with
      | [a0, a1, a2], _, e0, e1, e2 =>
        simp at e0 e1 e2
        rw [e0, e1, e2]
    rcases open_ints Tryd.underlying23 Tryd.underlying3 cellsI g2 with ⟨hcs, _⟩ | ⟨a, len, cap, zs, hcs, _, hlc, hm, hz, hx2, hce, _⟩
    · simp at hcs
      subst hcs
      exact ⟨⟨wd, hg, []⟩, none, 0, rfl, ⟨fun k hk => absurd hk (Nat.not_lt_zero k)⟩, by simp⟩
    · simp at hcs
      subst hcs
      have hzl : len ≤ zs.length := by
        rw [hz]
        split <;> omega
      have hlen2 : (zs.take len).length = len := by rw [List.length_take]; omega
      have hbytes : zs.length * 8 ≤ reachBytes := by
        rw [hx, hxs, hx2] at hw
        simp only [DataW.weights, Tryd.underlying25, DataW.weightsEach, List.map, Tryd.underlying23, bytesI, List.all_append, List.all_cons, Bool.and_eq_true, decide_eq_true_eq] at hw
        have e : (lits .i64 (zs.take len) : List (DataW H)).length + (lits .i64 (zs.drop len) : List (DataW H)).length = zs.length := by
          simp [lits]
          omega
        have hq := hw.2.2.1.1
        rw [e] at hq
        exact hq
      refine ⟨⟨wd, hg, zs.take len⟩, some a, cap, ?_, ⟨fun k hk => ?_⟩, ?_⟩
      · show [Value.int .i64 wd, .int .i64 hg, .slice (some a) len cap] = [.int .i64 wd, .int .i64 hg, .slice (some a) (zs.take len).length cap]
        rw [hlen2]
      · have hk2 : k < len := by rw [← hlen2]; exact hk
        have hc := hce k (by omega)
        obtain ⟨ab, ao, spot⟩ := a
        have hspot : spot = none := by simpa [Addr.add] using World.cell?_spot (hce 0 (by omega))
        subst hspot
        rw [add_pl2] at hc
        refine ⟨ab, ao, rfl, lt_of_cell hc, ?_⟩
        rw [hc]
        have e : (zs.take len).getD k 0 = zs.getD k 0 := by simp [List.getD, hk2]
        rw [show (Pic.mk wd hg (zs.take len)).L = zs.take len from rfl, e]
      · show (zs.take len).length * 8 ≤ 140737488355328
        rw [hlen2]
        unfold reachBytes at hbytes
        omega
theorem weights_all {P : Program} {e : TypeId} : ∀ {l : List (DataW H)} {d : DataW H}, d ∈ l → ∀ n ∈ d.weights P e, n ∈ DataW.weightsAll P e l
  | d0 :: l, d, hd, n, hn => by
    simp only [DataW.weightsAll, List.mem_append]
    rcases List.mem_cons.1 hd with rfl | hd
    · exact .inl hn
    · exact .inr (weights_all hd n hn)
theorem pic_at {b o : Nat} {p : Pic} {ad : Option Addr} {cap : Nat} (h : ∀ i, i < 3 → w.cell? ⟨b, o + i, none⟩ = ([.int .i64 p.wide, .int .i64 p.high, .slice ad p.L.length cap] : List Value)[i]?) (hr : ICame w ad p.L) : PicAt w b o ad cap p :=
  ⟨lt_of_cell (h 0 (by decide)), h 0 (by decide), h 1 (by decide), h 2 (by decide), hr⟩
/-- a picture behind a pointer, or none. -/
inductive PicArg (w : World) : Value → Option Pic → Prop where
  | none : PicArg w (.pointer none) none
  | some {b o cap : Nat} {ad : Option Addr} {p : Pic} (h : PicAt w b o ad cap p) (hl : p.L.length * 8 ≤ 140737488355328) : PicArg w (.pointer (some ⟨b, o, none⟩)) (some p)
set_option maxRecDepth 100000 in
theorem pic_came {r : Reach} {b0 : Nat} {v : Value} {d : DataW H} {ps : List MemPlace} (hval : Value.okWide Tryd.prog w r b0 22 v) (hd : DataW.Trod enc Tryd.prog w base spare held 22 v d ps)
    (hw : (d.weights Tryd.prog 22).all (· ≤ reachBytes) = true) : ∃ o, PicArg w v o := by
  rcases open_ptr Tryd.underlying22 (by rw [cellsPic]; decide) hval hd with ⟨rfl, _, _⟩ | ⟨b, off, cs, y, fuel, rfl, rfl, _, hl, hcell, ht⟩
  · exact ⟨_, .none⟩
  · have hw' : (y.1.weights Tryd.prog 25).all (· ≤ reachBytes) = true := by
      simp only [DataW.weights, Tryd.underlying22] at hw
      exact hw
    obtain ⟨p, ad, cap, rfl, hrow, hpl⟩ := pic_of_trod ht hw'
    rw [cellsPic] at hcell
    exact ⟨_, .some (pic_at (fun i hi => hcell i hi) hrow) hpl⟩
end
end Go.Proofs.YtngdemhhcablmalDoor
