/-
  The program's peaks and dips of a track, by contract.
-/
import Derived.Test.YtlhjmmcimhceeahDoorDE5
import Derived.Laws.Cover1
namespace Go.Proofs.YtlhjmmcimhceeahDoor
open Go Go.RowKit

set_option maxRecDepth 100000 in
set_option maxHeartbeats 1600000 in
theorem behind_any {w : World} {v : Value} {t : Tr} (h : TrV w v t) (h4 : t.L.length ≤ 4000) {i : Nat} (hi1 : i < t.L.length) :
    Calls Tryd.prog 50 #[v, .int .i64 (i : Nat)] w fun e w' => ∃ k : Nat, e = .returned (.int .i64 ((k : Int) + 1)) ∧ HeldR (IsEnd t i k) ∧ Below w.heap.size w w' := by
  obtain ⟨ad, cap, rfl, hi⟩ := h
  obtain ⟨b1, o1, rfl, _, _⟩ := hi.at_ 0 (by omega)
  have wi : IntKind.i64.wrap ((i : Int) + 1) = (i : Int) + 1 := iwrap (by omega) (by omega)
  go_enter Tryd.func50, Tryd.ntmps50
  go_wp2
  have HB := hideR (alloc_last w (.cells #[.int .i64 t.fr, .int .i64 t.st, .slice (some ⟨b1, o1, none⟩) t.L.length cap] 32))
  have HW := hideR (below_a w (.cells #[.int .i64 t.fr, .int .i64 t.st, .slice (some ⟨b1, o1, none⟩) t.L.length cap] 32))
  have HI := hideR (hi.below (below_a w (.cells #[.int .i64 t.fr, .int .i64 t.st, .slice (some ⟨b1, o1, none⟩) t.L.length cap] 32)))
  generalize w.alloc (.cells #[.int .i64 t.fr, .int .i64 t.st, .slice (some ⟨b1, o1, none⟩) t.L.length cap] 32) = W1 at *
  clear hi
  go_loopw [5] (fun nv wl => ∃ k : Nat, i ≤ k ∧ k < t.L.length ∧ nv = .int .i64 ((k : Int) + 1) ∧ HeldR (∀ j, i ≤ j → j ≤ k → t.h j = t.h i) ∧ HeldR (Below W1.heap.size W1 wl)) (fun nv _ => t.L.length + 1 - (intOf nv).toNat)
  case atStart => exact ⟨i, by omega, by omega, rfl, hideR (fun j h1 h2 => by rw [show j = i by omega]), hideR (Below.refl _ _)⟩
  case round =>
    clear wi
    obtain ⟨k, hk1, hk2, rfl, HM, HK⟩ := hrel
    obtain ⟨⟨c0, c1, c2⟩, _⟩ := three_cells (keepB (unhideR HB) (unhideR HK))
    by_cases hlt : k + 1 < t.L.length
    · have hc0 : wr.cell? ⟨b1, o1 + i, none⟩ = some (.int .i64 (t.h i)) := heights_at (unhideR HI) (unhideR HK) hi1
      have hc1 : wr.cell? ⟨b1, o1 + (k + 1), none⟩ = some (.int .i64 (t.h (k + 1))) := heights_at (unhideR HI) (unhideR HK) hlt
      have tl : decide ((k : Int) + 1 < (t.L.length : Int)) = true := decide_eq_true (by omega)
      have ib1 : 0 ≤ (k : Int) + 1 := by omega
      have ib2 : (k : Int) + 1 < (t.L.length : Int) := by omega
      have wk : IntKind.i64.wrap ((k : Int) + 1 + 1) = (k : Int) + 1 + 1 := iwrap (by omega) (by omega)
      have HN : HeldR (t.h (k + 1) = t.h i → ∀ j, i ≤ j → j ≤ k + 1 → t.h j = t.h i) := fun e j h1 h2 => by
        rcases (show j ≤ k ∨ j = k + 1 by omega) with q | rfl
        · exact unhideR HM j h1 q
        · exact e
      have HE : HeldR (t.h (k + 1) ≠ t.h i → IsEnd t i k) := fun e => ⟨hk1, hk2, unhideR HM, fun _ => e⟩
      clear HM
      generalize t.h (k + 1) = q at *
      generalize hp : t.h i = p at *
      by_cases he : q = p
      · have te : (q == p) = true := by simp [he]
        have HM2 := hideR (unhideR HN he)
        clear HN HE
        go_wp2_with fail
        refine wp_region_lets [(· = .int .i64 ((k : Int) + 1)),
          (· = .pointer (some ⟨w.heap.size, 2, none⟩)),
          (· = .slice (some ⟨b1, o1, none⟩) t.L.length cap),
          (· = .int .i64 (t.L.length : Nat)),
          (· = .bool true),
          (· = .bool true),
          (· = .pointer (some ⟨w.heap.size, 2, none⟩)),
          (· = .slice (some ⟨b1, o1, none⟩) t.L.length cap),
          (· = .int .i64 ((k : Int) + 1)),
          (· = .pointer (some ⟨b1, o1 + (k + 1), none⟩)),
          (· = .int .i64 q),
          (· = .pointer (some ⟨w.heap.size, 2, none⟩)),
          (· = .slice (some ⟨b1, o1, none⟩) t.L.length cap),
          (· = .int .i64 (i : Nat)),
          (· = .pointer (some ⟨b1, o1 + i, none⟩)),
          (· = .int .i64 p),
          (· = .bool true),
          (· = .bool true)] (by kernel_rfl) (by kernel_rfl) ?_
        refine lexL_step (fun K hK => ⟨by kernel_rfl, ⟨_, rfl⟩, fun n => ?_, fun v hv => ?_⟩)
        · go_simp
          exact lUpon_one
        subst hv
        go_simp
        refine hK _ ?_
        clear hK K
        refine lexL_step (fun K hK => ⟨by kernel_rfl, ⟨_, rfl⟩, fun n => ?_, fun v hv => ?_⟩)
        · go_simp
          exact lUpon_one
        subst hv
        go_simp
        refine hK _ ?_
        clear hK K
        refine lexL_step (fun K hK => ⟨by kernel_rfl, ⟨_, rfl⟩, fun n => ?_, fun v hv => ?_⟩)
        · go_simp
          exact lUpon_one
        subst hv
        go_simp
        refine hK _ ?_
        clear hK K
        refine lexL_step (fun K hK => ⟨by kernel_rfl, ⟨_, rfl⟩, fun n => ?_, fun v hv => ?_⟩)
        · go_simp
          exact lUpon_one
        subst hv
        go_simp
        refine hK _ ?_
        clear hK K
        refine lexL_step (fun K hK => ⟨by kernel_rfl, ⟨_, rfl⟩, fun n => ?_, fun v hv => ?_⟩)
        · go_simp
          exact lUpon_one
        subst hv
        go_simp
        refine hK _ ?_
        clear hK K
        refine lexL_step (fun K hK => ⟨by kernel_rfl, ⟨_, rfl⟩, fun n => ?_, fun v hv => ?_⟩)
        · go_simp
          exact lUpon_one
        subst hv
        go_simp
        refine hK _ ?_
        clear hK K
        refine lexL_step (fun K hK => ⟨by kernel_rfl, ⟨_, rfl⟩, fun n => ?_, fun v hv => ?_⟩)
        · go_simp
          exact lUpon_one
        subst hv
        go_simp
        refine hK _ ?_
        clear hK K
        refine lexL_step (fun K hK => ⟨by kernel_rfl, ⟨_, rfl⟩, fun n => ?_, fun v hv => ?_⟩)
        · go_simp
          exact lUpon_one
        subst hv
        go_simp
        refine hK _ ?_
        clear hK K
        refine lexL_step (fun K hK => ⟨by kernel_rfl, ⟨_, rfl⟩, fun n => ?_, fun v hv => ?_⟩)
        · go_simp
          exact lUpon_one
        subst hv
        go_simp
        refine hK _ ?_
        clear hK K
        refine lexL_step (fun K hK => ⟨by kernel_rfl, ⟨_, rfl⟩, fun n => ?_, fun v hv => ?_⟩)
        · go_simp
          exact lUpon_one
        subst hv
        go_simp
        refine hK _ ?_
        clear hK K
        refine lexL_step (fun K hK => ⟨by kernel_rfl, ⟨_, rfl⟩, fun n => ?_, fun v hv => ?_⟩)
        · go_simp
          exact lUpon_one
        subst hv
        go_simp
        refine hK _ ?_
        clear hK K
        refine lexL_step (fun K hK => ⟨by kernel_rfl, ⟨_, rfl⟩, fun n => ?_, fun v hv => ?_⟩)
        · go_simp
          exact lUpon_one
        subst hv
        go_simp
        refine hK _ ?_
        clear hK K
        refine lexL_step (fun K hK => ⟨by kernel_rfl, ⟨_, rfl⟩, fun n => ?_, fun v hv => ?_⟩)
        · go_simp
          exact lUpon_one
        subst hv
        go_simp
        refine hK _ ?_
        clear hK K
        refine lexL_step (fun K hK => ⟨by kernel_rfl, ⟨_, rfl⟩, fun n => ?_, fun v hv => ?_⟩)
        · go_simp
          exact lUpon_one
        subst hv
        go_simp
        refine hK _ ?_
        clear hK K
        refine lexL_step (fun K hK => ⟨by kernel_rfl, ⟨_, rfl⟩, fun n => ?_, fun v hv => ?_⟩)
        · go_simp
          exact lUpon_one
        subst hv
        go_simp
        refine hK _ ?_
        clear hK K
        refine lexL_step (fun K hK => ⟨by kernel_rfl, ⟨_, rfl⟩, fun n => ?_, fun v hv => ?_⟩)
        · go_simp
          exact lUpon_one
        subst hv
        go_simp
        refine hK _ ?_
        clear hK K
        refine lexL_step (fun K hK => ⟨by kernel_rfl, ⟨_, rfl⟩, fun n => ?_, fun v hv => ?_⟩)
        · go_simp
          exact lUpon_one
        subst hv
        go_simp
        refine hK _ ?_
        clear hK K
        refine lexL_step (fun K hK => ⟨by kernel_rfl, ⟨_, rfl⟩, fun n => ?_, fun v hv => ?_⟩)
        · go_simp
          exact lUpon_one
        subst hv
        go_simp
        refine hK _ ?_
        clear hK K
        refine lexL_end ?_
        intro n9
        go_wp2
        exact ⟨⟨k + 1, by omega, hlt, by go_num, HM2, hideR (below_go (unhideR HK) (drawn_below _ _))⟩, by simp [intOf]; omega⟩
      · have te : (q == p) = false := by simp [he]
        have HE2 := hideR (unhideR HE he)
        clear HN HE
        go_wp2_with fail
        refine wp_region_lets [(· = .int .i64 ((k : Int) + 1)),
          (· = .pointer (some ⟨w.heap.size, 2, none⟩)),
          (· = .slice (some ⟨b1, o1, none⟩) t.L.length cap),
          (· = .int .i64 (t.L.length : Nat)),
          (· = .bool true),
          (· = .bool true),
          (· = .pointer (some ⟨w.heap.size, 2, none⟩)),
          (· = .slice (some ⟨b1, o1, none⟩) t.L.length cap),
          (· = .int .i64 ((k : Int) + 1)),
          (· = .pointer (some ⟨b1, o1 + (k + 1), none⟩)),
          (· = .int .i64 q),
          (· = .pointer (some ⟨w.heap.size, 2, none⟩)),
          (· = .slice (some ⟨b1, o1, none⟩) t.L.length cap),
          (· = .int .i64 (i : Nat)),
          (· = .pointer (some ⟨b1, o1 + i, none⟩)),
          (· = .int .i64 p),
          (· = .bool false),
          (· = .bool false)] (by kernel_rfl) (by kernel_rfl) ?_
        refine lexL_step (fun K hK => ⟨by kernel_rfl, ⟨_, rfl⟩, fun n => ?_, fun v hv => ?_⟩)
        · go_simp
          exact lUpon_one
        subst hv
        go_simp
        refine hK _ ?_
        clear hK K
        refine lexL_step (fun K hK => ⟨by kernel_rfl, ⟨_, rfl⟩, fun n => ?_, fun v hv => ?_⟩)
        · go_simp
          exact lUpon_one
        subst hv
        go_simp
        refine hK _ ?_
        clear hK K
        refine lexL_step (fun K hK => ⟨by kernel_rfl, ⟨_, rfl⟩, fun n => ?_, fun v hv => ?_⟩)
        · go_simp
          exact lUpon_one
        subst hv
        go_simp
        refine hK _ ?_
        clear hK K
        refine lexL_step (fun K hK => ⟨by kernel_rfl, ⟨_, rfl⟩, fun n => ?_, fun v hv => ?_⟩)
        · go_simp
          exact lUpon_one
        subst hv
        go_simp
        refine hK _ ?_
        clear hK K
        refine lexL_step (fun K hK => ⟨by kernel_rfl, ⟨_, rfl⟩, fun n => ?_, fun v hv => ?_⟩)
        · go_simp
          exact lUpon_one
        subst hv
        go_simp
        refine hK _ ?_
        clear hK K
        refine lexL_step (fun K hK => ⟨by kernel_rfl, ⟨_, rfl⟩, fun n => ?_, fun v hv => ?_⟩)
        · go_simp
          exact lUpon_one
        subst hv
        go_simp
        refine hK _ ?_
        clear hK K
        refine lexL_step (fun K hK => ⟨by kernel_rfl, ⟨_, rfl⟩, fun n => ?_, fun v hv => ?_⟩)
        · go_simp
          exact lUpon_one
        subst hv
        go_simp
        refine hK _ ?_
        clear hK K
        refine lexL_step (fun K hK => ⟨by kernel_rfl, ⟨_, rfl⟩, fun n => ?_, fun v hv => ?_⟩)
        · go_simp
          exact lUpon_one
        subst hv
        go_simp
        refine hK _ ?_
        clear hK K
        refine lexL_step (fun K hK => ⟨by kernel_rfl, ⟨_, rfl⟩, fun n => ?_, fun v hv => ?_⟩)
        · go_simp
          exact lUpon_one
        subst hv
        go_simp
        refine hK _ ?_
        clear hK K
        refine lexL_step (fun K hK => ⟨by kernel_rfl, ⟨_, rfl⟩, fun n => ?_, fun v hv => ?_⟩)
        · go_simp
          exact lUpon_one
        subst hv
        go_simp
        refine hK _ ?_
        clear hK K
        refine lexL_step (fun K hK => ⟨by kernel_rfl, ⟨_, rfl⟩, fun n => ?_, fun v hv => ?_⟩)
        · go_simp
          exact lUpon_one
        subst hv
        go_simp
        refine hK _ ?_
        clear hK K
        refine lexL_step (fun K hK => ⟨by kernel_rfl, ⟨_, rfl⟩, fun n => ?_, fun v hv => ?_⟩)
        · go_simp
          exact lUpon_one
        subst hv
        go_simp
        refine hK _ ?_
        clear hK K
        refine lexL_step (fun K hK => ⟨by kernel_rfl, ⟨_, rfl⟩, fun n => ?_, fun v hv => ?_⟩)
        · go_simp
          exact lUpon_one
        subst hv
        go_simp
        refine hK _ ?_
        clear hK K
        refine lexL_step (fun K hK => ⟨by kernel_rfl, ⟨_, rfl⟩, fun n => ?_, fun v hv => ?_⟩)
        · go_simp
          exact lUpon_one
        subst hv
        go_simp
        refine hK _ ?_
        clear hK K
        refine lexL_step (fun K hK => ⟨by kernel_rfl, ⟨_, rfl⟩, fun n => ?_, fun v hv => ?_⟩)
        · go_simp
          exact lUpon_one
        subst hv
        go_simp
        refine hK _ ?_
        clear hK K
        refine lexL_step (fun K hK => ⟨by kernel_rfl, ⟨_, rfl⟩, fun n => ?_, fun v hv => ?_⟩)
        · go_simp
          exact lUpon_one
        subst hv
        go_simp
        refine hK _ ?_
        clear hK K
        refine lexL_step (fun K hK => ⟨by kernel_rfl, ⟨_, rfl⟩, fun n => ?_, fun v hv => ?_⟩)
        · go_simp
          exact lUpon_one
        subst hv
        go_simp
        refine hK _ ?_
        clear hK K
        refine lexL_step (fun K hK => ⟨by kernel_rfl, ⟨_, rfl⟩, fun n => ?_, fun v hv => ?_⟩)
        · go_simp
          exact lUpon_one
        subst hv
        go_simp
        refine hK _ ?_
        clear hK K
        refine lexL_end ?_
        intro n9
        go_wp2
        go_ret
        exact ⟨k, rfl, HE2, below_go (unhideR HW) (below_go (unhideR HK) (drawn_below _ _))⟩
    · have tl : decide ((k : Int) + 1 < (t.L.length : Int)) = false := decide_eq_false (by omega)
      have HE : HeldR (IsEnd t i k) := ⟨hk1, hk2, unhideR HM, fun q => absurd q hlt⟩
      clear HM
      go_wp2_with fail
      refine wp_region_lets [(· = .int .i64 ((k : Int) + 1)),
        (· = .pointer (some ⟨w.heap.size, 2, none⟩)),
        (· = .slice (some ⟨b1, o1, none⟩) t.L.length cap),
        (· = .int .i64 (t.L.length : Nat)),
        (· = .bool false),
        (· = .bool false),
        (· = undef),
        (· = undef),
        (· = undef),
        (· = undef),
        (· = undef),
        (· = undef),
        (· = undef),
        (· = undef),
        (· = undef),
        (· = undef),
        (· = undef),
        (· = .bool false)] (by kernel_rfl) (by kernel_rfl) ?_
      refine lexL_step (fun K hK => ⟨by kernel_rfl, ⟨_, rfl⟩, fun n => ?_, fun v hv => ?_⟩)
      · go_simp
        exact lUpon_one
      subst hv
      go_simp
      refine hK _ ?_
      clear hK K
      refine lexL_step (fun K hK => ⟨by kernel_rfl, ⟨_, rfl⟩, fun n => ?_, fun v hv => ?_⟩)
      · go_simp
        exact lUpon_one
      subst hv
      go_simp
      refine hK _ ?_
      clear hK K
      refine lexL_step (fun K hK => ⟨by kernel_rfl, ⟨_, rfl⟩, fun n => ?_, fun v hv => ?_⟩)
      · go_simp
        exact lUpon_one
      subst hv
      go_simp
      refine hK _ ?_
      clear hK K
      refine lexL_step (fun K hK => ⟨by kernel_rfl, ⟨_, rfl⟩, fun n => ?_, fun v hv => ?_⟩)
      · go_simp
        exact lUpon_one
      subst hv
      go_simp
      refine hK _ ?_
      clear hK K
      refine lexL_step (fun K hK => ⟨by kernel_rfl, ⟨_, rfl⟩, fun n => ?_, fun v hv => ?_⟩)
      · go_simp
        exact lUpon_one
      subst hv
      go_simp
      refine hK _ ?_
      clear hK K
      refine lexL_step (fun K hK => ⟨by kernel_rfl, ⟨_, rfl⟩, fun n => ?_, fun v hv => ?_⟩)
      · go_simp
        exact lUpon_one
      subst hv
      go_simp
      refine hK _ ?_
      clear hK K
      refine lexL_skip (fun K hK => ⟨by kernel_rfl, ?_⟩)
      go_simp
      refine hK _ ?_
      clear hK K
      refine lexL_skip (fun K hK => ⟨by kernel_rfl, ?_⟩)
      go_simp
      refine hK _ ?_
      clear hK K
      refine lexL_skip (fun K hK => ⟨by kernel_rfl, ?_⟩)
      go_simp
      refine hK _ ?_
      clear hK K
      refine lexL_skip (fun K hK => ⟨by kernel_rfl, ?_⟩)
      go_simp
      refine hK _ ?_
      clear hK K
      refine lexL_skip (fun K hK => ⟨by kernel_rfl, ?_⟩)
      go_simp
      refine hK _ ?_
      clear hK K
      refine lexL_skip (fun K hK => ⟨by kernel_rfl, ?_⟩)
      go_simp
      refine hK _ ?_
      clear hK K
      refine lexL_skip (fun K hK => ⟨by kernel_rfl, ?_⟩)
      go_simp
      refine hK _ ?_
      clear hK K
      refine lexL_skip (fun K hK => ⟨by kernel_rfl, ?_⟩)
      go_simp
      refine hK _ ?_
      clear hK K
      refine lexL_skip (fun K hK => ⟨by kernel_rfl, ?_⟩)
      go_simp
      refine hK _ ?_
      clear hK K
      refine lexL_skip (fun K hK => ⟨by kernel_rfl, ?_⟩)
      go_simp
      refine hK _ ?_
      clear hK K
      refine lexL_skip (fun K hK => ⟨by kernel_rfl, ?_⟩)
      go_simp
      refine hK _ ?_
      clear hK K
      refine lexL_step (fun K hK => ⟨by kernel_rfl, ⟨_, rfl⟩, fun n => ?_, fun v hv => ?_⟩)
      · go_simp
        exact lUpon_one
      subst hv
      go_simp
      refine hK _ ?_
      clear hK K
      refine lexL_end ?_
      intro n9
      go_wp2
      go_ret
      exact ⟨k, rfl, HE, below_go (unhideR HW) (below_go (unhideR HK) (drawn_below _ _))⟩
theorem max2 (P : Program) (x y : Int) : ∃ M : Int, (∀ n : Int, M < n ↔ x < n ∧ y < n) ∧ ∀ (ts : Array TypeId) (t : TypeId) (u : World), (Builtin.max_ ts t #[.int .i64 x, .int .i64 y]).run P u = .ok (.int .i64 M) u := by
  refine ⟨_, ?_, fun ts t u => run_max_int2 u ts t _ _ x y⟩
  intro n
  split <;> omega
theorem min2 (P : Program) (x y : Int) : ∃ M : Int, (∀ n : Int, n < M ↔ n < x ∧ n < y) ∧ ∀ (ts : Array TypeId) (t : TypeId) (u : World), (Builtin.min_ ts t #[.int .i64 x, .int .i64 y]).run P u = .ok (.int .i64 M) u := by
  refine ⟨_, ?_, fun ts t u => run_min_int2 u ts t _ _ x y⟩
  intro n
  split <;> omega
set_option maxRecDepth 100000 in
set_option maxHeartbeats 1600000 in
theorem turn_any {w : World} {v : Value} {t : Tr} (lev : Int) (h : TrV w v t) (h4 : t.L.length ≤ 4000) {i m : Nat} (hi1 : 1 ≤ i) (him : i < m) (hm : m ≤ t.L.length) :
    Calls Tryd.prog 51 #[v, .int .i64 (i : Nat), .int .i64 (m : Nat), .int .i64 lev] w fun e w' => e = .returned (.int .i64 (kindV t lev i m)) ∧ Below w.heap.size w w' := by
  obtain ⟨ad, cap, rfl, hi⟩ := h
  obtain ⟨b1, o1, rfl, _, _⟩ := hi.at_ 0 (by omega)
  obtain ⟨R, HR⟩ : ∃ R, HeldR (kindV t lev i m = R) := ⟨_, rfl⟩
  rw [unhideR HR]
  by_cases he : m = t.L.length
  · have e3 := unhideR HR
    unfold kindV at e3
    rw [if_pos he] at e3
    subst e3
    have te : ((m : Int) == (t.L.length : Int)) = true := by simp [he]
    clear HR
    go_enter Tryd.func51, Tryd.ntmps51
    go_wp2
    all_goals
      go_ret
      exact ⟨rfl, below_a _ _⟩
  · have te : ((m : Int) == (t.L.length : Int)) = false := by simp; omega
    obtain ⟨j, hj⟩ : ∃ j, i = j + 1 := ⟨i - 1, by omega⟩
    have hR := unhideR HR
    unfold kindV at hR
    rw [if_neg he, hj, Nat.add_sub_cancel, ← hj] at hR
    have hc0 : ∀ u, Below w.heap.size w u → u.cell? ⟨b1, o1 + i, none⟩ = some (.int .i64 (t.h i)) := fun u k => heights_at hi k (by omega)
    have hc1 : ∀ u, Below w.heap.size w u → u.cell? ⟨b1, o1 + j, none⟩ = some (.int .i64 (t.h j)) := fun u k => heights_at hi k (by omega)
    have hc2 : ∀ u, Below w.heap.size w u → u.cell? ⟨b1, o1 + m, none⟩ = some (.int .i64 (t.h m)) := fun u k => heights_at hi k (by omega)
    have H0 := hideR hc0
    have H1 := hideR hc1
    have H2 := hideR hc2
    clear hc0 hc1 hc2 HR
    have wj : IntKind.i64.wrap ((i : Int) - 1) = (j : Int) := by
      rw [show (i : Int) - 1 = (j : Int) by omega]
      exact iwrap (by omega) (by omega)
    generalize t.h i = p at *
    generalize t.h j = a at *
    generalize t.h m = q at *
    obtain ⟨M, hM, hmax⟩ := max2 Tryd.prog a q
    obtain ⟨N, hN, hmin⟩ := min2 Tryd.prog a q
    have hM' := hM p
    have hN' := hN p
    have ij : j < t.L.length := by omega
    have im : m < t.L.length := by omega
    have ii : i < t.L.length := by omega
    clear hM hN hj
    have nz : (m : Int) ≠ (t.L.length : Int) := by omega
    have hcase : (decide (M < p) = true ∧ decide (lev < p) = true ∧ R = 3) ∨ (decide (M < p) = true ∧ decide (lev < p) = false ∧ decide (p < N) = false ∧ R = 0) ∨ (decide (M < p) = false ∧ decide (p < N) = true ∧ decide (p ≤ lev) = true ∧ R = 4) ∨ (decide (M < p) = false ∧ decide (p < N) = true ∧ decide (p ≤ lev) = false ∧ R = 0) ∨ (decide (M < p) = false ∧ decide (p < N) = false ∧ R = 0) := by
      by_cases k1 : M < p
      · have d1 := hM'.1 k1
        by_cases k2 : lev < p
        · rw [if_pos ⟨d1.1, d1.2, k2⟩] at hR
          exact .inl ⟨decide_eq_true k1, decide_eq_true k2, hR.symm⟩
        · rw [if_neg (fun g => k2 g.2.2), if_neg (fun g => by omega)] at hR
          exact .inr (.inl ⟨decide_eq_true k1, decide_eq_false k2, decide_eq_false (fun g => by have := hN'.1 g; omega), hR.symm⟩)
      · rw [if_neg (fun g => k1 (hM'.2 ⟨g.1, g.2.1⟩))] at hR
        by_cases k3 : p < N
        · have d3 := hN'.1 k3
          by_cases k4 : p ≤ lev
          · rw [if_pos ⟨d3.1, d3.2, k4⟩] at hR
            exact .inr (.inr (.inl ⟨decide_eq_false k1, decide_eq_true k3, decide_eq_true k4, hR.symm⟩))
          · rw [if_neg (fun g => k4 g.2.2)] at hR
            exact .inr (.inr (.inr (.inl ⟨decide_eq_false k1, decide_eq_true k3, decide_eq_false k4, hR.symm⟩)))
        · rw [if_neg (fun g => k3 (hN'.2 ⟨g.1, g.2.1⟩))] at hR
          exact .inr (.inr (.inr (.inr ⟨decide_eq_false k1, decide_eq_false k3, hR.symm⟩)))
    clear hR hM' hN'
    rcases hcase with ⟨t1, t2, rfl⟩ | ⟨t1, t2, t3, rfl⟩ | ⟨t1, t3, t4, rfl⟩ | ⟨t1, t3, t4, rfl⟩ | ⟨t1, t3, rfl⟩
    all_goals
      go_enter Tryd.func51, Tryd.ntmps51
      go_wp2_with fail
      have HB := hideR (alloc_last w (.cells #[.int .i64 t.fr, .int .i64 t.st, .slice (some ⟨b1, o1, none⟩) t.L.length cap] 32))
      have HW := hideR (below_a w (.cells #[.int .i64 t.fr, .int .i64 t.st, .slice (some ⟨b1, o1, none⟩) t.L.length cap] 32))
      have HI := hideR (hi.below (below_a w (.cells #[.int .i64 t.fr, .int .i64 t.st, .slice (some ⟨b1, o1, none⟩) t.L.length cap] 32)))
      generalize w.alloc (.cells #[.int .i64 t.fr, .int .i64 t.st, .slice (some ⟨b1, o1, none⟩) t.L.length cap] 32) = W1 at *
      clear hi
      obtain ⟨⟨c0, c1, c2⟩, _⟩ := three_cells (unhideR HB)
      have hc0 := unhideR H0 _ (unhideR HW)
      have hc1 := unhideR H1 _ (unhideR HW)
      have hc2 := unhideR H2 _ (unhideR HW)
      go_quiet (fail)
      go_wp2
      all_goals
        go_ret
        exact ⟨rfl, below_go (unhideR HW) (drawn_below _ _)⟩
end Go.Proofs.YtlhjmmcimhceeahDoor
