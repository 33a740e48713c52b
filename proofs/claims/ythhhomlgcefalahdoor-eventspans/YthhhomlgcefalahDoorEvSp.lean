/-
  Spans: the document's and the law's own, by contracts.
-/
import Derived.Test.YthhhomlgcefalahDoorEvRow
import Derived.Test.YthhhomlgcefalahDoorEvTr
import Derived.Test.YthhhomlgcefalahDoorLoose7
import Derived.Deep.QuietTactic
namespace Go.Proofs.YthhhomlgcefalahDoor
open Go Go.RowKit

def Spn.Ok (l : List Spn) (i : Nat) : Prop := (l.getD i sp0).f < (l.getD i sp0).t ∧ -1152921504606846976 ≤ (l.getD i sp0).f ∧ (l.getD i sp0).t ≤ 1152921504606846976 ∧ (0 < i → (l.getD (i - 1) sp0).t < (l.getD i sp0).f)
instance (l : List Spn) (i : Nat) : Decidable (Spn.Ok l i) := by unfold Spn.Ok; infer_instance
def rightV (l : List Spn) : Bool := decide (∀ i, i < l.length → Spn.Ok l i)
def Spn.Up (l : List Spn) (i : Nat) : Prop := (l.getD i sp0).f < (l.getD i sp0).t ∧ (0 < i → (l.getD (i - 1) sp0).t < (l.getD i sp0).f)
def riseV (l : List Spn) : Prop := ∀ i, i < l.length → Spn.Up l i
def spE (a b : List Spn) : Int := if 4000 < a.length ∨ 4000 < b.length then 2 else if rightV a = false ∨ rightV b = false then 5 else 0
def inV (l : List Spn) (x : Int) : Bool := l.any fun s => decide (s.f ≤ x) && decide (x < s.t)
theorem right_rise {l : List Spn} (h : rightV l = true) : riseV l := fun i hi => by
  have := of_decide_eq_true h i hi
  exact ⟨this.1, this.2.2.2⟩
theorem inV_next {l : List Spn} {k : Nat} {x : Int} (h : k < l.length) : inV (l.take (k + 1)) x = (inV (l.take k) x || (decide ((l.getD k sp0).f ≤ x) && decide (x < (l.getD k sp0).t))) := by
  unfold inV
  rw [Sptake h, List.any_append]
  simp
theorem inV_take {l : List Spn} {x : Int} (n : Nat) (h : inV (l.take n) x = true) : inV l x = true := by
  unfold inV at h ⊢
  rw [List.any_eq_true] at h ⊢
  obtain ⟨s, hs, hx⟩ := h
  exact ⟨s, List.mem_of_mem_take hs, hx⟩
set_option maxRecDepth 100000 in
set_option maxHeartbeats 3200000 in
theorem spansRight_any (ad : Option Addr) (cap : Nat) (L : List Spn) (w : World) (hr : SpCame w ad L) (hl : L.length ≤ 9223372036854775807) :
    Calls Tryd.prog 34 #[.slice ad L.length cap] w fun e w' => e = .returned (.bool (rightV L)) ∧ Below w.heap.size w w' := by
  have HN : HeldR (∀ i, i < L.length → ¬ Spn.Ok L i → rightV L = false) := fun i hi k => decide_eq_false (fun h => k (h i hi))
  have HY : HeldR ((∀ i, i < L.length → Spn.Ok L i) → rightV L = true) := fun h => decide_eq_true h
  have HR := hideR hr
  clear hr
  generalize rightV L = E at *
  go_enter Tryd.func34, Tryd.ntmps34
  go_wp2
  go_loopw [3] (fun kv wl => ∃ k : Nat, k ≤ L.length ∧ kv = .int .i64 (k : Nat) ∧ HeldR (∀ j, j < k → Spn.Ok L j) ∧ HeldR (Below w.heap.size w wl)) (fun kv _ => L.length + 1 - (intOf kv).toNat)
  case atStart => exact ⟨0, by omega, rfl, hideR (fun j hj => absurd hj (Nat.not_lt_zero j)), hideR (Below.refl _ _)⟩
  case round =>
    obtain ⟨k, hk, rfl, HM, HW⟩ := hrel
    by_cases hlt : k < L.length
    · obtain ⟨b, off, rfl, hb, hat⟩ := ((unhideR HR).below (unhideR HW)).at_ k hlt
      obtain ⟨c0, c1⟩ := hat
      have HN2 := hideR (unhideR HN k hlt)
      have HS : HeldR (∀ p, p = L.getD k sp0 → (p.f < p.t → -1152921504606846976 ≤ p.f → p.t ≤ 1152921504606846976 → (0 < k → (L.getD (k - 1) sp0).t < p.f) → Spn.Ok L k) ∧ (Spn.Ok L k → p.f < p.t ∧ -1152921504606846976 ≤ p.f ∧ p.t ≤ 1152921504606846976 ∧ (0 < k → (L.getD (k - 1) sp0).t < p.f))) := fun p e => by
        subst e
        exact ⟨fun a1 a2 a3 a4 => ⟨a1, a2, a3, a4⟩, fun h => h⟩
      replace HS := hideR (unhideR HS (L.getD k sp0) rfl)
      generalize L.getD k sp0 = s at *
      by_cases q1 : s.f < s.t
      case neg =>
        have hE : E = false := unhideR HN2 (fun h => q1 ((unhideR HS).2 h).1)
        subst hE
        have b1 : decide (s.t ≤ s.f) = true := decide_eq_true (by omega)
        clear HN HY HN2 HS HM
        go_wp2_with fail
        refine wp_region_lets [(· = .slice (some ⟨b, off, none⟩) L.length cap),
          (· = .int .i64 (k : Nat)),
          (· = .pointer (some ⟨b, off + k * 2, none⟩)),
          (· = .pointer (some ⟨b, off + k * 2, none⟩)),
          (· = .int .i64 s.f),
          (· = .slice (some ⟨b, off, none⟩) L.length cap),
          (· = .int .i64 (k : Nat)),
          (· = .pointer (some ⟨b, off + k * 2, none⟩)),
          (· = .pointer (some ⟨b, off + k * 2 + 1, none⟩)),
          (· = .int .i64 s.t),
          (· = .bool true),
          (· = .bool true),
          (· = undef),
          (· = undef),
          (· = undef),
          (· = undef),
          (· = undef),
          (· = undef),
          (· = .bool true),
          (· = .bool true),
          (· = undef),
          (· = undef),
          (· = undef),
          (· = undef),
          (· = undef),
          (· = undef),
          (· = .bool true)] (by kernel_rfl) (by kernel_rfl) ?_
        refine lexL_step (fun K hK => ⟨by kernel_rfl, ⟨_, rfl⟩, fun n => ?_, fun v hv => ?_⟩)
        · go_simp
          exact lUpon_one
        subst hv
        go_simp
        refine hK _ ?_
        clear hK K
        refine lexL_step (fun K hK => ⟨by kernel_rfl, ⟨_, rfl⟩, fun n => ?_, fun v hv => ?_⟩)
        · go_simp
          exact lUpon_one
        subst hv
        go_simp
        refine hK _ ?_
        clear hK K
        refine lexL_step (fun K hK => ⟨by kernel_rfl, ⟨_, rfl⟩, fun n => ?_, fun v hv => ?_⟩)
        · go_simp
          exact lUpon_one
        subst hv
        go_simp
        refine hK _ ?_
        clear hK K
        refine lexL_step (fun K hK => ⟨by kernel_rfl, ⟨_, rfl⟩, fun n => ?_, fun v hv => ?_⟩)
        · go_simp
          exact lUpon_one
        subst hv
        go_simp
        refine hK _ ?_
        clear hK K
        refine lexL_step (fun K hK => ⟨by kernel_rfl, ⟨_, rfl⟩, fun n => ?_, fun v hv => ?_⟩)
        · go_simp
          exact lUpon_one
        subst hv
        go_simp
        refine hK _ ?_
        clear hK K
        refine lexL_step (fun K hK => ⟨by kernel_rfl, ⟨_, rfl⟩, fun n => ?_, fun v hv => ?_⟩)
        · go_simp
          exact lUpon_one
        subst hv
        go_simp
        refine hK _ ?_
        clear hK K
        refine lexL_step (fun K hK => ⟨by kernel_rfl, ⟨_, rfl⟩, fun n => ?_, fun v hv => ?_⟩)
        · go_simp
          exact lUpon_one
        subst hv
        go_simp
        refine hK _ ?_
        clear hK K
        refine lexL_step (fun K hK => ⟨by kernel_rfl, ⟨_, rfl⟩, fun n => ?_, fun v hv => ?_⟩)
        · go_simp
          exact lUpon_one
        subst hv
        go_simp
        refine hK _ ?_
        clear hK K
        refine lexL_step (fun K hK => ⟨by kernel_rfl, ⟨_, rfl⟩, fun n => ?_, fun v hv => ?_⟩)
        · go_simp
          exact lUpon_one
        subst hv
        go_simp
        refine hK _ ?_
        clear hK K
        refine lexL_step (fun K hK => ⟨by kernel_rfl, ⟨_, rfl⟩, fun n => ?_, fun v hv => ?_⟩)
        · go_simp
          exact lUpon_one
        subst hv
        go_simp
        refine hK _ ?_
        clear hK K
        refine lexL_step (fun K hK => ⟨by kernel_rfl, ⟨_, rfl⟩, fun n => ?_, fun v hv => ?_⟩)
        · go_simp
          exact lUpon_one
        subst hv
        go_simp
        refine hK _ ?_
        clear hK K
        refine lexL_step (fun K hK => ⟨by kernel_rfl, ⟨_, rfl⟩, fun n => ?_, fun v hv => ?_⟩)
        · go_simp
          exact lUpon_one
        subst hv
        go_simp
        refine hK _ ?_
        clear hK K
        refine lexL_skip (fun K hK => ⟨by kernel_rfl, ?_⟩)
        go_simp
        refine hK _ ?_
        clear hK K
        refine lexL_skip (fun K hK => ⟨by kernel_rfl, ?_⟩)
        go_simp
        refine hK _ ?_
        clear hK K
        refine lexL_skip (fun K hK => ⟨by kernel_rfl, ?_⟩)
        go_simp
        refine hK _ ?_
        clear hK K
        refine lexL_skip (fun K hK => ⟨by kernel_rfl, ?_⟩)
        go_simp
        refine hK _ ?_
        clear hK K
        refine lexL_skip (fun K hK => ⟨by kernel_rfl, ?_⟩)
        go_simp
        refine hK _ ?_
        clear hK K
        refine lexL_skip (fun K hK => ⟨by kernel_rfl, ?_⟩)
        go_simp
        refine hK _ ?_
        clear hK K
        refine lexL_step (fun K hK => ⟨by kernel_rfl, ⟨_, rfl⟩, fun n => ?_, fun v hv => ?_⟩)
        · go_simp
          exact lUpon_one
        subst hv
        go_simp
        refine hK _ ?_
        clear hK K
        refine lexL_step (fun K hK => ⟨by kernel_rfl, ⟨_, rfl⟩, fun n => ?_, fun v hv => ?_⟩)
        · go_simp
          exact lUpon_one
        subst hv
        go_simp
        refine hK _ ?_
        clear hK K
        refine lexL_skip (fun K hK => ⟨by kernel_rfl, ?_⟩)
        go_simp
        refine hK _ ?_
        clear hK K
        refine lexL_skip (fun K hK => ⟨by kernel_rfl, ?_⟩)
        go_simp
        refine hK _ ?_
        clear hK K
        refine lexL_skip (fun K hK => ⟨by kernel_rfl, ?_⟩)
        go_simp
        refine hK _ ?_
        clear hK K
        refine lexL_skip (fun K hK => ⟨by kernel_rfl, ?_⟩)
        go_simp
        refine hK _ ?_
        clear hK K
        refine lexL_skip (fun K hK => ⟨by kernel_rfl, ?_⟩)
        go_simp
        refine hK _ ?_
        clear hK K
        refine lexL_skip (fun K hK => ⟨by kernel_rfl, ?_⟩)
        go_simp
        refine hK _ ?_
        clear hK K
        refine lexL_step (fun K hK => ⟨by kernel_rfl, ⟨_, rfl⟩, fun n => ?_, fun v hv => ?_⟩)
        · go_simp
          exact lUpon_one
        subst hv
        go_simp
        refine hK _ ?_
        clear hK K
        refine lexL_end ?_
        intro n9
        go_wp2
        go_ret
        exact ⟨rfl, below_go (unhideR HW) (drawn_below _ _)⟩
      by_cases q2 : -1152921504606846976 ≤ s.f
      case neg =>
        have hE : E = false := unhideR HN2 (fun h => q2 ((unhideR HS).2 h).2.1)
        subst hE
        have b1 : decide (s.t ≤ s.f) = false := decide_eq_false (by omega)
        have b2 : decide (s.f < -1152921504606846976) = true := decide_eq_true (by omega)
        clear HN HY HN2 HS HM
        go_wp2_with fail
        refine wp_region_lets [(· = .slice (some ⟨b, off, none⟩) L.length cap),
          (· = .int .i64 (k : Nat)),
          (· = .pointer (some ⟨b, off + k * 2, none⟩)),
          (· = .pointer (some ⟨b, off + k * 2, none⟩)),
          (· = .int .i64 s.f),
          (· = .slice (some ⟨b, off, none⟩) L.length cap),
          (· = .int .i64 (k : Nat)),
          (· = .pointer (some ⟨b, off + k * 2, none⟩)),
          (· = .pointer (some ⟨b, off + k * 2 + 1, none⟩)),
          (· = .int .i64 s.t),
          (· = .bool false),
          (· = .bool false),
          (· = .slice (some ⟨b, off, none⟩) L.length cap),
          (· = .int .i64 (k : Nat)),
          (· = .pointer (some ⟨b, off + k * 2, none⟩)),
          (· = .pointer (some ⟨b, off + k * 2, none⟩)),
          (· = .int .i64 s.f),
          (· = .bool true),
          (· = .bool true),
          (· = .bool true),
          (· = undef),
          (· = undef),
          (· = undef),
          (· = undef),
          (· = undef),
          (· = undef),
          (· = .bool true)] (by kernel_rfl) (by kernel_rfl) ?_
        refine lexL_step (fun K hK => ⟨by kernel_rfl, ⟨_, rfl⟩, fun n => ?_, fun v hv => ?_⟩)
        · go_simp
          exact lUpon_one
        subst hv
        go_simp
        refine hK _ ?_
        clear hK K
        refine lexL_step (fun K hK => ⟨by kernel_rfl, ⟨_, rfl⟩, fun n => ?_, fun v hv => ?_⟩)
        · go_simp
          exact lUpon_one
        subst hv
        go_simp
        refine hK _ ?_
        clear hK K
        refine lexL_step (fun K hK => ⟨by kernel_rfl, ⟨_, rfl⟩, fun n => ?_, fun v hv => ?_⟩)
        · go_simp
          exact lUpon_one
        subst hv
        go_simp
        refine hK _ ?_
        clear hK K
        refine lexL_step (fun K hK => ⟨by kernel_rfl, ⟨_, rfl⟩, fun n => ?_, fun v hv => ?_⟩)
        · go_simp
          exact lUpon_one
        subst hv
        go_simp
        refine hK _ ?_
        clear hK K
        refine lexL_step (fun K hK => ⟨by kernel_rfl, ⟨_, rfl⟩, fun n => ?_, fun v hv => ?_⟩)
        · go_simp
          exact lUpon_one
        subst hv
        go_simp
        refine hK _ ?_
        clear hK K
        refine lexL_step (fun K hK => ⟨by kernel_rfl, ⟨_, rfl⟩, fun n => ?_, fun v hv => ?_⟩)
        · go_simp
          exact lUpon_one
        subst hv
        go_simp
        refine hK _ ?_
        clear hK K
        refine lexL_step (fun K hK => ⟨by kernel_rfl, ⟨_, rfl⟩, fun n => ?_, fun v hv => ?_⟩)
        · go_simp
          exact lUpon_one
        subst hv
        go_simp
        refine hK _ ?_
        clear hK K
        refine lexL_step (fun K hK => ⟨by kernel_rfl, ⟨_, rfl⟩, fun n => ?_, fun v hv => ?_⟩)
        · go_simp
          exact lUpon_one
        subst hv
        go_simp
        refine hK _ ?_
        clear hK K
        refine lexL_step (fun K hK => ⟨by kernel_rfl, ⟨_, rfl⟩, fun n => ?_, fun v hv => ?_⟩)
        · go_simp
          exact lUpon_one
        subst hv
        go_simp
        refine hK _ ?_
        clear hK K
        refine lexL_step (fun K hK => ⟨by kernel_rfl, ⟨_, rfl⟩, fun n => ?_, fun v hv => ?_⟩)
        · go_simp
          exact lUpon_one
        subst hv
        go_simp
        refine hK _ ?_
        clear hK K
        refine lexL_step (fun K hK => ⟨by kernel_rfl, ⟨_, rfl⟩, fun n => ?_, fun v hv => ?_⟩)
        · go_simp
          exact lUpon_one
        subst hv
        go_simp
        refine hK _ ?_
        clear hK K
        refine lexL_step (fun K hK => ⟨by kernel_rfl, ⟨_, rfl⟩, fun n => ?_, fun v hv => ?_⟩)
        · go_simp
          exact lUpon_one
        subst hv
        go_simp
        refine hK _ ?_
        clear hK K
        refine lexL_step (fun K hK => ⟨by kernel_rfl, ⟨_, rfl⟩, fun n => ?_, fun v hv => ?_⟩)
        · go_simp
          exact lUpon_one
        subst hv
        go_simp
        refine hK _ ?_
        clear hK K
        refine lexL_step (fun K hK => ⟨by kernel_rfl, ⟨_, rfl⟩, fun n => ?_, fun v hv => ?_⟩)
        · go_simp
          exact lUpon_one
        subst hv
        go_simp
        refine hK _ ?_
        clear hK K
        refine lexL_step (fun K hK => ⟨by kernel_rfl, ⟨_, rfl⟩, fun n => ?_, fun v hv => ?_⟩)
        · go_simp
          exact lUpon_one
        subst hv
        go_simp
        refine hK _ ?_
        clear hK K
        refine lexL_step (fun K hK => ⟨by kernel_rfl, ⟨_, rfl⟩, fun n => ?_, fun v hv => ?_⟩)
        · go_simp
          exact lUpon_one
        subst hv
        go_simp
        refine hK _ ?_
        clear hK K
        refine lexL_step (fun K hK => ⟨by kernel_rfl, ⟨_, rfl⟩, fun n => ?_, fun v hv => ?_⟩)
        · go_simp
          exact lUpon_one
        subst hv
        go_simp
        refine hK _ ?_
        clear hK K
        refine lexL_step (fun K hK => ⟨by kernel_rfl, ⟨_, rfl⟩, fun n => ?_, fun v hv => ?_⟩)
        · go_simp
          exact lUpon_one
        subst hv
        go_simp
        refine hK _ ?_
        clear hK K
        refine lexL_step (fun K hK => ⟨by kernel_rfl, ⟨_, rfl⟩, fun n => ?_, fun v hv => ?_⟩)
        · go_simp
          exact lUpon_one
        subst hv
        go_simp
        refine hK _ ?_
        clear hK K
        refine lexL_step (fun K hK => ⟨by kernel_rfl, ⟨_, rfl⟩, fun n => ?_, fun v hv => ?_⟩)
        · go_simp
          exact lUpon_one
        subst hv
        go_simp
        refine hK _ ?_
        clear hK K
        refine lexL_skip (fun K hK => ⟨by kernel_rfl, ?_⟩)
        go_simp
        refine hK _ ?_
        clear hK K
        refine lexL_skip (fun K hK => ⟨by kernel_rfl, ?_⟩)
        go_simp
        refine hK _ ?_
        clear hK K
        refine lexL_skip (fun K hK => ⟨by kernel_rfl, ?_⟩)
        go_simp
        refine hK _ ?_
        clear hK K
        refine lexL_skip (fun K hK => ⟨by kernel_rfl, ?_⟩)
        go_simp
        refine hK _ ?_
        clear hK K
        refine lexL_skip (fun K hK => ⟨by kernel_rfl, ?_⟩)
        go_simp
        refine hK _ ?_
        clear hK K
        refine lexL_skip (fun K hK => ⟨by kernel_rfl, ?_⟩)
        go_simp
        refine hK _ ?_
        clear hK K
        refine lexL_step (fun K hK => ⟨by kernel_rfl, ⟨_, rfl⟩, fun n => ?_, fun v hv => ?_⟩)
        · go_simp
          exact lUpon_one
        subst hv
        go_simp
        refine hK _ ?_
        clear hK K
        refine lexL_end ?_
        intro n9
        go_wp2
        go_ret
        exact ⟨rfl, below_go (unhideR HW) (drawn_below _ _)⟩
      by_cases q3 : s.t ≤ 1152921504606846976
      case neg =>
        have hE : E = false := unhideR HN2 (fun h => q3 ((unhideR HS).2 h).2.2.1)
        subst hE
        have b1 : decide (s.t ≤ s.f) = false := decide_eq_false (by omega)
        have b2 : decide (s.f < -1152921504606846976) = false := decide_eq_false (by omega)
        have b3 : decide (1152921504606846976 < s.t) = true := decide_eq_true (by omega)
        clear HN HY HN2 HS HM
        go_wp2_with fail
        refine wp_region_lets [(· = .slice (some ⟨b, off, none⟩) L.length cap),
          (· = .int .i64 (k : Nat)),
          (· = .pointer (some ⟨b, off + k * 2, none⟩)),
          (· = .pointer (some ⟨b, off + k * 2, none⟩)),
          (· = .int .i64 s.f),
          (· = .slice (some ⟨b, off, none⟩) L.length cap),
          (· = .int .i64 (k : Nat)),
          (· = .pointer (some ⟨b, off + k * 2, none⟩)),
          (· = .pointer (some ⟨b, off + k * 2 + 1, none⟩)),
          (· = .int .i64 s.t),
          (· = .bool false),
          (· = .bool false),
          (· = .slice (some ⟨b, off, none⟩) L.length cap),
          (· = .int .i64 (k : Nat)),
          (· = .pointer (some ⟨b, off + k * 2, none⟩)),
          (· = .pointer (some ⟨b, off + k * 2, none⟩)),
          (· = .int .i64 s.f),
          (· = .bool false),
          (· = .bool false),
          (· = .bool false),
          (· = .slice (some ⟨b, off, none⟩) L.length cap),
          (· = .int .i64 (k : Nat)),
          (· = .pointer (some ⟨b, off + k * 2, none⟩)),
          (· = .pointer (some ⟨b, off + k * 2 + 1, none⟩)),
          (· = .int .i64 s.t),
          (· = .bool true),
          (· = .bool true)] (by kernel_rfl) (by kernel_rfl) ?_
        refine lexL_step (fun K hK => ⟨by kernel_rfl, ⟨_, rfl⟩, fun n => ?_, fun v hv => ?_⟩)
        · go_simp
          exact lUpon_one
        subst hv
        go_simp
        refine hK _ ?_
        clear hK K
        refine lexL_step (fun K hK => ⟨by kernel_rfl, ⟨_, rfl⟩, fun n => ?_, fun v hv => ?_⟩)
        · go_simp
          exact lUpon_one
        subst hv
        go_simp
        refine hK _ ?_
        clear hK K
        refine lexL_step (fun K hK => ⟨by kernel_rfl, ⟨_, rfl⟩, fun n => ?_, fun v hv => ?_⟩)
        · go_simp
          exact lUpon_one
        subst hv
        go_simp
        refine hK _ ?_
        clear hK K
        refine lexL_step (fun K hK => ⟨by kernel_rfl, ⟨_, rfl⟩, fun n => ?_, fun v hv => ?_⟩)
        · go_simp
          exact lUpon_one
        subst hv
        go_simp
        refine hK _ ?_
        clear hK K
        refine lexL_step (fun K hK => ⟨by kernel_rfl, ⟨_, rfl⟩, fun n => ?_, fun v hv => ?_⟩)
        · go_simp
          exact lUpon_one
        subst hv
        go_simp
        refine hK _ ?_
        clear hK K
        refine lexL_step (fun K hK => ⟨by kernel_rfl, ⟨_, rfl⟩, fun n => ?_, fun v hv => ?_⟩)
        · go_simp
          exact lUpon_one
        subst hv
        go_simp
        refine hK _ ?_
        clear hK K
        refine lexL_step (fun K hK => ⟨by kernel_rfl, ⟨_, rfl⟩, fun n => ?_, fun v hv => ?_⟩)
        · go_simp
          exact lUpon_one
        subst hv
        go_simp
        refine hK _ ?_
        clear hK K
        refine lexL_step (fun K hK => ⟨by kernel_rfl, ⟨_, rfl⟩, fun n => ?_, fun v hv => ?_⟩)
        · go_simp
          exact lUpon_one
        subst hv
        go_simp
        refine hK _ ?_
        clear hK K
        refine lexL_step (fun K hK => ⟨by kernel_rfl, ⟨_, rfl⟩, fun n => ?_, fun v hv => ?_⟩)
        · go_simp
          exact lUpon_one
        subst hv
        go_simp
        refine hK _ ?_
        clear hK K
        refine lexL_step (fun K hK => ⟨by kernel_rfl, ⟨_, rfl⟩, fun n => ?_, fun v hv => ?_⟩)
        · go_simp
          exact lUpon_one
        subst hv
        go_simp
        refine hK _ ?_
        clear hK K
        refine lexL_step (fun K hK => ⟨by kernel_rfl, ⟨_, rfl⟩, fun n => ?_, fun v hv => ?_⟩)
        · go_simp
          exact lUpon_one
        subst hv
        go_simp
        refine hK _ ?_
        clear hK K
        refine lexL_step (fun K hK => ⟨by kernel_rfl, ⟨_, rfl⟩, fun n => ?_, fun v hv => ?_⟩)
        · go_simp
          exact lUpon_one
        subst hv
        go_simp
        refine hK _ ?_
        clear hK K
        refine lexL_step (fun K hK => ⟨by kernel_rfl, ⟨_, rfl⟩, fun n => ?_, fun v hv => ?_⟩)
        · go_simp
          exact lUpon_one
        subst hv
        go_simp
        refine hK _ ?_
        clear hK K
        refine lexL_step (fun K hK => ⟨by kernel_rfl, ⟨_, rfl⟩, fun n => ?_, fun v hv => ?_⟩)
        · go_simp
          exact lUpon_one
        subst hv
        go_simp
        refine hK _ ?_
        clear hK K
        refine lexL_step (fun K hK => ⟨by kernel_rfl, ⟨_, rfl⟩, fun n => ?_, fun v hv => ?_⟩)
        · go_simp
          exact lUpon_one
        subst hv
        go_simp
        refine hK _ ?_
        clear hK K
        refine lexL_step (fun K hK => ⟨by kernel_rfl, ⟨_, rfl⟩, fun n => ?_, fun v hv => ?_⟩)
        · go_simp
          exact lUpon_one
        subst hv
        go_simp
        refine hK _ ?_
        clear hK K
        refine lexL_step (fun K hK => ⟨by kernel_rfl, ⟨_, rfl⟩, fun n => ?_, fun v hv => ?_⟩)
        · go_simp
          exact lUpon_one
        subst hv
        go_simp
        refine hK _ ?_
        clear hK K
        refine lexL_step (fun K hK => ⟨by kernel_rfl, ⟨_, rfl⟩, fun n => ?_, fun v hv => ?_⟩)
        · go_simp
          exact lUpon_one
        subst hv
        go_simp
        refine hK _ ?_
        clear hK K
        refine lexL_step (fun K hK => ⟨by kernel_rfl, ⟨_, rfl⟩, fun n => ?_, fun v hv => ?_⟩)
        · go_simp
          exact lUpon_one
        subst hv
        go_simp
        refine hK _ ?_
        clear hK K
        refine lexL_step (fun K hK => ⟨by kernel_rfl, ⟨_, rfl⟩, fun n => ?_, fun v hv => ?_⟩)
        · go_simp
          exact lUpon_one
        subst hv
        go_simp
        refine hK _ ?_
        clear hK K
        refine lexL_step (fun K hK => ⟨by kernel_rfl, ⟨_, rfl⟩, fun n => ?_, fun v hv => ?_⟩)
        · go_simp
          exact lUpon_one
        subst hv
        go_simp
        refine hK _ ?_
        clear hK K
        refine lexL_step (fun K hK => ⟨by kernel_rfl, ⟨_, rfl⟩, fun n => ?_, fun v hv => ?_⟩)
        · go_simp
          exact lUpon_one
        subst hv
        go_simp
        refine hK _ ?_
        clear hK K
        refine lexL_step (fun K hK => ⟨by kernel_rfl, ⟨_, rfl⟩, fun n => ?_, fun v hv => ?_⟩)
        · go_simp
          exact lUpon_one
        subst hv
        go_simp
        refine hK _ ?_
        clear hK K
        refine lexL_step (fun K hK => ⟨by kernel_rfl, ⟨_, rfl⟩, fun n => ?_, fun v hv => ?_⟩)
        · go_simp
          exact lUpon_one
        subst hv
        go_simp
        refine hK _ ?_
        clear hK K
        refine lexL_step (fun K hK => ⟨by kernel_rfl, ⟨_, rfl⟩, fun n => ?_, fun v hv => ?_⟩)
        · go_simp
          exact lUpon_one
        subst hv
        go_simp
        refine hK _ ?_
        clear hK K
        refine lexL_step (fun K hK => ⟨by kernel_rfl, ⟨_, rfl⟩, fun n => ?_, fun v hv => ?_⟩)
        · go_simp
          exact lUpon_one
        subst hv
        go_simp
        refine hK _ ?_
        clear hK K
        refine lexL_step (fun K hK => ⟨by kernel_rfl, ⟨_, rfl⟩, fun n => ?_, fun v hv => ?_⟩)
        · go_simp
          exact lUpon_one
        subst hv
        go_simp
        refine hK _ ?_
        clear hK K
        refine lexL_end ?_
        intro n9
        go_wp2
        go_ret
        exact ⟨rfl, below_go (unhideR HW) (drawn_below _ _)⟩
      have b1 : decide (s.t ≤ s.f) = false := decide_eq_false (by omega)
      have b2 : decide (s.f < -1152921504606846976) = false := decide_eq_false (by omega)
      have b3 : decide (1152921504606846976 < s.t) = false := decide_eq_false (by omega)
      go_wp2_with fail
      refine wp_region_lets [(· = .slice (some ⟨b, off, none⟩) L.length cap),
        (· = .int .i64 (k : Nat)),
        (· = .pointer (some ⟨b, off + k * 2, none⟩)),
        (· = .pointer (some ⟨b, off + k * 2, none⟩)),
        (· = .int .i64 s.f),
        (· = .slice (some ⟨b, off, none⟩) L.length cap),
        (· = .int .i64 (k : Nat)),
        (· = .pointer (some ⟨b, off + k * 2, none⟩)),
        (· = .pointer (some ⟨b, off + k * 2 + 1, none⟩)),
        (· = .int .i64 s.t),
        (· = .bool false),
        (· = .bool false),
        (· = .slice (some ⟨b, off, none⟩) L.length cap),
        (· = .int .i64 (k : Nat)),
        (· = .pointer (some ⟨b, off + k * 2, none⟩)),
        (· = .pointer (some ⟨b, off + k * 2, none⟩)),
        (· = .int .i64 s.f),
        (· = .bool false),
        (· = .bool false),
        (· = .bool false),
        (· = .slice (some ⟨b, off, none⟩) L.length cap),
        (· = .int .i64 (k : Nat)),
        (· = .pointer (some ⟨b, off + k * 2, none⟩)),
        (· = .pointer (some ⟨b, off + k * 2 + 1, none⟩)),
        (· = .int .i64 s.t),
        (· = .bool false),
        (· = .bool false)] (by kernel_rfl) (by kernel_rfl) ?_
      refine lexL_step (fun K hK => ⟨by kernel_rfl, ⟨_, rfl⟩, fun n => ?_, fun v hv => ?_⟩)
      · go_simp
        exact lUpon_one
      subst hv
      go_simp
      refine hK _ ?_
      clear hK K
      refine lexL_step (fun K hK => ⟨by kernel_rfl, ⟨_, rfl⟩, fun n => ?_, fun v hv => ?_⟩)
      · go_simp
        exact lUpon_one
      subst hv
      go_simp
      refine hK _ ?_
      clear hK K
      refine lexL_step (fun K hK => ⟨by kernel_rfl, ⟨_, rfl⟩, fun n => ?_, fun v hv => ?_⟩)
      · go_simp
        exact lUpon_one
      subst hv
      go_simp
      refine hK _ ?_
      clear hK K
      refine lexL_step (fun K hK => ⟨by kernel_rfl, ⟨_, rfl⟩, fun n => ?_, fun v hv => ?_⟩)
      · go_simp
        exact lUpon_one
      subst hv
      go_simp
      refine hK _ ?_
      clear hK K
      refine lexL_step (fun K hK => ⟨by kernel_rfl, ⟨_, rfl⟩, fun n => ?_, fun v hv => ?_⟩)
      · go_simp
        exact lUpon_one
      subst hv
      go_simp
      refine hK _ ?_
      clear hK K
      refine lexL_step (fun K hK => ⟨by kernel_rfl, ⟨_, rfl⟩, fun n => ?_, fun v hv => ?_⟩)
      · go_simp
        exact lUpon_one
      subst hv
      go_simp
      refine hK _ ?_
      clear hK K
      refine lexL_step (fun K hK => ⟨by kernel_rfl, ⟨_, rfl⟩, fun n => ?_, fun v hv => ?_⟩)
      · go_simp
        exact lUpon_one
      subst hv
      go_simp
      refine hK _ ?_
      clear hK K
      refine lexL_step (fun K hK => ⟨by kernel_rfl, ⟨_, rfl⟩, fun n => ?_, fun v hv => ?_⟩)
      · go_simp
        exact lUpon_one
      subst hv
      go_simp
      refine hK _ ?_
      clear hK K
      refine lexL_step (fun K hK => ⟨by kernel_rfl, ⟨_, rfl⟩, fun n => ?_, fun v hv => ?_⟩)
      · go_simp
        exact lUpon_one
      subst hv
      go_simp
      refine hK _ ?_
      clear hK K
      refine lexL_step (fun K hK => ⟨by kernel_rfl, ⟨_, rfl⟩, fun n => ?_, fun v hv => ?_⟩)
      · go_simp
        exact lUpon_one
      subst hv
      go_simp
      refine hK _ ?_
      clear hK K
      refine lexL_step (fun K hK => ⟨by kernel_rfl, ⟨_, rfl⟩, fun n => ?_, fun v hv => ?_⟩)
      · go_simp
        exact lUpon_one
      subst hv
      go_simp
      refine hK _ ?_
      clear hK K
      refine lexL_step (fun K hK => ⟨by kernel_rfl, ⟨_, rfl⟩, fun n => ?_, fun v hv => ?_⟩)
      · go_simp
        exact lUpon_one
      subst hv
      go_simp
      refine hK _ ?_
      clear hK K
      refine lexL_step (fun K hK => ⟨by kernel_rfl, ⟨_, rfl⟩, fun n => ?_, fun v hv => ?_⟩)
      · go_simp
        exact lUpon_one
      subst hv
      go_simp
      refine hK _ ?_
      clear hK K
      refine lexL_step (fun K hK => ⟨by kernel_rfl, ⟨_, rfl⟩, fun n => ?_, fun v hv => ?_⟩)
      · go_simp
        exact lUpon_one
      subst hv
      go_simp
      refine hK _ ?_
      clear hK K
      refine lexL_step (fun K hK => ⟨by kernel_rfl, ⟨_, rfl⟩, fun n => ?_, fun v hv => ?_⟩)
      · go_simp
        exact lUpon_one
      subst hv
      go_simp
      refine hK _ ?_
      clear hK K
      refine lexL_step (fun K hK => ⟨by kernel_rfl, ⟨_, rfl⟩, fun n => ?_, fun v hv => ?_⟩)
      · go_simp
        exact lUpon_one
      subst hv
      go_simp
      refine hK _ ?_
      clear hK K
      refine lexL_step (fun K hK => ⟨by kernel_rfl, ⟨_, rfl⟩, fun n => ?_, fun v hv => ?_⟩)
      · go_simp
        exact lUpon_one
      subst hv
      go_simp
      refine hK _ ?_
      clear hK K
      refine lexL_step (fun K hK => ⟨by kernel_rfl, ⟨_, rfl⟩, fun n => ?_, fun v hv => ?_⟩)
      · go_simp
        exact lUpon_one
      subst hv
      go_simp
      refine hK _ ?_
      clear hK K
      refine lexL_step (fun K hK => ⟨by kernel_rfl, ⟨_, rfl⟩, fun n => ?_, fun v hv => ?_⟩)
      · go_simp
        exact lUpon_one
      subst hv
      go_simp
      refine hK _ ?_
      clear hK K
      refine lexL_step (fun K hK => ⟨by kernel_rfl, ⟨_, rfl⟩, fun n => ?_, fun v hv => ?_⟩)
      · go_simp
        exact lUpon_one
      subst hv
      go_simp
      refine hK _ ?_
      clear hK K
      refine lexL_step (fun K hK => ⟨by kernel_rfl, ⟨_, rfl⟩, fun n => ?_, fun v hv => ?_⟩)
      · go_simp
        exact lUpon_one
      subst hv
      go_simp
      refine hK _ ?_
      clear hK K
      refine lexL_step (fun K hK => ⟨by kernel_rfl, ⟨_, rfl⟩, fun n => ?_, fun v hv => ?_⟩)
      · go_simp
        exact lUpon_one
      subst hv
      go_simp
      refine hK _ ?_
      clear hK K
      refine lexL_step (fun K hK => ⟨by kernel_rfl, ⟨_, rfl⟩, fun n => ?_, fun v hv => ?_⟩)
      · go_simp
        exact lUpon_one
      subst hv
      go_simp
      refine hK _ ?_
      clear hK K
      refine lexL_step (fun K hK => ⟨by kernel_rfl, ⟨_, rfl⟩, fun n => ?_, fun v hv => ?_⟩)
      · go_simp
        exact lUpon_one
      subst hv
      go_simp
      refine hK _ ?_
      clear hK K
      refine lexL_step (fun K hK => ⟨by kernel_rfl, ⟨_, rfl⟩, fun n => ?_, fun v hv => ?_⟩)
      · go_simp
        exact lUpon_one
      subst hv
      go_simp
      refine hK _ ?_
      clear hK K
      refine lexL_step (fun K hK => ⟨by kernel_rfl, ⟨_, rfl⟩, fun n => ?_, fun v hv => ?_⟩)
      · go_simp
        exact lUpon_one
      subst hv
      go_simp
      refine hK _ ?_
      clear hK K
      refine lexL_step (fun K hK => ⟨by kernel_rfl, ⟨_, rfl⟩, fun n => ?_, fun v hv => ?_⟩)
      · go_simp
        exact lUpon_one
      subst hv
      go_simp
      refine hK _ ?_
      clear hK K
      refine lexL_end ?_
      intro n9
      have hbW := drawn_below wr n9
      have e0 := (hbW.cell (p := ⟨b, off + k * 2, none⟩) hb).trans c0
      clear c0 c1
      replace HW := hideR (below_go (unhideR HW) hbW)
      generalize wr.drewN n9 = W9 at *
      clear hbW
      go_wp2_with fail
      by_cases hk0 : k = 0
      · have HM2 : HeldR (∀ j, j < k + 1 → Spn.Ok L j) := fun j hj => by
          obtain rfl : j = k := by omega
          exact (unhideR HS).1 q1 q2 q3 (fun h => absurd h (by omega))
        have b5 : decide (0 < k) = false := decide_eq_false (by omega)
        clear HN HY HN2 HS HM hk0
        refine wp_region_lets [(· = .int .i64 (k : Nat)),
          (· = .bool false),
          (· = .bool false),
          (· = undef),
          (· = undef),
          (· = undef),
          (· = undef),
          (· = undef),
          (· = undef),
          (· = undef),
          (· = undef),
          (· = undef),
          (· = undef),
          (· = undef),
          (· = undef),
          (· = .bool false)] (by kernel_rfl) (by kernel_rfl) ?_
        refine lexL_step (fun K hK => ⟨by kernel_rfl, ⟨_, rfl⟩, fun n => ?_, fun v hv => ?_⟩)
        · go_simp
          exact lUpon_one
        subst hv
        go_simp
        refine hK _ ?_
        clear hK K
        refine lexL_step (fun K hK => ⟨by kernel_rfl, ⟨_, rfl⟩, fun n => ?_, fun v hv => ?_⟩)
        · go_simp
          exact lUpon_one
        subst hv
        go_simp
        refine hK _ ?_
        clear hK K
        refine lexL_step (fun K hK => ⟨by kernel_rfl, ⟨_, rfl⟩, fun n => ?_, fun v hv => ?_⟩)
        · go_simp
          exact lUpon_one
        subst hv
        go_simp
        refine hK _ ?_
        clear hK K
        refine lexL_skip (fun K hK => ⟨by kernel_rfl, ?_⟩)
        go_simp
        refine hK _ ?_
        clear hK K
        refine lexL_skip (fun K hK => ⟨by kernel_rfl, ?_⟩)
        go_simp
        refine hK _ ?_
        clear hK K
        refine lexL_skip (fun K hK => ⟨by kernel_rfl, ?_⟩)
        go_simp
        refine hK _ ?_
        clear hK K
        refine lexL_skip (fun K hK => ⟨by kernel_rfl, ?_⟩)
        go_simp
        refine hK _ ?_
        clear hK K
        refine lexL_skip (fun K hK => ⟨by kernel_rfl, ?_⟩)
        go_simp
        refine hK _ ?_
        clear hK K
        refine lexL_skip (fun K hK => ⟨by kernel_rfl, ?_⟩)
        go_simp
        refine hK _ ?_
        clear hK K
        refine lexL_skip (fun K hK => ⟨by kernel_rfl, ?_⟩)
        go_simp
        refine hK _ ?_
        clear hK K
        refine lexL_skip (fun K hK => ⟨by kernel_rfl, ?_⟩)
        go_simp
        refine hK _ ?_
        clear hK K
        refine lexL_skip (fun K hK => ⟨by kernel_rfl, ?_⟩)
        go_simp
        refine hK _ ?_
        clear hK K
        refine lexL_skip (fun K hK => ⟨by kernel_rfl, ?_⟩)
        go_simp
        refine hK _ ?_
        clear hK K
        refine lexL_skip (fun K hK => ⟨by kernel_rfl, ?_⟩)
        go_simp
        refine hK _ ?_
        clear hK K
        refine lexL_skip (fun K hK => ⟨by kernel_rfl, ?_⟩)
        go_simp
        refine hK _ ?_
        clear hK K
        refine lexL_step (fun K hK => ⟨by kernel_rfl, ⟨_, rfl⟩, fun n => ?_, fun v hv => ?_⟩)
        · go_simp
          exact lUpon_one
        subst hv
        go_simp
        refine hK _ ?_
        clear hK K
        refine lexL_end ?_
        intro n8
        go_wp2
        exact ⟨⟨k + 1, by omega, by go_num, HM2, hideR (below_go (unhideR HW) (drawn_below _ _))⟩, by simp [intOf]; omega⟩
      · obtain ⟨m, hm⟩ : ∃ m, k = m + 1 := ⟨k - 1, by omega⟩
        have b5 : decide (0 < k) = true := decide_eq_true (by omega)
        obtain ⟨b', off', e', _, hat'⟩ := ((unhideR HR).below (unhideR HW)).at_ m (by omega)
        cases e'
        have d1 := hat'.c1
        clear hat'
        have hS2 := unhideR HS
        rw [show k - 1 = m by omega] at hS2
        have HS2 := hideR hS2
        clear hS2 HS
        generalize L.getD m sp0 = r at *
        have ek : (k : Int) - 1 = (m : Int) := by omega
        have ew : IntKind.i64.wrap (m : Int) = (m : Int) := iwrap (by omega) (by omega)
        have hm1 : m < L.length := by omega
        have HK := hideR hm
        clear hm hk0
        by_cases q4 : r.t < s.f
        · have b4 : decide (s.f ≤ r.t) = false := decide_eq_false (by omega)
          have HM2 : HeldR (∀ j, j < k + 1 → Spn.Ok L j) := fun j hj => by
            by_cases e : j = k
            · subst e
              exact (unhideR HS2).1 q1 q2 q3 (fun _ => q4)
            · exact unhideR HM j (by omega)
          clear HN HY HN2 HS2 HM
          refine wp_region_lets [(· = .int .i64 (k : Nat)),
            (· = .bool true),
            (· = .bool true),
            (· = .slice (some ⟨b, off, none⟩) L.length cap),
            (· = .int .i64 (k : Nat)),
            (· = .int .i64 (m : Nat)),
            (· = .pointer (some ⟨b, off + m * 2, none⟩)),
            (· = .pointer (some ⟨b, off + m * 2 + 1, none⟩)),
            (· = .int .i64 r.t),
            (· = .slice (some ⟨b, off, none⟩) L.length cap),
            (· = .int .i64 (k : Nat)),
            (· = .pointer (some ⟨b, off + k * 2, none⟩)),
            (· = .pointer (some ⟨b, off + k * 2, none⟩)),
            (· = .int .i64 s.f),
            (· = .bool false),
            (· = .bool false)] (by kernel_rfl) (by kernel_rfl) ?_
          refine lexL_step (fun K hK => ⟨by kernel_rfl, ⟨_, rfl⟩, fun n => ?_, fun v hv => ?_⟩)
          · go_simp
            exact lUpon_one
          subst hv
          go_simp
          refine hK _ ?_
          clear hK K
          refine lexL_step (fun K hK => ⟨by kernel_rfl, ⟨_, rfl⟩, fun n => ?_, fun v hv => ?_⟩)
          · go_simp
            exact lUpon_one
          subst hv
          go_simp
          refine hK _ ?_
          clear hK K
          refine lexL_step (fun K hK => ⟨by kernel_rfl, ⟨_, rfl⟩, fun n => ?_, fun v hv => ?_⟩)
          · go_simp
            exact lUpon_one
          subst hv
          go_simp
          refine hK _ ?_
          clear hK K
          refine lexL_step (fun K hK => ⟨by kernel_rfl, ⟨_, rfl⟩, fun n => ?_, fun v hv => ?_⟩)
          · go_simp
            exact lUpon_one
          subst hv
          go_simp
          refine hK _ ?_
          clear hK K
          refine lexL_step (fun K hK => ⟨by kernel_rfl, ⟨_, rfl⟩, fun n => ?_, fun v hv => ?_⟩)
          · go_simp
            exact lUpon_one
          subst hv
          go_simp
          refine hK _ ?_
          clear hK K
          refine lexL_step (fun K hK => ⟨by kernel_rfl, ⟨_, rfl⟩, fun n => ?_, fun v hv => ?_⟩)
          · go_simp
            exact lUpon_one
          subst hv
          go_simp
          refine hK _ ?_
          clear hK K
          refine lexL_step (fun K hK => ⟨by kernel_rfl, ⟨_, rfl⟩, fun n => ?_, fun v hv => ?_⟩)
          · go_simp
            exact lUpon_one
          subst hv
          go_simp
          refine hK _ ?_
          clear hK K
          refine lexL_step (fun K hK => ⟨by kernel_rfl, ⟨_, rfl⟩, fun n => ?_, fun v hv => ?_⟩)
          · go_simp
            exact lUpon_one
          subst hv
          go_simp
          refine hK _ ?_
          clear hK K
          refine lexL_step (fun K hK => ⟨by kernel_rfl, ⟨_, rfl⟩, fun n => ?_, fun v hv => ?_⟩)
          · go_simp
            exact lUpon_one
          subst hv
          go_simp
          refine hK _ ?_
          clear hK K
          refine lexL_step (fun K hK => ⟨by kernel_rfl, ⟨_, rfl⟩, fun n => ?_, fun v hv => ?_⟩)
          · go_simp
            exact lUpon_one
          subst hv
          go_simp
          refine hK _ ?_
          clear hK K
          refine lexL_step (fun K hK => ⟨by kernel_rfl, ⟨_, rfl⟩, fun n => ?_, fun v hv => ?_⟩)
          · go_simp
            exact lUpon_one
          subst hv
          go_simp
          refine hK _ ?_
          clear hK K
          refine lexL_step (fun K hK => ⟨by kernel_rfl, ⟨_, rfl⟩, fun n => ?_, fun v hv => ?_⟩)
          · go_simp
            exact lUpon_one
          subst hv
          go_simp
          refine hK _ ?_
          clear hK K
          refine lexL_step (fun K hK => ⟨by kernel_rfl, ⟨_, rfl⟩, fun n => ?_, fun v hv => ?_⟩)
          · go_simp
            exact lUpon_one
          subst hv
          go_simp
          refine hK _ ?_
          clear hK K
          refine lexL_step (fun K hK => ⟨by kernel_rfl, ⟨_, rfl⟩, fun n => ?_, fun v hv => ?_⟩)
          · go_simp
            exact lUpon_one
          subst hv
          go_simp
          refine hK _ ?_
          clear hK K
          refine lexL_step (fun K hK => ⟨by kernel_rfl, ⟨_, rfl⟩, fun n => ?_, fun v hv => ?_⟩)
          · go_simp
            exact lUpon_one
          subst hv
          go_simp
          refine hK _ ?_
          clear hK K
          refine lexL_step (fun K hK => ⟨by kernel_rfl, ⟨_, rfl⟩, fun n => ?_, fun v hv => ?_⟩)
          · go_simp
            exact lUpon_one
          subst hv
          go_simp
          refine hK _ ?_
          clear hK K
          refine lexL_end ?_
          intro n8
          go_wp2
          exact ⟨⟨k + 1, by omega, by go_num, HM2, hideR (below_go (unhideR HW) (drawn_below _ _))⟩, by simp [intOf]; omega⟩
        · have b4 : decide (s.f ≤ r.t) = true := decide_eq_true (by omega)
          have hE : E = false := unhideR HN2 (fun h => q4 (((unhideR HS2).2 h).2.2.2 (by have := unhideR HK; omega)))
          subst hE
          clear HN HY HN2 HS2 HM
          refine wp_region_lets [(· = .int .i64 (k : Nat)),
            (· = .bool true),
            (· = .bool true),
            (· = .slice (some ⟨b, off, none⟩) L.length cap),
            (· = .int .i64 (k : Nat)),
            (· = .int .i64 (m : Nat)),
            (· = .pointer (some ⟨b, off + m * 2, none⟩)),
            (· = .pointer (some ⟨b, off + m * 2 + 1, none⟩)),
            (· = .int .i64 r.t),
            (· = .slice (some ⟨b, off, none⟩) L.length cap),
            (· = .int .i64 (k : Nat)),
            (· = .pointer (some ⟨b, off + k * 2, none⟩)),
            (· = .pointer (some ⟨b, off + k * 2, none⟩)),
            (· = .int .i64 s.f),
            (· = .bool true),
            (· = .bool true)] (by kernel_rfl) (by kernel_rfl) ?_
          refine lexL_step (fun K hK => ⟨by kernel_rfl, ⟨_, rfl⟩, fun n => ?_, fun v hv => ?_⟩)
          · go_simp
            exact lUpon_one
          subst hv
          go_simp
          refine hK _ ?_
          clear hK K
          refine lexL_step (fun K hK => ⟨by kernel_rfl, ⟨_, rfl⟩, fun n => ?_, fun v hv => ?_⟩)
          · go_simp
            exact lUpon_one
          subst hv
          go_simp
          refine hK _ ?_
          clear hK K
          refine lexL_step (fun K hK => ⟨by kernel_rfl, ⟨_, rfl⟩, fun n => ?_, fun v hv => ?_⟩)
          · go_simp
            exact lUpon_one
          subst hv
          go_simp
          refine hK _ ?_
          clear hK K
          refine lexL_step (fun K hK => ⟨by kernel_rfl, ⟨_, rfl⟩, fun n => ?_, fun v hv => ?_⟩)
          · go_simp
            exact lUpon_one
          subst hv
          go_simp
          refine hK _ ?_
          clear hK K
          refine lexL_step (fun K hK => ⟨by kernel_rfl, ⟨_, rfl⟩, fun n => ?_, fun v hv => ?_⟩)
          · go_simp
            exact lUpon_one
          subst hv
          go_simp
          refine hK _ ?_
          clear hK K
          refine lexL_step (fun K hK => ⟨by kernel_rfl, ⟨_, rfl⟩, fun n => ?_, fun v hv => ?_⟩)
          · go_simp
            exact lUpon_one
          subst hv
          go_simp
          refine hK _ ?_
          clear hK K
          refine lexL_step (fun K hK => ⟨by kernel_rfl, ⟨_, rfl⟩, fun n => ?_, fun v hv => ?_⟩)
          · go_simp
            exact lUpon_one
          subst hv
          go_simp
          refine hK _ ?_
          clear hK K
          refine lexL_step (fun K hK => ⟨by kernel_rfl, ⟨_, rfl⟩, fun n => ?_, fun v hv => ?_⟩)
          · go_simp
            exact lUpon_one
          subst hv
          go_simp
          refine hK _ ?_
          clear hK K
          refine lexL_step (fun K hK => ⟨by kernel_rfl, ⟨_, rfl⟩, fun n => ?_, fun v hv => ?_⟩)
          · go_simp
            exact lUpon_one
          subst hv
          go_simp
          refine hK _ ?_
          clear hK K
          refine lexL_step (fun K hK => ⟨by kernel_rfl, ⟨_, rfl⟩, fun n => ?_, fun v hv => ?_⟩)
          · go_simp
            exact lUpon_one
          subst hv
          go_simp
          refine hK _ ?_
          clear hK K
          refine lexL_step (fun K hK => ⟨by kernel_rfl, ⟨_, rfl⟩, fun n => ?_, fun v hv => ?_⟩)
          · go_simp
            exact lUpon_one
          subst hv
          go_simp
          refine hK _ ?_
          clear hK K
          refine lexL_step (fun K hK => ⟨by kernel_rfl, ⟨_, rfl⟩, fun n => ?_, fun v hv => ?_⟩)
          · go_simp
            exact lUpon_one
          subst hv
          go_simp
          refine hK _ ?_
          clear hK K
          refine lexL_step (fun K hK => ⟨by kernel_rfl, ⟨_, rfl⟩, fun n => ?_, fun v hv => ?_⟩)
          · go_simp
            exact lUpon_one
          subst hv
          go_simp
          refine hK _ ?_
          clear hK K
          refine lexL_step (fun K hK => ⟨by kernel_rfl, ⟨_, rfl⟩, fun n => ?_, fun v hv => ?_⟩)
          · go_simp
            exact lUpon_one
          subst hv
          go_simp
          refine hK _ ?_
          clear hK K
          refine lexL_step (fun K hK => ⟨by kernel_rfl, ⟨_, rfl⟩, fun n => ?_, fun v hv => ?_⟩)
          · go_simp
            exact lUpon_one
          subst hv
          go_simp
          refine hK _ ?_
          clear hK K
          refine lexL_step (fun K hK => ⟨by kernel_rfl, ⟨_, rfl⟩, fun n => ?_, fun v hv => ?_⟩)
          · go_simp
            exact lUpon_one
          subst hv
          go_simp
          refine hK _ ?_
          clear hK K
          refine lexL_end ?_
          intro n8
          go_wp2
          go_ret
          exact ⟨rfl, below_go (unhideR HW) (drawn_below _ _)⟩
    · obtain rfl : k = L.length := by omega
      have hE : E = true := unhideR HY (unhideR HM)
      subst hE
      clear HN HY HM
      go_wp2
      go_ret
      exact ⟨rfl, unhideR HW⟩
set_option maxRecDepth 100000 in
set_option maxHeartbeats 1600000 in
theorem right_any (ad : Option Addr) (cap : Nat) (L : List Spn) (w : World) (hr : SpCame w ad L) (hl : L.length ≤ 9223372036854775807) (hR : riseV L) :
    Calls Tryd.prog 20 #[.slice ad L.length cap] w fun e w' => e = .returned (.bool true) ∧ Below w.heap.size w w' := by
  have HR := hideR hr
  have HU := hideR hR
  clear hr hR
  go_enter Tryd.func20, Tryd.ntmps20
  go_wp2
  go_loopw [3] (fun kv wl => ∃ k : Nat, k ≤ L.length ∧ kv = .int .i64 (k : Nat) ∧ HeldR (Below w.heap.size w wl)) (fun kv _ => L.length + 1 - (intOf kv).toNat)
  case atStart => exact ⟨0, by omega, rfl, hideR (Below.refl _ _)⟩
  case round =>
    obtain ⟨k, hk, rfl, HW⟩ := hrel
    by_cases hlt : k < L.length
    · obtain ⟨b, off, rfl, hb, hat⟩ := ((unhideR HR).below (unhideR HW)).at_ k hlt
      obtain ⟨c0, c1⟩ := hat
      have hu := unhideR HU k hlt
      unfold Spn.Up at hu
      generalize L.getD k sp0 = s at *
      have b1 : decide (s.t ≤ s.f) = false := decide_eq_false (by omega)
      by_cases hk0 : k = 0
      · have b5 : decide (0 < k) = false := decide_eq_false (by omega)
        clear hu hk0
        go_wp2_with fail
        refine wp_region_lets [(· = .slice (some ⟨b, off, none⟩) L.length cap),
          (· = .int .i64 (k : Nat)),
          (· = .pointer (some ⟨b, off + k * 2, none⟩)),
          (· = .pointer (some ⟨b, off + k * 2, none⟩)),
          (· = .int .i64 s.f),
          (· = .slice (some ⟨b, off, none⟩) L.length cap),
          (· = .int .i64 (k : Nat)),
          (· = .pointer (some ⟨b, off + k * 2, none⟩)),
          (· = .pointer (some ⟨b, off + k * 2 + 1, none⟩)),
          (· = .int .i64 s.t),
          (· = .bool false),
          (· = .bool false),
          (· = .int .i64 (k : Nat)),
          (· = .bool false),
          (· = .bool false),
          (· = undef),
          (· = undef),
          (· = undef),
          (· = undef),
          (· = undef),
          (· = undef),
          (· = undef),
          (· = undef),
          (· = undef),
          (· = undef),
          (· = undef),
          (· = undef),
          (· = .bool false),
          (· = .bool false)] (by kernel_rfl) (by kernel_rfl) ?_
        refine lexL_step (fun K hK => ⟨by kernel_rfl, ⟨_, rfl⟩, fun n => ?_, fun v hv => ?_⟩)
        · go_simp
          exact lUpon_one
        subst hv
        go_simp
        refine hK _ ?_
        clear hK K
        refine lexL_step (fun K hK => ⟨by kernel_rfl, ⟨_, rfl⟩, fun n => ?_, fun v hv => ?_⟩)
        · go_simp
          exact lUpon_one
        subst hv
        go_simp
        refine hK _ ?_
        clear hK K
        refine lexL_step (fun K hK => ⟨by kernel_rfl, ⟨_, rfl⟩, fun n => ?_, fun v hv => ?_⟩)
        · go_simp
          exact lUpon_one
        subst hv
        go_simp
        refine hK _ ?_
        clear hK K
        refine lexL_step (fun K hK => ⟨by kernel_rfl, ⟨_, rfl⟩, fun n => ?_, fun v hv => ?_⟩)
        · go_simp
          exact lUpon_one
        subst hv
        go_simp
        refine hK _ ?_
        clear hK K
        refine lexL_step (fun K hK => ⟨by kernel_rfl, ⟨_, rfl⟩, fun n => ?_, fun v hv => ?_⟩)
        · go_simp
          exact lUpon_one
        subst hv
        go_simp
        refine hK _ ?_
        clear hK K
        refine lexL_step (fun K hK => ⟨by kernel_rfl, ⟨_, rfl⟩, fun n => ?_, fun v hv => ?_⟩)
        · go_simp
          exact lUpon_one
        subst hv
        go_simp
        refine hK _ ?_
        clear hK K
        refine lexL_step (fun K hK => ⟨by kernel_rfl, ⟨_, rfl⟩, fun n => ?_, fun v hv => ?_⟩)
        · go_simp
          exact lUpon_one
        subst hv
        go_simp
        refine hK _ ?_
        clear hK K
        refine lexL_step (fun K hK => ⟨by kernel_rfl, ⟨_, rfl⟩, fun n => ?_, fun v hv => ?_⟩)
        · go_simp
          exact lUpon_one
        subst hv
        go_simp
        refine hK _ ?_
        clear hK K
        refine lexL_step (fun K hK => ⟨by kernel_rfl, ⟨_, rfl⟩, fun n => ?_, fun v hv => ?_⟩)
        · go_simp
          exact lUpon_one
        subst hv
        go_simp
        refine hK _ ?_
        clear hK K
        refine lexL_step (fun K hK => ⟨by kernel_rfl, ⟨_, rfl⟩, fun n => ?_, fun v hv => ?_⟩)
        · go_simp
          exact lUpon_one
        subst hv
        go_simp
        refine hK _ ?_
        clear hK K
        refine lexL_step (fun K hK => ⟨by kernel_rfl, ⟨_, rfl⟩, fun n => ?_, fun v hv => ?_⟩)
        · go_simp
          exact lUpon_one
        subst hv
        go_simp
        refine hK _ ?_
        clear hK K
        refine lexL_step (fun K hK => ⟨by kernel_rfl, ⟨_, rfl⟩, fun n => ?_, fun v hv => ?_⟩)
        · go_simp
          exact lUpon_one
        subst hv
        go_simp
        refine hK _ ?_
        clear hK K
        refine lexL_step (fun K hK => ⟨by kernel_rfl, ⟨_, rfl⟩, fun n => ?_, fun v hv => ?_⟩)
        · go_simp
          exact lUpon_one
        subst hv
        go_simp
        refine hK _ ?_
        clear hK K
        refine lexL_step (fun K hK => ⟨by kernel_rfl, ⟨_, rfl⟩, fun n => ?_, fun v hv => ?_⟩)
        · go_simp
          exact lUpon_one
        subst hv
        go_simp
        refine hK _ ?_
        clear hK K
        refine lexL_step (fun K hK => ⟨by kernel_rfl, ⟨_, rfl⟩, fun n => ?_, fun v hv => ?_⟩)
        · go_simp
          exact lUpon_one
        subst hv
        go_simp
        refine hK _ ?_
        clear hK K
        refine lexL_skip (fun K hK => ⟨by kernel_rfl, ?_⟩)
        go_simp
        refine hK _ ?_
        clear hK K
        refine lexL_skip (fun K hK => ⟨by kernel_rfl, ?_⟩)
        go_simp
        refine hK _ ?_
        clear hK K
        refine lexL_skip (fun K hK => ⟨by kernel_rfl, ?_⟩)
        go_simp
        refine hK _ ?_
        clear hK K
        refine lexL_skip (fun K hK => ⟨by kernel_rfl, ?_⟩)
        go_simp
        refine hK _ ?_
        clear hK K
        refine lexL_skip (fun K hK => ⟨by kernel_rfl, ?_⟩)
        go_simp
        refine hK _ ?_
        clear hK K
        refine lexL_skip (fun K hK => ⟨by kernel_rfl, ?_⟩)
        go_simp
        refine hK _ ?_
        clear hK K
        refine lexL_skip (fun K hK => ⟨by kernel_rfl, ?_⟩)
        go_simp
        refine hK _ ?_
        clear hK K
        refine lexL_skip (fun K hK => ⟨by kernel_rfl, ?_⟩)
        go_simp
        refine hK _ ?_
        clear hK K
        refine lexL_skip (fun K hK => ⟨by kernel_rfl, ?_⟩)
        go_simp
        refine hK _ ?_
        clear hK K
        refine lexL_skip (fun K hK => ⟨by kernel_rfl, ?_⟩)
        go_simp
        refine hK _ ?_
        clear hK K
        refine lexL_skip (fun K hK => ⟨by kernel_rfl, ?_⟩)
        go_simp
        refine hK _ ?_
        clear hK K
        refine lexL_skip (fun K hK => ⟨by kernel_rfl, ?_⟩)
        go_simp
        refine hK _ ?_
        clear hK K
        refine lexL_step (fun K hK => ⟨by kernel_rfl, ⟨_, rfl⟩, fun n => ?_, fun v hv => ?_⟩)
        · go_simp
          exact lUpon_one
        subst hv
        go_simp
        refine hK _ ?_
        clear hK K
        refine lexL_step (fun K hK => ⟨by kernel_rfl, ⟨_, rfl⟩, fun n => ?_, fun v hv => ?_⟩)
        · go_simp
          exact lUpon_one
        subst hv
        go_simp
        refine hK _ ?_
        clear hK K
        refine lexL_end ?_
        intro n9
        go_wp2
        exact ⟨⟨k + 1, by omega, by go_num, hideR (below_go (unhideR HW) (drawn_below _ _))⟩, by simp [intOf]; omega⟩
      · obtain ⟨m, hm⟩ : ∃ m, k = m + 1 := ⟨k - 1, by omega⟩
        have b5 : decide (0 < k) = true := decide_eq_true (by omega)
        obtain ⟨b', off', e', _, hat'⟩ := ((unhideR HR).below (unhideR HW)).at_ m (by omega)
        cases e'
        have d1 := hat'.c1
        clear hat'
        have hu2 := hu.2 (by omega)
        rw [show k - 1 = m by omega] at hu2
        generalize L.getD m sp0 = r at *
        have b4 : decide (s.f ≤ r.t) = false := decide_eq_false (by omega)
        have ek : (k : Int) - 1 = (m : Int) := by omega
        have ew : IntKind.i64.wrap (m : Int) = (m : Int) := iwrap (by omega) (by omega)
        have hm1 : m < L.length := by omega
        clear hm hk0 hu
        go_wp2_with fail
        refine wp_region_lets [(· = .slice (some ⟨b, off, none⟩) L.length cap),
          (· = .int .i64 (k : Nat)),
          (· = .pointer (some ⟨b, off + k * 2, none⟩)),
          (· = .pointer (some ⟨b, off + k * 2, none⟩)),
          (· = .int .i64 s.f),
          (· = .slice (some ⟨b, off, none⟩) L.length cap),
          (· = .int .i64 (k : Nat)),
          (· = .pointer (some ⟨b, off + k * 2, none⟩)),
          (· = .pointer (some ⟨b, off + k * 2 + 1, none⟩)),
          (· = .int .i64 s.t),
          (· = .bool false),
          (· = .bool false),
          (· = .int .i64 (k : Nat)),
          (· = .bool true),
          (· = .bool true),
          (· = .slice (some ⟨b, off, none⟩) L.length cap),
          (· = .int .i64 (k : Nat)),
          (· = .pointer (some ⟨b, off + k * 2, none⟩)),
          (· = .pointer (some ⟨b, off + k * 2, none⟩)),
          (· = .int .i64 s.f),
          (· = .slice (some ⟨b, off, none⟩) L.length cap),
          (· = .int .i64 (k : Nat)),
          (· = .int .i64 (m : Nat)),
          (· = .pointer (some ⟨b, off + m * 2, none⟩)),
          (· = .pointer (some ⟨b, off + m * 2 + 1, none⟩)),
          (· = .int .i64 r.t),
          (· = .bool false),
          (· = .bool false),
          (· = .bool false)] (by kernel_rfl) (by kernel_rfl) ?_
        refine lexL_step (fun K hK => ⟨by kernel_rfl, ⟨_, rfl⟩, fun n => ?_, fun v hv => ?_⟩)
        · go_simp
          exact lUpon_one
        subst hv
        go_simp
        refine hK _ ?_
        clear hK K
        refine lexL_step (fun K hK => ⟨by kernel_rfl, ⟨_, rfl⟩, fun n => ?_, fun v hv => ?_⟩)
        · go_simp
          exact lUpon_one
        subst hv
        go_simp
        refine hK _ ?_
        clear hK K
        refine lexL_step (fun K hK => ⟨by kernel_rfl, ⟨_, rfl⟩, fun n => ?_, fun v hv => ?_⟩)
        · go_simp
          exact lUpon_one
        subst hv
        go_simp
        refine hK _ ?_
        clear hK K
        refine lexL_step (fun K hK => ⟨by kernel_rfl, ⟨_, rfl⟩, fun n => ?_, fun v hv => ?_⟩)
        · go_simp
          exact lUpon_one
        subst hv
        go_simp
        refine hK _ ?_
        clear hK K
        refine lexL_step (fun K hK => ⟨by kernel_rfl, ⟨_, rfl⟩, fun n => ?_, fun v hv => ?_⟩)
        · go_simp
          exact lUpon_one
        subst hv
        go_simp
        refine hK _ ?_
        clear hK K
        refine lexL_step (fun K hK => ⟨by kernel_rfl, ⟨_, rfl⟩, fun n => ?_, fun v hv => ?_⟩)
        · go_simp
          exact lUpon_one
        subst hv
        go_simp
        refine hK _ ?_
        clear hK K
        refine lexL_step (fun K hK => ⟨by kernel_rfl, ⟨_, rfl⟩, fun n => ?_, fun v hv => ?_⟩)
        · go_simp
          exact lUpon_one
        subst hv
        go_simp
        refine hK _ ?_
        clear hK K
        refine lexL_step (fun K hK => ⟨by kernel_rfl, ⟨_, rfl⟩, fun n => ?_, fun v hv => ?_⟩)
        · go_simp
          exact lUpon_one
        subst hv
        go_simp
        refine hK _ ?_
        clear hK K
        refine lexL_step (fun K hK => ⟨by kernel_rfl, ⟨_, rfl⟩, fun n => ?_, fun v hv => ?_⟩)
        · go_simp
          exact lUpon_one
        subst hv
        go_simp
        refine hK _ ?_
        clear hK K
        refine lexL_step (fun K hK => ⟨by kernel_rfl, ⟨_, rfl⟩, fun n => ?_, fun v hv => ?_⟩)
        · go_simp
          exact lUpon_one
        subst hv
        go_simp
        refine hK _ ?_
        clear hK K
        refine lexL_step (fun K hK => ⟨by kernel_rfl, ⟨_, rfl⟩, fun n => ?_, fun v hv => ?_⟩)
        · go_simp
          exact lUpon_one
        subst hv
        go_simp
        refine hK _ ?_
        clear hK K
        refine lexL_step (fun K hK => ⟨by kernel_rfl, ⟨_, rfl⟩, fun n => ?_, fun v hv => ?_⟩)
        · go_simp
          exact lUpon_one
        subst hv
        go_simp
        refine hK _ ?_
        clear hK K
        refine lexL_step (fun K hK => ⟨by kernel_rfl, ⟨_, rfl⟩, fun n => ?_, fun v hv => ?_⟩)
        · go_simp
          exact lUpon_one
        subst hv
        go_simp
        refine hK _ ?_
        clear hK K
        refine lexL_step (fun K hK => ⟨by kernel_rfl, ⟨_, rfl⟩, fun n => ?_, fun v hv => ?_⟩)
        · go_simp
          exact lUpon_one
        subst hv
        go_simp
        refine hK _ ?_
        clear hK K
        refine lexL_step (fun K hK => ⟨by kernel_rfl, ⟨_, rfl⟩, fun n => ?_, fun v hv => ?_⟩)
        · go_simp
          exact lUpon_one
        subst hv
        go_simp
        refine hK _ ?_
        clear hK K
        refine lexL_step (fun K hK => ⟨by kernel_rfl, ⟨_, rfl⟩, fun n => ?_, fun v hv => ?_⟩)
        · go_simp
          exact lUpon_one
        subst hv
        go_simp
        refine hK _ ?_
        clear hK K
        refine lexL_step (fun K hK => ⟨by kernel_rfl, ⟨_, rfl⟩, fun n => ?_, fun v hv => ?_⟩)
        · go_simp
          exact lUpon_one
        subst hv
        go_simp
        refine hK _ ?_
        clear hK K
        refine lexL_step (fun K hK => ⟨by kernel_rfl, ⟨_, rfl⟩, fun n => ?_, fun v hv => ?_⟩)
        · go_simp
          exact lUpon_one
        subst hv
        go_simp
        refine hK _ ?_
        clear hK K
        refine lexL_step (fun K hK => ⟨by kernel_rfl, ⟨_, rfl⟩, fun n => ?_, fun v hv => ?_⟩)
        · go_simp
          exact lUpon_one
        subst hv
        go_simp
        refine hK _ ?_
        clear hK K
        refine lexL_step (fun K hK => ⟨by kernel_rfl, ⟨_, rfl⟩, fun n => ?_, fun v hv => ?_⟩)
        · go_simp
          exact lUpon_one
        subst hv
        go_simp
        refine hK _ ?_
        clear hK K
        refine lexL_step (fun K hK => ⟨by kernel_rfl, ⟨_, rfl⟩, fun n => ?_, fun v hv => ?_⟩)
        · go_simp
          exact lUpon_one
        subst hv
        go_simp
        refine hK _ ?_
        clear hK K
        refine lexL_step (fun K hK => ⟨by kernel_rfl, ⟨_, rfl⟩, fun n => ?_, fun v hv => ?_⟩)
        · go_simp
          exact lUpon_one
        subst hv
        go_simp
        refine hK _ ?_
        clear hK K
        refine lexL_step (fun K hK => ⟨by kernel_rfl, ⟨_, rfl⟩, fun n => ?_, fun v hv => ?_⟩)
        · go_simp
          exact lUpon_one
        subst hv
        go_simp
        refine hK _ ?_
        clear hK K
        refine lexL_step (fun K hK => ⟨by kernel_rfl, ⟨_, rfl⟩, fun n => ?_, fun v hv => ?_⟩)
        · go_simp
          exact lUpon_one
        subst hv
        go_simp
        refine hK _ ?_
        clear hK K
        refine lexL_step (fun K hK => ⟨by kernel_rfl, ⟨_, rfl⟩, fun n => ?_, fun v hv => ?_⟩)
        · go_simp
          exact lUpon_one
        subst hv
        go_simp
        refine hK _ ?_
        clear hK K
        refine lexL_step (fun K hK => ⟨by kernel_rfl, ⟨_, rfl⟩, fun n => ?_, fun v hv => ?_⟩)
        · go_simp
          exact lUpon_one
        subst hv
        go_simp
        refine hK _ ?_
        clear hK K
        refine lexL_step (fun K hK => ⟨by kernel_rfl, ⟨_, rfl⟩, fun n => ?_, fun v hv => ?_⟩)
        · go_simp
          exact lUpon_one
        subst hv
        go_simp
        refine hK _ ?_
        clear hK K
        refine lexL_step (fun K hK => ⟨by kernel_rfl, ⟨_, rfl⟩, fun n => ?_, fun v hv => ?_⟩)
        · go_simp
          exact lUpon_one
        subst hv
        go_simp
        refine hK _ ?_
        clear hK K
        refine lexL_step (fun K hK => ⟨by kernel_rfl, ⟨_, rfl⟩, fun n => ?_, fun v hv => ?_⟩)
        · go_simp
          exact lUpon_one
        subst hv
        go_simp
        refine hK _ ?_
        clear hK K
        refine lexL_end ?_
        intro n9
        go_wp2
        exact ⟨⟨k + 1, by omega, by go_num, hideR (below_go (unhideR HW) (drawn_below _ _))⟩, by simp [intOf]; omega⟩
    · obtain rfl : k = L.length := by omega
      go_wp2
      go_ret
      exact ⟨rfl, unhideR HW⟩
set_option maxRecDepth 100000 in
set_option maxHeartbeats 1600000 in
theorem inSpans_any (ad : Option Addr) (cap : Nat) (L : List Spn) (x : Int) (w : World) (hr : SpCame w ad L) (hl : L.length ≤ 9223372036854775807) :
    Calls Tryd.prog 12 #[.slice ad L.length cap, .int .i64 x] w fun e w' => e = .returned (.bool (inV L x)) ∧ w' = w := by
  have HY : HeldR (∀ n, inV (L.take n) x = true → inV L x = true) := fun n h => inV_take n h
  have HN : HeldR (inV (L.take L.length) x = false → inV L x = false) := fun h => by rwa [List.take_length] at h
  have HR := hideR hr
  clear hr
  generalize inV L x = E at *
  go_enter Tryd.func12, Tryd.ntmps12
  go_wp2
  go_loop [5] (fun kv => ∃ k : Nat, k ≤ L.length ∧ kv = .int .i64 (k : Nat) ∧ HeldR (inV (L.take k) x = false)) (fun kv => L.length + 1 - (intOf kv).toNat)
  case atStart => exact ⟨0, by omega, rfl, hideR rfl⟩
  case round =>
    obtain ⟨k, hk, rfl, HM⟩ := hrel
    by_cases hlt : k < L.length
    · obtain ⟨b, off, rfl, hb, hat⟩ := (unhideR HR).at_ k hlt
      obtain ⟨c0, c1⟩ := hat
      have hn := inV_next (x := x) hlt
      rw [unhideR HM, Bool.false_or] at hn
      have HX := hideR hn
      have HY2 := hideR (unhideR HY (k + 1))
      clear hn HY
      generalize L.getD k sp0 = s at *
      by_cases q1 : s.f ≤ x
      · by_cases q2 : x < s.t
        · have hE : E = true := unhideR HY2 (by rw [unhideR HX, decide_eq_true q1, decide_eq_true q2]; rfl)
          subst hE
          clear HX HY2 HN HM
          go_wp2
          all_goals
            go_ret
            exact ⟨rfl, rfl⟩
        · have HM2 : HeldR (inV (L.take (k + 1)) x = false) := by
            unfold HeldR
            rw [unhideR HX, decide_eq_false q2, Bool.and_false]
          clear HX HY2 HM
          go_wp2
          exact ⟨⟨k + 1, by omega, by go_num, HM2⟩, by simp [intOf]; omega⟩
      · have HM2 : HeldR (inV (L.take (k + 1)) x = false) := by
          unfold HeldR
          rw [unhideR HX, decide_eq_false q1, Bool.false_and]
        clear HX HY2 HM
        go_wp2
        exact ⟨⟨k + 1, by omega, by go_num, HM2⟩, by simp [intOf]; omega⟩
    · obtain rfl : k = L.length := by omega
      have hE : E = false := unhideR HN (unhideR HM)
      subst hE
      clear HN HM HY
      go_wp2
      go_ret
      exact ⟨rfl, rfl⟩
set_option maxHeartbeats 800000 in
theorem spansError_any (ad1 ad2 : Option Addr) (c1 c2 : Nat) (A B : List Spn) (w : World) (hA : SpCame w ad1 A) (hB : SpCame w ad2 B) (hl1 : A.length ≤ 9223372036854775807) (hl2 : B.length ≤ 9223372036854775807) :
    Calls Tryd.prog 19 #[.slice ad1 A.length c1, .slice ad2 B.length c2] w fun e w' => e = .returned (.int .i64 (spE A B)) ∧ Below w.heap.size w w' := by
  unfold spE
  by_cases h : 4000 < A.length ∨ 4000 < B.length
  · rw [if_pos h]
    go_enter Tryd.func19, Tryd.ntmps19
    go_wp2
    all_goals
      go_ret
      exact ⟨rfl, Below.refl _ _⟩
  · rw [if_neg h]
    have hx := spansRight_any ad1 c1 A w hA hl1
    have hy := fun u (hu : SpCame u ad2 B) => spansRight_any ad2 c2 B u hu hl2
    have HB := hideR hB
    generalize rightV A = x at *
    generalize rightV B = y at *
    clear hA hB
    go_enter Tryd.func19, Tryd.ntmps19
    go_wp2_with fail
    refine hx.mono ?_
    rintro e w1 ⟨rfl, k1⟩
    have HW := hideR k1
    go_wp2_with fail
    refine (hy _ ((unhideR HB).below k1)).mono ?_
    rintro e w2 ⟨rfl, k2⟩
    replace HW := hideR (below_go (unhideR HW) k2)
    clear k1 k2 hx hy
    cases x <;> cases y
    all_goals
      go_wp2
      go_ret
      exact ⟨rfl, unhideR HW⟩
theorem infoSp : (Tryd.prog.info? 40).map (fun i => (i.zero, i.size, i.bytes)) = some (some Spzv, 2, 16) := by kernel_rfl
theorem infoRSp : (Tryd.prog.info? 50).map (fun i => (i.zero, i.size, i.bytes)) = some (some Spzv, 2, 16) := by kernel_rfl
def OneV (v : Value) : Prop := ∃ b, v = .slice (some ⟨b, 0, none⟩) 1 1
def SpOne (ty : TypeId) (s : Spn) (v : Value) (w : World) : Prop := ∀ b, v = .slice (some ⟨b, 0, none⟩) 1 1 → w.heap[b]? = some (.cells #[.int .i64 s.f, .int .i64 s.t] ty)
theorem spOne_stb (ty : TypeId) (s : Spn) (v : Value) : Stb (SpOne ty s v) := fun _ _ h hb b e => keepB (h b e) hb
set_option maxRecDepth 100000 in
set_option maxHeartbeats 1600000 in
theorem spans_any (ad : Option Addr) (cap : Nat) (L : List Spn) (w : World) (hr : SpCame w ad L) (hl : L.length * 16 ≤ 140737488355328) :
    Calls Tryd.prog 16 #[.slice ad L.length cap] w fun e w' => ∃ ad' cap', e = .returned (.slice ad' L.length cap') ∧ SpCame w' ad' L ∧ Below w.heap.size w w' := by
  obtain ⟨i0, hi, hz0, hz1, hz2⟩ := info_parts infoSp
  have HC := hideR hr
  clear hr
  go_enter Tryd.func16, Tryd.ntmps16
  go_wp2
  go_loopw [3, 4] (fun mv kv wl => ∃ k : Nat, k ≤ L.length ∧ kv = .int .i64 (k : Nat) ∧ HeldR (wl.ownsRow w.heap.size 40 2 mv k (flatSp (L.take k))) ∧ HeldR (Below w.heap.size w wl)) (fun _ kv _ => L.length + 1 - (intOf kv).toNat)
  case atStart => exact ⟨0, by omega, rfl, World.ownsRow_nil _ _ _ _, hideR (Below.refl _ _)⟩
  case round =>
    obtain ⟨k, hk, rfl, HO, HW⟩ := hrel
    by_cases hlt : k < L.length
    · obtain ⟨b, off, rfl, hb, hat⟩ := (unhideR HC).at_ k hlt
      have HK := hideR hat
      have HT := hideR (Sptake hlt)
      clear hat
      generalize L.getD k sp0 = s at *
      go_wp2_with fail
      refine wp_region_made 1 #[true, true, true, true, true, true, true, true, true, true, true, true, true, false, false] [.lets (· = u3),
        .lets (· = .slice (some ⟨b, off, none⟩) L.length cap),
        .lets (· = .int .i64 (k : Nat)),
        .lets (· = .pointer (some ⟨b, off + k * 2, none⟩)),
        .lets (· = .pointer (some ⟨b, off + k * 2, none⟩)),
        .lets (· = .int .i64 s.f),
        .lets (· = .slice (some ⟨b, off, none⟩) L.length cap),
        .lets (· = .int .i64 (k : Nat)),
        .lets (· = .pointer (some ⟨b, off + k * 2, none⟩)),
        .lets (· = .pointer (some ⟨b, off + k * 2 + 1, none⟩)),
        .lets (· = .int .i64 s.t),
        .lets (· = .agg #[.int .i64 s.f, .int .i64 s.t]),
        .made OneV (SpOne 40 s)] [12] [] (by kernel_rfl) (by kernel_rfl) rfl ?kinds (by kernel_rfl) (by kernel_rfl) (by kernel_rfl) ?_
      case kinds =>
        constructor
        · intro i h
          rcases i with _ | _ | _ | _ | _ | _ | _ | _ | _ | _ | _ | _ | _ | i <;> simp [Kx.isMade] at h ⊢
        · intro i h
          rcases i with _ | _ | _ | _ | _ | _ | _ | _ | _ | _ | _ | _ | _ | i <;> simp [Kx.isUse] at h
      refine lexX_step (fun K hK => ⟨by kernel_rfl, ⟨_, rfl⟩, fun v hv => ?_, fun v hv => ?_⟩)
      · go_simp
        exact mUpon_b
      rw [hv]
      clear hv v
      go_simp
      refine hK _ ?_
      clear hK K
      refine lexX_step (fun K hK => ⟨by kernel_rfl, ⟨_, rfl⟩, fun v hv => ?_, fun v hv => ?_⟩)
      · go_simp
        exact mUpon_b
      subst hv
      go_simp
      refine hK _ ?_
      clear hK K
      refine lexX_step (fun K hK => ⟨by kernel_rfl, ⟨_, rfl⟩, fun v hv => ?_, fun v hv => ?_⟩)
      · go_simp
        exact mUpon_b
      subst hv
      go_simp
      refine hK _ ?_
      clear hK K
      refine lexX_step (fun K hK => ⟨by kernel_rfl, ⟨_, rfl⟩, fun v hv => ?_, fun v hv => ?_⟩)
      · go_simp
        exact mUpon_b
      subst hv
      go_simp
      refine hK _ ?_
      clear hK K
      refine lexX_step (fun K hK => ⟨by kernel_rfl, ⟨_, rfl⟩, fun v hv => ?_, fun v hv => ?_⟩)
      · go_simp
        exact mUpon_b
      subst hv
      go_simp
      refine hK _ ?_
      clear hK K
      refine lexX_step (fun K hK => ⟨by kernel_rfl, ⟨_, rfl⟩, fun v hv => ?_, fun v hv => ?_⟩)
      · obtain ⟨c0, c1⟩ := (unhideR HK).below (below_go (unhideR HW) hv) hb
        go_simp
        exact mUpon_b
      subst hv
      go_simp
      refine hK _ ?_
      clear hK K
      refine lexX_step (fun K hK => ⟨by kernel_rfl, ⟨_, rfl⟩, fun v hv => ?_, fun v hv => ?_⟩)
      · go_simp
        exact mUpon_b
      subst hv
      go_simp
      refine hK _ ?_
      clear hK K
      refine lexX_step (fun K hK => ⟨by kernel_rfl, ⟨_, rfl⟩, fun v hv => ?_, fun v hv => ?_⟩)
      · go_simp
        exact mUpon_b
      subst hv
      go_simp
      refine hK _ ?_
      clear hK K
      refine lexX_step (fun K hK => ⟨by kernel_rfl, ⟨_, rfl⟩, fun v hv => ?_, fun v hv => ?_⟩)
      · go_simp
        exact mUpon_b
      subst hv
      go_simp
      refine hK _ ?_
      clear hK K
      refine lexX_step (fun K hK => ⟨by kernel_rfl, ⟨_, rfl⟩, fun v hv => ?_, fun v hv => ?_⟩)
      · go_simp
        exact mUpon_b
      subst hv
      go_simp
      refine hK _ ?_
      clear hK K
      refine lexX_step (fun K hK => ⟨by kernel_rfl, ⟨_, rfl⟩, fun v hv => ?_, fun v hv => ?_⟩)
      · obtain ⟨c0, c1⟩ := (unhideR HK).below (below_go (unhideR HW) hv) hb
        go_simp
        exact mUpon_b
      subst hv
      go_simp
      refine hK _ ?_
      clear hK K
      refine lexX_step (fun K hK => ⟨by kernel_rfl, ⟨_, rfl⟩, fun v hv => ?_, fun v hv => ?_⟩)
      · go_simp
        exact mUpon_b
      subst hv
      go_simp
      refine hK _ ?_
      clear hK K
      refine lexX_made ⟨by kernel_rfl, ⟨_, 0, rfl⟩, spOne_stb _ _, fun v hv => ?_, ?_⟩
      · go_simp
        refine ⟨(Below.refl _ v).alloc (Nat.le_refl _) _, ⟨_, rfl⟩, fun b' e => ?_⟩
        cases e
        exact alloc_last v _
      rintro _ ⟨nb, rfl⟩ K hK
      go_simp
      refine hK _ ?_
      clear hK K
      refine lexX_end (fun v2 hv => ?_)
      have hn := hv.fact.2 nb rfl
      have hb2 := hv.low
      clear hv
      have HO2 := hideR (own_below2 (unhideR HO) hb2)
      have HB2 := hideR (below_go (unhideR HW) hb2)
      have l2 := hb2.size
      have l3 := (unhideR HW).size
      have HNB := hideR hn
      clear hb2 hn HO HW
      refine wpAny_step (i := 13) (by kernel_rfl) rfl (by kernel_rfl) (fun K hK => ?_)
      refine wp_append_own _ _ _ 28 rfl w.heap.size 40 i0 Spzv 2 16 Tryd.underlying28 hi hz0 hz1 hz2 rfl (by decide) u3 k (flatSp (L.take k)) rfl (unhideR HO2) ⟨nb, 0, none⟩ 1 1 (valSp s) rfl rfl ?q1 ?q2 ?q3 ?q4 ?q5 ?_
      case q1 =>
        intro m u hm
        have hm0 : m < 2 := by
          have h := (List.getElem?_eq_some_iff.1 hm).1
          simpa [valSp] using h
        rw [add_pl2, Nat.zero_add, (cells_at (unhideR HNB) m (by simp; omega)).1]
        rcases (show m = 0 ∨ m = 1 by omega) with rfl | rfl
        all_goals
          simp [valSp] at hm
          subst hm
          rfl
      case q2 =>
        intro u hu
        exact flatSp_one [s] u (by simpa [flatSp] using hu)
      case q3 => unfold maxLen; omega
      case q4 => omega
      case q5 => omega
      intro v3 w3 hown2 hgrow2 _
      have B3 := hideR ((unhideR HB2).grown hgrow2 (by omega) (fun g h => by have := own_at2 (unhideR HO2) g h; omega))
      have O3 : HeldR (w3.ownsRow w.heap.size 40 2 v3 (k + 1) (flatSp (L.take (k + 1)))) := by
        unfold HeldR
        rw [unhideR HT, flatSp_append]
        simpa [flatSp] using hown2
      clear hown2 hgrow2 HO2 HT HB2 HK HNB
      go_simp
      refine hK _ _ ?_
      clear hK K
      refine wpAny_step (i := 14) (by kernel_rfl) rfl (by kernel_rfl) (fun K hK => ?_)
      unfold Oper.wp
      go_simp
      refine hK _ _ ?_
      clear hK K
      refine wpAny_end (by kernel_rfl) ?_
      go_wp2
      exact ⟨⟨k + 1, by omega, by go_num, O3, B3⟩, by simp [intOf]; omega⟩
    · obtain rfl : k = L.length := by omega
      have hO := unhideR HO
      rw [List.take_length] at hO
      obtain ⟨ad', cap', rfl, hcame⟩ := Spown hO
      have HM := hideR hcame
      clear hO HO hcame
      go_wp2
      go_ret
      exact ⟨ad', cap', rfl, unhideR HM, unhideR HW⟩
set_option maxRecDepth 100000 in
set_option maxHeartbeats 1600000 in
theorem spansOf_any (ad : Option Addr) (cap : Nat) (L : List Spn) (w : World) (hr : SpCame w ad L) (hl : L.length * 16 ≤ 140737488355328) :
    Calls Tryd.prog 11 #[.slice ad L.length cap] w fun e w' => ∃ ad' cap', e = .returned (.slice ad' L.length cap') ∧ SpCame w' ad' L ∧ Below w.heap.size w w' := by
  obtain ⟨i0, hi, hz0, hz1, hz2⟩ := info_parts infoRSp
  have HC := hideR hr
  clear hr
  go_enter Tryd.func11, Tryd.ntmps11
  go_wp2
  go_loopw [3, 4] (fun mv kv wl => ∃ k : Nat, k ≤ L.length ∧ kv = .int .i64 (k : Nat) ∧ HeldR (wl.ownsRow w.heap.size 50 2 mv k (flatSp (L.take k))) ∧ HeldR (Below w.heap.size w wl)) (fun _ kv _ => L.length + 1 - (intOf kv).toNat)
  case atStart => exact ⟨0, by omega, rfl, World.ownsRow_nil _ _ _ _, hideR (Below.refl _ _)⟩
  case round =>
    obtain ⟨k, hk, rfl, HO, HW⟩ := hrel
    by_cases hlt : k < L.length
    · obtain ⟨b, off, rfl, hb, hat⟩ := (unhideR HC).at_ k hlt
      have HK := hideR hat
      have HT := hideR (Sptake hlt)
      clear hat
      generalize L.getD k sp0 = s at *
      go_wp2_with fail
      refine wp_region_made 1 #[true, true, true, true, true, true, true, true, true, true, true, true, true, false, false] [.lets (· = u3),
        .lets (· = .slice (some ⟨b, off, none⟩) L.length cap),
        .lets (· = .int .i64 (k : Nat)),
        .lets (· = .pointer (some ⟨b, off + k * 2, none⟩)),
        .lets (· = .pointer (some ⟨b, off + k * 2, none⟩)),
        .lets (· = .int .i64 s.f),
        .lets (· = .slice (some ⟨b, off, none⟩) L.length cap),
        .lets (· = .int .i64 (k : Nat)),
        .lets (· = .pointer (some ⟨b, off + k * 2, none⟩)),
        .lets (· = .pointer (some ⟨b, off + k * 2 + 1, none⟩)),
        .lets (· = .int .i64 s.t),
        .lets (· = .agg #[.int .i64 s.f, .int .i64 s.t]),
        .made OneV (SpOne 50 s)] [12] [] (by kernel_rfl) (by kernel_rfl) rfl ?kinds (by kernel_rfl) (by kernel_rfl) (by kernel_rfl) ?_
      case kinds =>
        constructor
        · intro i h
          rcases i with _ | _ | _ | _ | _ | _ | _ | _ | _ | _ | _ | _ | _ | i <;> simp [Kx.isMade] at h ⊢
        · intro i h
          rcases i with _ | _ | _ | _ | _ | _ | _ | _ | _ | _ | _ | _ | _ | i <;> simp [Kx.isUse] at h
      refine lexX_step (fun K hK => ⟨by kernel_rfl, ⟨_, rfl⟩, fun v hv => ?_, fun v hv => ?_⟩)
      · go_simp
        exact mUpon_b
      rw [hv]
      clear hv v
      go_simp
      refine hK _ ?_
      clear hK K
      refine lexX_step (fun K hK => ⟨by kernel_rfl, ⟨_, rfl⟩, fun v hv => ?_, fun v hv => ?_⟩)
      · go_simp
        exact mUpon_b
      subst hv
      go_simp
      refine hK _ ?_
      clear hK K
      refine lexX_step (fun K hK => ⟨by kernel_rfl, ⟨_, rfl⟩, fun v hv => ?_, fun v hv => ?_⟩)
      · go_simp
        exact mUpon_b
      subst hv
      go_simp
      refine hK _ ?_
      clear hK K
      refine lexX_step (fun K hK => ⟨by kernel_rfl, ⟨_, rfl⟩, fun v hv => ?_, fun v hv => ?_⟩)
      · go_simp
        exact mUpon_b
      subst hv
      go_simp
      refine hK _ ?_
      clear hK K
      refine lexX_step (fun K hK => ⟨by kernel_rfl, ⟨_, rfl⟩, fun v hv => ?_, fun v hv => ?_⟩)
      · go_simp
        exact mUpon_b
      subst hv
      go_simp
      refine hK _ ?_
      clear hK K
      refine lexX_step (fun K hK => ⟨by kernel_rfl, ⟨_, rfl⟩, fun v hv => ?_, fun v hv => ?_⟩)
      · obtain ⟨c0, c1⟩ := (unhideR HK).below (below_go (unhideR HW) hv) hb
        go_simp
        exact mUpon_b
      subst hv
      go_simp
      refine hK _ ?_
      clear hK K
      refine lexX_step (fun K hK => ⟨by kernel_rfl, ⟨_, rfl⟩, fun v hv => ?_, fun v hv => ?_⟩)
      · go_simp
        exact mUpon_b
      subst hv
      go_simp
      refine hK _ ?_
      clear hK K
      refine lexX_step (fun K hK => ⟨by kernel_rfl, ⟨_, rfl⟩, fun v hv => ?_, fun v hv => ?_⟩)
      · go_simp
        exact mUpon_b
      subst hv
      go_simp
      refine hK _ ?_
      clear hK K
      refine lexX_step (fun K hK => ⟨by kernel_rfl, ⟨_, rfl⟩, fun v hv => ?_, fun v hv => ?_⟩)
      · go_simp
        exact mUpon_b
      subst hv
      go_simp
      refine hK _ ?_
      clear hK K
      refine lexX_step (fun K hK => ⟨by kernel_rfl, ⟨_, rfl⟩, fun v hv => ?_, fun v hv => ?_⟩)
      · go_simp
        exact mUpon_b
      subst hv
      go_simp
      refine hK _ ?_
      clear hK K
      refine lexX_step (fun K hK => ⟨by kernel_rfl, ⟨_, rfl⟩, fun v hv => ?_, fun v hv => ?_⟩)
      · obtain ⟨c0, c1⟩ := (unhideR HK).below (below_go (unhideR HW) hv) hb
        go_simp
        exact mUpon_b
      subst hv
      go_simp
      refine hK _ ?_
      clear hK K
      refine lexX_step (fun K hK => ⟨by kernel_rfl, ⟨_, rfl⟩, fun v hv => ?_, fun v hv => ?_⟩)
      · go_simp
        exact mUpon_b
      subst hv
      go_simp
      refine hK _ ?_
      clear hK K
      refine lexX_made ⟨by kernel_rfl, ⟨_, 0, rfl⟩, spOne_stb _ _, fun v hv => ?_, ?_⟩
      · go_simp
        refine ⟨(Below.refl _ v).alloc (Nat.le_refl _) _, ⟨_, rfl⟩, fun b' e => ?_⟩
        cases e
        exact alloc_last v _
      rintro _ ⟨nb, rfl⟩ K hK
      go_simp
      refine hK _ ?_
      clear hK K
      refine lexX_end (fun v2 hv => ?_)
      have hn := hv.fact.2 nb rfl
      have hb2 := hv.low
      clear hv
      have HO2 := hideR (own_below2 (unhideR HO) hb2)
      have HB2 := hideR (below_go (unhideR HW) hb2)
      have l2 := hb2.size
      have l3 := (unhideR HW).size
      have HNB := hideR hn
      clear hb2 hn HO HW
      refine wpAny_step (i := 13) (by kernel_rfl) rfl (by kernel_rfl) (fun K hK => ?_)
      refine wp_append_own _ _ _ 37 rfl w.heap.size 50 i0 Spzv 2 16 Tryd.underlying37 hi hz0 hz1 hz2 rfl (by decide) u3 k (flatSp (L.take k)) rfl (unhideR HO2) ⟨nb, 0, none⟩ 1 1 (valSp s) rfl rfl ?q1 ?q2 ?q3 ?q4 ?q5 ?_
      case q1 =>
        intro m u hm
        have hm0 : m < 2 := by
          have h := (List.getElem?_eq_some_iff.1 hm).1
          simpa [valSp] using h
        rw [add_pl2, Nat.zero_add, (cells_at (unhideR HNB) m (by simp; omega)).1]
        rcases (show m = 0 ∨ m = 1 by omega) with rfl | rfl
        all_goals
          simp [valSp] at hm
          subst hm
          rfl
      case q2 =>
        intro u hu
        exact flatSp_one [s] u (by simpa [flatSp] using hu)
      case q3 => unfold maxLen; omega
      case q4 => omega
      case q5 => omega
      intro v3 w3 hown2 hgrow2 _
      have B3 := hideR ((unhideR HB2).grown hgrow2 (by omega) (fun g h => by have := own_at2 (unhideR HO2) g h; omega))
      have O3 : HeldR (w3.ownsRow w.heap.size 50 2 v3 (k + 1) (flatSp (L.take (k + 1)))) := by
        unfold HeldR
        rw [unhideR HT, flatSp_append]
        simpa [flatSp] using hown2
      clear hown2 hgrow2 HO2 HT HB2 HK HNB
      go_simp
      refine hK _ _ ?_
      clear hK K
      refine wpAny_step (i := 14) (by kernel_rfl) rfl (by kernel_rfl) (fun K hK => ?_)
      unfold Oper.wp
      go_simp
      refine hK _ _ ?_
      clear hK K
      refine wpAny_end (by kernel_rfl) ?_
      go_wp2
      exact ⟨⟨k + 1, by omega, by go_num, O3, B3⟩, by simp [intOf]; omega⟩
    · obtain rfl : k = L.length := by omega
      have hO := unhideR HO
      rw [List.take_length] at hO
      obtain ⟨ad', cap', rfl, hcame⟩ := Spown hO
      have HM := hideR hcame
      clear hO HO hcame
      go_wp2
      go_ret
      exact ⟨ad', cap', rfl, unhideR HM, unhideR HW⟩
theorem own_keep {w w' : World} {B1 B2 n1 n2 s1 s2 : Nat} {T1 T2 : TypeId} {v1 v2 : Value} {x1 x2 : List Value} (h1 : w.ownsRow B1 T1 s1 v1 n1 x1) (h2 : w.ownsRow B2 T2 s2 v2 n2 x2) (hT : T1 ≠ T2) (hg : w.grownBy w' v1.ownBlock) : w'.ownsRow B2 T2 s2 v2 n2 x2 := by
  obtain ⟨a1, a2⟩ := h2
  refine ⟨a1, ?_⟩
  rcases a2 with a2 | ⟨g, cap, cur, hv, hB, hh, r⟩
  · exact Or.inl a2
  · refine Or.inr ⟨g, cap, cur, hv, hB, ?_, r⟩
    rw [hg.block g (Array.getElem?_eq_some_iff.1 hh).1 (fun e => ?_)]
    · exact hh
    · rcases h1.2 with ⟨b1, _⟩ | ⟨g', cap', cur', hv', _, hh', _⟩
      · subst b1
        cases e
      · subst hv'
        have e2 : g' = g := by simpa [Value.ownBlock] using e.symm
        subst e2
        rw [hh] at hh'
        cases hh'
        exact hT rfl
set_option maxRecDepth 100000 in
set_option maxHeartbeats 1600000 in
theorem spansOf_own (ad : Option Addr) (cap : Nat) (L : List Spn) (w : World) (hr : SpCame w ad L) (hl : L.length * 16 ≤ 140737488355328) :
    Calls Tryd.prog 11 #[.slice ad L.length cap] w fun e w' => ∃ ad' cap', e = .returned (.slice ad' L.length cap') ∧ w'.ownsRow w.heap.size 50 2 (.slice ad' L.length cap') L.length (flatSp L) ∧ Below w.heap.size w w' := by
  obtain ⟨i0, hi, hz0, hz1, hz2⟩ := info_parts infoRSp
  have HC := hideR hr
  clear hr
  go_enter Tryd.func11, Tryd.ntmps11
  go_wp2
  go_loopw [3, 4] (fun mv kv wl => ∃ k : Nat, k ≤ L.length ∧ kv = .int .i64 (k : Nat) ∧ HeldR (wl.ownsRow w.heap.size 50 2 mv k (flatSp (L.take k))) ∧ HeldR (Below w.heap.size w wl)) (fun _ kv _ => L.length + 1 - (intOf kv).toNat)
  case atStart => exact ⟨0, by omega, rfl, World.ownsRow_nil _ _ _ _, hideR (Below.refl _ _)⟩
  case round =>
    obtain ⟨k, hk, rfl, HO, HW⟩ := hrel
    by_cases hlt : k < L.length
    · obtain ⟨b, off, rfl, hb, hat⟩ := (unhideR HC).at_ k hlt
      have HK := hideR hat
      have HT := hideR (Sptake hlt)
      clear hat
      generalize L.getD k sp0 = s at *
      go_wp2_with fail
      refine wp_region_made 1 #[true, true, true, true, true, true, true, true, true, true, true, true, true, false, false] [.lets (· = u3),
        .lets (· = .slice (some ⟨b, off, none⟩) L.length cap),
        .lets (· = .int .i64 (k : Nat)),
        .lets (· = .pointer (some ⟨b, off + k * 2, none⟩)),
        .lets (· = .pointer (some ⟨b, off + k * 2, none⟩)),
        .lets (· = .int .i64 s.f),
        .lets (· = .slice (some ⟨b, off, none⟩) L.length cap),
        .lets (· = .int .i64 (k : Nat)),
        .lets (· = .pointer (some ⟨b, off + k * 2, none⟩)),
        .lets (· = .pointer (some ⟨b, off + k * 2 + 1, none⟩)),
        .lets (· = .int .i64 s.t),
        .lets (· = .agg #[.int .i64 s.f, .int .i64 s.t]),
        .made OneV (SpOne 50 s)] [12] [] (by kernel_rfl) (by kernel_rfl) rfl ?kinds (by kernel_rfl) (by kernel_rfl) (by kernel_rfl) ?_
      case kinds =>
        constructor
        · intro i h
          rcases i with _ | _ | _ | _ | _ | _ | _ | _ | _ | _ | _ | _ | _ | i <;> simp [Kx.isMade] at h ⊢
        · intro i h
          rcases i with _ | _ | _ | _ | _ | _ | _ | _ | _ | _ | _ | _ | _ | i <;> simp [Kx.isUse] at h
      refine lexX_step (fun K hK => ⟨by kernel_rfl, ⟨_, rfl⟩, fun v hv => ?_, fun v hv => ?_⟩)
      · go_simp
        exact mUpon_b
      rw [hv]
      clear hv v
      go_simp
      refine hK _ ?_
      clear hK K
      refine lexX_step (fun K hK => ⟨by kernel_rfl, ⟨_, rfl⟩, fun v hv => ?_, fun v hv => ?_⟩)
      · go_simp
        exact mUpon_b
      subst hv
      go_simp
      refine hK _ ?_
      clear hK K
      refine lexX_step (fun K hK => ⟨by kernel_rfl, ⟨_, rfl⟩, fun v hv => ?_, fun v hv => ?_⟩)
      · go_simp
        exact mUpon_b
      subst hv
      go_simp
      refine hK _ ?_
      clear hK K
      refine lexX_step (fun K hK => ⟨by kernel_rfl, ⟨_, rfl⟩, fun v hv => ?_, fun v hv => ?_⟩)
      · go_simp
        exact mUpon_b
      subst hv
      go_simp
      refine hK _ ?_
      clear hK K
      refine lexX_step (fun K hK => ⟨by kernel_rfl, ⟨_, rfl⟩, fun v hv => ?_, fun v hv => ?_⟩)
      · go_simp
        exact mUpon_b
      subst hv
      go_simp
      refine hK _ ?_
      clear hK K
      refine lexX_step (fun K hK => ⟨by kernel_rfl, ⟨_, rfl⟩, fun v hv => ?_, fun v hv => ?_⟩)
      · obtain ⟨c0, c1⟩ := (unhideR HK).below (below_go (unhideR HW) hv) hb
        go_simp
        exact mUpon_b
      subst hv
      go_simp
      refine hK _ ?_
      clear hK K
      refine lexX_step (fun K hK => ⟨by kernel_rfl, ⟨_, rfl⟩, fun v hv => ?_, fun v hv => ?_⟩)
      · go_simp
        exact mUpon_b
      subst hv
      go_simp
      refine hK _ ?_
      clear hK K
      refine lexX_step (fun K hK => ⟨by kernel_rfl, ⟨_, rfl⟩, fun v hv => ?_, fun v hv => ?_⟩)
      · go_simp
        exact mUpon_b
      subst hv
      go_simp
      refine hK _ ?_
      clear hK K
      refine lexX_step (fun K hK => ⟨by kernel_rfl, ⟨_, rfl⟩, fun v hv => ?_, fun v hv => ?_⟩)
      · go_simp
        exact mUpon_b
      subst hv
      go_simp
      refine hK _ ?_
      clear hK K
      refine lexX_step (fun K hK => ⟨by kernel_rfl, ⟨_, rfl⟩, fun v hv => ?_, fun v hv => ?_⟩)
      · go_simp
        exact mUpon_b
      subst hv
      go_simp
      refine hK _ ?_
      clear hK K
      refine lexX_step (fun K hK => ⟨by kernel_rfl, ⟨_, rfl⟩, fun v hv => ?_, fun v hv => ?_⟩)
      · obtain ⟨c0, c1⟩ := (unhideR HK).below (below_go (unhideR HW) hv) hb
        go_simp
        exact mUpon_b
      subst hv
      go_simp
      refine hK _ ?_
      clear hK K
      refine lexX_step (fun K hK => ⟨by kernel_rfl, ⟨_, rfl⟩, fun v hv => ?_, fun v hv => ?_⟩)
      · go_simp
        exact mUpon_b
      subst hv
      go_simp
      refine hK _ ?_
      clear hK K
      refine lexX_made ⟨by kernel_rfl, ⟨_, 0, rfl⟩, spOne_stb _ _, fun v hv => ?_, ?_⟩
      · go_simp
        refine ⟨(Below.refl _ v).alloc (Nat.le_refl _) _, ⟨_, rfl⟩, fun b' e => ?_⟩
        cases e
        exact alloc_last v _
      rintro _ ⟨nb, rfl⟩ K hK
      go_simp
      refine hK _ ?_
      clear hK K
      refine lexX_end (fun v2 hv => ?_)
      have hn := hv.fact.2 nb rfl
      have hb2 := hv.low
      clear hv
      have HO2 := hideR (own_below2 (unhideR HO) hb2)
      have HB2 := hideR (below_go (unhideR HW) hb2)
      have l2 := hb2.size
      have l3 := (unhideR HW).size
      have HNB := hideR hn
      clear hb2 hn HO HW
      refine wpAny_step (i := 13) (by kernel_rfl) rfl (by kernel_rfl) (fun K hK => ?_)
      refine wp_append_own _ _ _ 37 rfl w.heap.size 50 i0 Spzv 2 16 Tryd.underlying37 hi hz0 hz1 hz2 rfl (by decide) u3 k (flatSp (L.take k)) rfl (unhideR HO2) ⟨nb, 0, none⟩ 1 1 (valSp s) rfl rfl ?q1 ?q2 ?q3 ?q4 ?q5 ?_
      case q1 =>
        intro m u hm
        have hm0 : m < 2 := by
          have h := (List.getElem?_eq_some_iff.1 hm).1
          simpa [valSp] using h
        rw [add_pl2, Nat.zero_add, (cells_at (unhideR HNB) m (by simp; omega)).1]
        rcases (show m = 0 ∨ m = 1 by omega) with rfl | rfl
        all_goals
          simp [valSp] at hm
          subst hm
          rfl
      case q2 =>
        intro u hu
        exact flatSp_one [s] u (by simpa [flatSp] using hu)
      case q3 => unfold maxLen; omega
      case q4 => omega
      case q5 => omega
      intro v3 w3 hown2 hgrow2 _
      have B3 := hideR ((unhideR HB2).grown hgrow2 (by omega) (fun g h => by have := own_at2 (unhideR HO2) g h; omega))
      have O3 : HeldR (w3.ownsRow w.heap.size 50 2 v3 (k + 1) (flatSp (L.take (k + 1)))) := by
        unfold HeldR
        rw [unhideR HT, flatSp_append]
        simpa [flatSp] using hown2
      clear hown2 hgrow2 HO2 HT HB2 HK HNB
      go_simp
      refine hK _ _ ?_
      clear hK K
      refine wpAny_step (i := 14) (by kernel_rfl) rfl (by kernel_rfl) (fun K hK => ?_)
      unfold Oper.wp
      go_simp
      refine hK _ _ ?_
      clear hK K
      refine wpAny_end (by kernel_rfl) ?_
      go_wp2
      exact ⟨⟨k + 1, by omega, by go_num, O3, B3⟩, by simp [intOf]; omega⟩
    · obtain rfl : k = L.length := by omega
      have hO := unhideR HO
      rw [List.take_length] at hO
      obtain ⟨ad', cap', rfl, _⟩ := Spown hO
      have HM := hideR hO
      clear hO HO
      go_wp2
      go_ret
      exact ⟨ad', cap', rfl, unhideR HM, unhideR HW⟩
end Go.Proofs.YthhhomlgcefalahDoor
