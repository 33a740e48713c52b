/-
  Spans: the document's spansRight, InSpans, SpansError, by contract.
-/
import Derived.Test.YtoacdaemhcbbhaaDoorEvRow
import Derived.Test.YtoacdaemhcbbhaaDoorEvTr
import Derived.Test.YtoacdaemhcbbhaaDoorLooseA
import Derived.Deep.QuietTactic
namespace Go.Proofs.YtoacdaemhcbbhaaDoor
open Go Go.RowKit

def Spn.Ok (l : List Spn) (i : Nat) : Prop := (l.getD i sp0).f < (l.getD i sp0).t ∧ -1152921504606846976 ≤ (l.getD i sp0).f ∧ (l.getD i sp0).t ≤ 1152921504606846976 ∧ (0 < i → (l.getD (i - 1) sp0).t < (l.getD i sp0).f)
instance (l : List Spn) (i : Nat) : Decidable (Spn.Ok l i) := by unfold Spn.Ok; infer_instance
def rightV (l : List Spn) : Bool := decide (∀ i, i < l.length → Spn.Ok l i)
def Spn.Up (l : List Spn) (i : Nat) : Prop := (l.getD i sp0).f < (l.getD i sp0).t ∧ (0 < i → (l.getD (i - 1) sp0).t < (l.getD i sp0).f)
def riseV (l : List Spn) : Prop := ∀ i, i < l.length → Spn.Up l i
def spE (a b : List Spn) : Int := if 4000 < a.length ∨ 4000 < b.length then 2 else if rightV a = false ∨ rightV b = false then 5 else 0
def inV (l : List Spn) (x : Int) : Bool := l.any fun s => decide (s.f ≤ x) && decide (x < s.t)
theorem right_rise {l : List Spn} (h : rightV l = true) : riseV l := fun i hi => by
  have := of_decide_eq_true h i hi
  exact ⟨this.1, this.2.2.2⟩
theorem inV_next {l : List Spn} {k : Nat} {x : Int} (h : k < l.length) : inV (l.take (k + 1)) x = (inV (l.take k) x || (decide ((l.getD k sp0).f ≤ x) && decide (x < (l.getD k sp0).t))) := by
  unfold inV
  rw [Sptake h, List.any_append]
  simp
theorem inV_take {l : List Spn} {x : Int} (n : Nat) (h : inV (l.take n) x = true) : inV l x = true := by
  unfold inV at h ⊢
  rw [List.any_eq_true] at h ⊢
  obtain ⟨s, hs, hx⟩ := h
  exact ⟨s, List.mem_of_mem_take hs, hx⟩
set_option maxRecDepth 100000 in
set_option maxHeartbeats 3200000 in
theorem spansRight_any (ad : Option Addr) (cap : Nat) (L : List Spn) (w : World) (hr : SpCame w ad L) (hl : L.length ≤ 9223372036854775807) :
    Calls Tryd.prog 49 #[.slice ad L.length cap] w fun e w' => e = .returned (.bool (rightV L)) ∧ Below w.heap.size w w' := by
  have HN : HeldR (∀ i, i < L.length → ¬ Spn.Ok L i → rightV L = false) := fun i hi k => decide_eq_false (fun h => k (h i hi))
  have HY : HeldR ((∀ i, i < L.length → Spn.Ok L i) → rightV L = true) := fun h => decide_eq_true h
  have HR := hideR hr
  clear hr
  generalize rightV L = E at *
  go_enter Tryd.func49, Tryd.ntmps49
  go_wp2
  go_loopw [3] (fun kv wl => ∃ k : Nat, k ≤ L.length ∧ kv = .int .i64 (k : Nat) ∧ HeldR (∀ j, j < k → Spn.Ok L j) ∧ HeldR (Below w.heap.size w wl)) (fun kv _ => L.length + 1 - (intOf kv).toNat)
  case atStart => exact ⟨0, by omega, rfl, hideR (fun j hj => absurd hj (Nat.not_lt_zero j)), hideR (Below.refl _ _)⟩
  case round =>
    obtain ⟨k, hk, rfl, HM, HW⟩ := hrel
    by_cases hlt : k < L.length
    · obtain ⟨b, off, rfl, hb, hat⟩ := ((unhideR HR).below (unhideR HW)).at_ k hlt
      obtain ⟨c0, c1⟩ := hat
      have HN2 := hideR (unhideR HN k hlt)
      have HS : HeldR (∀ p, p = L.getD k sp0 → (p.f < p.t → -1152921504606846976 ≤ p.f → p.t ≤ 1152921504606846976 → (0 < k → (L.getD (k - 1) sp0).t < p.f) → Spn.Ok L k) ∧ (Spn.Ok L k → p.f < p.t ∧ -1152921504606846976 ≤ p.f ∧ p.t ≤ 1152921504606846976 ∧ (0 < k → (L.getD (k - 1) sp0).t < p.f))) := fun p e => by
        subst e
        exact ⟨fun a1 a2 a3 a4 => ⟨a1, a2, a3, a4⟩, fun h => h⟩
      replace HS := hideR (unhideR HS (L.getD k sp0) rfl)
      generalize L.getD k sp0 = s at *
      by_cases q1 : s.f < s.t
      case neg =>
        have hE : E = false := unhideR HN2 (fun h => q1 ((unhideR HS).2 h).1)
        subst hE
        have b1 : decide (s.t ≤ s.f) = true := decide_eq_true (by omega)
        clear HN HY HN2 HS HM
        go_wp2_with fail
        refine wp_region_lets [(· = .slice (some ⟨b, off, none⟩) L.length cap),
          (· = .int .i64 (k : Nat)),
          (· = .pointer (some ⟨b, off + k * 2, none⟩)),
          (· = .pointer (some ⟨b, off + k * 2, none⟩)),
          (· = .int .i64 s.f),
          (· = .slice (some ⟨b, off, none⟩) L.length cap),
          (· = .int .i64 (k : Nat)),
          (· = .pointer (some ⟨b, off + k * 2, none⟩)),
          (· = .pointer (some ⟨b, off + k * 2 + 1, none⟩)),
          (· = .int .i64 s.t),
          (· = .bool true),
          (· = .bool true),
          (· = undef),
          (· = undef),
          (· = undef),
          (· = undef),
          (· = undef),
          (· = undef),
          (· = .bool true),
          (· = .bool true),
          (· = undef),
          (· = undef),
          (· = undef),
          (· = undef),
          (· = undef),
          (· = undef),
          (· = .bool true)] (by kernel_rfl) (by kernel_rfl) ?_
        refine lexL_step (fun K hK => ⟨by kernel_rfl, ⟨_, rfl⟩, fun n => ?_, fun v hv => ?_⟩)
        · go_simp
          exact lUpon_one
        subst hv
        go_simp
        refine hK _ ?_
        clear hK K
        refine lexL_step (fun K hK => ⟨by kernel_rfl, ⟨_, rfl⟩, fun n => ?_, fun v hv => ?_⟩)
        · go_simp
          exact lUpon_one
        subst hv
        go_simp
        refine hK _ ?_
        clear hK K
        refine lexL_step (fun K hK => ⟨by kernel_rfl, ⟨_, rfl⟩, fun n => ?_, fun v hv => ?_⟩)
        · go_simp
          exact lUpon_one
        subst hv
        go_simp
        refine hK _ ?_
        clear hK K
        refine lexL_step (fun K hK => ⟨by kernel_rfl, ⟨_, rfl⟩, fun n => ?_, fun v hv => ?_⟩)
        · go_simp
          exact lUpon_one
        subst hv
        go_simp
        refine hK _ ?_
        clear hK K
        refine lexL_step (fun K hK => ⟨by kernel_rfl, ⟨_, rfl⟩, fun n => ?_, fun v hv => ?_⟩)
        · go_simp
          exact lUpon_one
        subst hv
        go_simp
        refine hK _ ?_
        clear hK K
        refine lexL_step (fun K hK => ⟨by kernel_rfl, ⟨_, rfl⟩, fun n => ?_, fun v hv => ?_⟩)
        · go_simp
          exact lUpon_one
        subst hv
        go_simp
        refine hK _ ?_
        clear hK K
        refine lexL_step (fun K hK => ⟨by kernel_rfl, ⟨_, rfl⟩, fun n => ?_, fun v hv => ?_⟩)
        · go_simp
          exact lUpon_one
        subst hv
        go_simp
        refine hK _ ?_
        clear hK K
        refine lexL_step (fun K hK => ⟨by kernel_rfl, ⟨_, rfl⟩, fun n => ?_, fun v hv => ?_⟩)
        · go_simp
          exact lUpon_one
        subst hv
        go_simp
        refine hK _ ?_
        clear hK K
        refine lexL_step (fun K hK => ⟨by kernel_rfl, ⟨_, rfl⟩, fun n => ?_, fun v hv => ?_⟩)
        · go_simp
          exact lUpon_one
        subst hv
        go_simp
        refine hK _ ?_
        clear hK K
        refine lexL_step (fun K hK => ⟨by kernel_rfl, ⟨_, rfl⟩, fun n => ?_, fun v hv => ?_⟩)
        · go_simp
          exact lUpon_one
        subst hv
        go_simp
        refine hK _ ?_
        clear hK K
        refine lexL_step (fun K hK => ⟨by kernel_rfl, ⟨_, rfl⟩, fun n => ?_, fun v hv => ?_⟩)
        · go_simp
          exact lUpon_one
        subst hv
        go_simp
        refine hK _ ?_
        clear hK K
        refine lexL_step (fun K hK => ⟨by kernel_rfl, ⟨_, rfl⟩, fun n => ?_, fun v hv => ?_⟩)
        · go_simp
          exact lUpon_one
        subst hv
        go_simp
        refine hK _ ?_
        clear hK K
        refine lexL_skip (fun K hK => ⟨by kernel_rfl, ?_⟩)
        go_simp
        refine hK _ ?_
        clear hK K
        refine lexL_skip (fun K hK => ⟨by kernel_rfl, ?_⟩)
        go_simp
        refine hK _ ?_
        clear hK K
        refine lexL_skip (fun K hK => ⟨by kernel_rfl, ?_⟩)
        go_simp
        refine hK _ ?_
        clear hK K
        refine lexL_skip (fun K hK => ⟨by kernel_rfl, ?_⟩)
        go_simp
        refine hK _ ?_
        clear hK K
        refine lexL_skip (fun K hK => ⟨by kernel_rfl, ?_⟩)
        go_simp
        refine hK _ ?_
        clear hK K
        refine lexL_skip (fun K hK => ⟨by kernel_rfl, ?_⟩)
        go_simp
        refine hK _ ?_
        clear hK K
        refine lexL_step (fun K hK => ⟨by kernel_rfl, ⟨_, rfl⟩, fun n => ?_, fun v hv => ?_⟩)
        · go_simp
          exact lUpon_one
        subst hv
        go_simp
        refine hK _ ?_
        clear hK K
        refine lexL_step (fun K hK => ⟨by kernel_rfl, ⟨_, rfl⟩, fun n => ?_, fun v hv => ?_⟩)
        · go_simp
          exact lUpon_one
        subst hv
        go_simp
        refine hK _ ?_
        clear hK K
        refine lexL_skip (fun K hK => ⟨by kernel_rfl, ?_⟩)
        go_simp
        refine hK _ ?_
        clear hK K
        refine lexL_skip (fun K hK => ⟨by kernel_rfl, ?_⟩)
        go_simp
        refine hK _ ?_
        clear hK K
        refine lexL_skip (fun K hK => ⟨by kernel_rfl, ?_⟩)
        go_simp
        refine hK _ ?_
        clear hK K
        refine lexL_skip (fun K hK => ⟨by kernel_rfl, ?_⟩)
        go_simp
        refine hK _ ?_
        clear hK K
        refine lexL_skip (fun K hK => ⟨by kernel_rfl, ?_⟩)
        go_simp
        refine hK _ ?_
        clear hK K
        refine lexL_skip (fun K hK => ⟨by kernel_rfl, ?_⟩)
        go_simp
        refine hK _ ?_
        clear hK K
        refine lexL_step (fun K hK => ⟨by kernel_rfl, ⟨_, rfl⟩, fun n => ?_, fun v hv => ?_⟩)
        · go_simp
          exact lUpon_one
        subst hv
        go_simp
        refine hK _ ?_
        clear hK K
        refine lexL_end ?_
        intro n9
        go_wp2
        go_ret
        exact ⟨rfl, below_go (unhideR HW) (drawn_below _ _)⟩
      by_cases q2 : -1152921504606846976 ≤ s.f
      case neg =>
        have hE : E = false := unhideR HN2 (fun h => q2 ((unhideR HS).2 h).2.1)
        subst hE
        have b1 : decide (s.t ≤ s.f) = false := decide_eq_false (by omega)
        have b2 : decide (s.f < -1152921504606846976) = true := decide_eq_true (by omega)
        clear HN HY HN2 HS HM
        go_wp2_with fail
        refine wp_region_lets [(· = .slice (some ⟨b, off, none⟩) L.length cap),
          (· = .int .i64 (k : Nat)),
          (· = .pointer (some ⟨b, off + k * 2, none⟩)),
          (· = .pointer (some ⟨b, off + k * 2, none⟩)),
          (· = .int .i64 s.f),
          (· = .slice (some ⟨b, off, none⟩) L.length cap),
          (· = .int .i64 (k : Nat)),
          (· = .pointer (some ⟨b, off + k * 2, none⟩)),
          (· = .pointer (some ⟨b, off + k * 2 + 1, none⟩)),
          (· = .int .i64 s.t),
          (· = .bool false),
          (· = .bool false),
          (· = .slice (some ⟨b, off, none⟩) L.length cap),
          (· = .int .i64 (k : Nat)),
          (· = .pointer (some ⟨b, off + k * 2, none⟩)),
          (· = .pointer (some ⟨b, off + k * 2, none⟩)),
          (· = .int .i64 s.f),
          (· = .bool true),
          (· = .bool true),
          (· = .bool true),
          (· = undef),
          (· = undef),
          (· = undef),
          (· = undef),
          (· = undef),
          (· = undef),
          (· = .bool true)] (by kernel_rfl) (by kernel_rfl) ?_
        refine lexL_step (fun K hK => ⟨by kernel_rfl, ⟨_, rfl⟩, fun n => ?_, fun v hv => ?_⟩)
        · go_simp
          exact lUpon_one
        subst hv
        go_simp
        refine hK _ ?_
        clear hK K
        refine lexL_step (fun K hK => ⟨by kernel_rfl, ⟨_, rfl⟩, fun n => ?_, fun v hv => ?_⟩)
        · go_simp
          exact lUpon_one
        subst hv
        go_simp
        refine hK _ ?_
        clear hK K
        refine lexL_step (fun K hK => ⟨by kernel_rfl, ⟨_, rfl⟩, fun n => ?_, fun v hv => ?_⟩)
        · go_simp
          exact lUpon_one
        subst hv
        go_simp
        refine hK _ ?_
        clear hK K
        refine lexL_step (fun K hK => ⟨by kernel_rfl, ⟨_, rfl⟩, fun n => ?_, fun v hv => ?_⟩)
        · go_simp
          exact lUpon_one
        subst hv
        go_simp
        refine hK _ ?_
        clear hK K
        refine lexL_step (fun K hK => ⟨by kernel_rfl, ⟨_, rfl⟩, fun n => ?_, fun v hv => ?_⟩)
        · go_simp
          exact lUpon_one
        subst hv
        go_simp
        refine hK _ ?_
        clear hK K
        refine lexL_step (fun K hK => ⟨by kernel_rfl, ⟨_, rfl⟩, fun n => ?_, fun v hv => ?_⟩)
        · go_simp
          exact lUpon_one
        subst hv
        go_simp
        refine hK _ ?_
        clear hK K
        refine lexL_step (fun K hK => ⟨by kernel_rfl, ⟨_, rfl⟩, fun n => ?_, fun v hv => ?_⟩)
        · go_simp
          exact lUpon_one
        subst hv
        go_simp
        refine hK _ ?_
        clear hK K
        refine lexL_step (fun K hK => ⟨by kernel_rfl, ⟨_, rfl⟩, fun n => ?_, fun v hv => ?_⟩)
        · go_simp
          exact lUpon_one
        subst hv
        go_simp
        refine hK _ ?_
        clear hK K
        refine lexL_step (fun K hK => ⟨by kernel_rfl, ⟨_, rfl⟩, fun n => ?_, fun v hv => ?_⟩)
        · go_simp
          exact lUpon_one
        subst hv
        go_simp
        refine hK _ ?_
        clear hK K
        refine lexL_step (fun K hK => ⟨by kernel_rfl, ⟨_, rfl⟩, fun n => ?_, fun v hv => ?_⟩)
        · go_simp
          exact lUpon_one
        subst hv
        go_simp
        refine hK _ ?_
        clear hK K
        refine lexL_step (fun K hK => ⟨by kernel_rfl, ⟨_, rfl⟩, fun n => ?_, fun v hv => ?_⟩)
        · go_simp
          exact lUpon_one
        subst hv
        go_simp
        refine hK _ ?_
        clear hK K
        refine lexL_step (fun K hK => ⟨by kernel_rfl, ⟨_, rfl⟩, fun n => ?_, fun v hv => ?_⟩)
        · go_simp
          exact lUpon_one
        subst hv
        go_simp
        refine hK _ ?_
        clear hK K
        refine lexL_step (fun K hK => ⟨by kernel_rfl, ⟨_, rfl⟩, fun n => ?_, fun v hv => ?_⟩)
        · go_simp
          exact lUpon_one
        subst hv
        go_simp
        refine hK _ ?_
        clear hK K
        refine lexL_step (fun K hK => ⟨by kernel_rfl, ⟨_, rfl⟩, fun n => ?_, fun v hv => ?_⟩)
        · go_simp
          exact lUpon_one
        subst hv
        go_simp
        refine hK _ ?_
        clear hK K
        refine lexL_step (fun K hK => ⟨by kernel_rfl, ⟨_, rfl⟩, fun n => ?_, fun v hv => ?_⟩)
        · go_simp
          exact lUpon_one
        subst hv
        go_simp
        refine hK _ ?_
        clear hK K
        refine lexL_step (fun K hK => ⟨by kernel_rfl, ⟨_, rfl⟩, fun n => ?_, fun v hv => ?_⟩)
        · go_simp
          exact lUpon_one
        subst hv
        go_simp
        refine hK _ ?_
        clear hK K
        refine lexL_step (fun K hK => ⟨by kernel_rfl, ⟨_, rfl⟩, fun n => ?_, fun v hv => ?_⟩)
        · go_simp
          exact lUpon_one
        subst hv
        go_simp
        refine hK _ ?_
        clear hK K
        refine lexL_step (fun K hK => ⟨by kernel_rfl, ⟨_, rfl⟩, fun n => ?_, fun v hv => ?_⟩)
        · go_simp
          exact lUpon_one
        subst hv
        go_simp
        refine hK _ ?_
        clear hK K
        refine lexL_step (fun K hK => ⟨by kernel_rfl, ⟨_, rfl⟩, fun n => ?_, fun v hv => ?_⟩)
        · go_simp
          exact lUpon_one
        subst hv
        go_simp
        refine hK _ ?_
        clear hK K
        refine lexL_step (fun K hK => ⟨by kernel_rfl, ⟨_, rfl⟩, fun n => ?_, fun v hv => ?_⟩)
        · go_simp
          exact lUpon_one
        subst hv
        go_simp
        refine hK _ ?_
        clear hK K
        refine lexL_skip (fun K hK => ⟨by kernel_rfl, ?_⟩)
        go_simp
        refine hK _ ?_
        clear hK K
        refine lexL_skip (fun K hK => ⟨by kernel_rfl, ?_⟩)
        go_simp
        refine hK _ ?_
        clear hK K
        refine lexL_skip (fun K hK => ⟨by kernel_rfl, ?_⟩)
        go_simp
        refine hK _ ?_
        clear hK K
        refine lexL_skip (fun K hK => ⟨by kernel_rfl, ?_⟩)
        go_simp
        refine hK _ ?_
        clear hK K
        refine lexL_skip (fun K hK => ⟨by kernel_rfl, ?_⟩)
        go_simp
        refine hK _ ?_
        clear hK K
        refine lexL_skip (fun K hK => ⟨by kernel_rfl, ?_⟩)
        go_simp
        refine hK _ ?_
        clear hK K
        refine lexL_step (fun K hK => ⟨by kernel_rfl, ⟨_, rfl⟩, fun n => ?_, fun v hv => ?_⟩)
        · go_simp
          exact lUpon_one
        subst hv
        go_simp
        refine hK _ ?_
        clear hK K
        refine lexL_end ?_
        intro n9
        go_wp2
        go_ret
        exact ⟨rfl, below_go (unhideR HW) (drawn_below _ _)⟩
      by_cases q3 : s.t ≤ 1152921504606846976
      case neg =>
        have hE : E = false := unhideR HN2 (fun h => q3 ((unhideR HS).2 h).2.2.1)
        subst hE
        have b1 : decide (s.t ≤ s.f) = false := decide_eq_false (by omega)
        have b2 : decide (s.f < -1152921504606846976) = false := decide_eq_false (by omega)
        have b3 : decide (1152921504606846976 < s.t) = true := decide_eq_true (by omega)
        clear HN HY HN2 HS HM
        go_wp2_with fail
        refine wp_region_lets [(· = .slice (some ⟨b, off, none⟩) L.length cap),
          (· = .int .i64 (k : Nat)),
          (· = .pointer (some ⟨b, off + k * 2, none⟩)),
          (· = .pointer (some ⟨b, off + k * 2, none⟩)),
          (· = .int .i64 s.f),
          (· = .slice (some ⟨b, off, none⟩) L.length cap),
          (· = .int .i64 (k : Nat)),
          (· = .pointer (some ⟨b, off + k * 2, none⟩)),
          (· = .pointer (some ⟨b, off + k * 2 + 1, none⟩)),
          (· = .int .i64 s.t),
          (· = .bool false),
          (· = .bool false),
          (· = .slice (some ⟨b, off, none⟩) L.length cap),
          (· = .int .i64 (k : Nat)),
          (· = .pointer (some ⟨b, off + k * 2, none⟩)),
          (· = .pointer (some ⟨b, off + k * 2, none⟩)),
          (· = .int .i64 s.f),
          (· = .bool false),
          (· = .bool false),
          (· = .bool false),
          (· = .slice (some ⟨b, off, none⟩) L.length cap),
          (· = .int .i64 (k : Nat)),
          (· = .pointer (some ⟨b, off + k * 2, none⟩)),
          (· = .pointer (some ⟨b, off + k * 2 + 1, none⟩)),
          (· = .int .i64 s.t),
          (· = .bool true),
          (· = .bool true)] (by kernel_rfl) (by kernel_rfl) ?_
        refine lexL_step (fun K hK => ⟨by kernel_rfl, ⟨_, rfl⟩, fun n => ?_, fun v hv => ?_⟩)
        · go_simp
          exact lUpon_one
        subst hv
        go_simp
        refine hK _ ?_
        clear hK K
        refine lexL_step (fun K hK => ⟨by kernel_rfl, ⟨_, rfl⟩, fun n => ?_, fun v hv => ?_⟩)
        · go_simp
          exact lUpon_one
        subst hv
        go_simp
        refine hK _ ?_
        clear hK K
        refine lexL_step (fun K hK => ⟨by kernel_rfl, ⟨_, rfl⟩, fun n => ?_, fun v hv => ?_⟩)
        · go_simp
          exact lUpon_one
        subst hv
        go_simp
        refine hK _ ?_
        clear hK K
        refine lexL_step (fun K hK => ⟨by kernel_rfl, ⟨_, rfl⟩, fun n => ?_, fun v hv => ?_⟩)
        · go_simp
          exact lUpon_one
        subst hv
        go_simp
        refine hK _ ?_
        clear hK K
        refine lexL_step (fun K hK => ⟨by kernel_rfl, ⟨_, rfl⟩, fun n => ?_, fun v hv => ?_⟩)
        · go_simp
          exact lUpon_one
        subst hv
        go_simp
        refine hK _ ?_
        clear hK K
        refine lexL_step (fun K hK => ⟨by kernel_rfl, ⟨_, rfl⟩, fun n => ?_, fun v hv => ?_⟩)
        · go_simp
          exact lUpon_one
        subst hv
        go_simp
        refine hK _ ?_
        clear hK K
        refine lexL_step (fun K hK => ⟨by kernel_rfl, ⟨_, rfl⟩, fun n => ?_, fun v hv => ?_⟩)
        · go_simp
          exact lUpon_one
        subst hv
        go_simp
        refine hK _ ?_
        clear hK K
        refine lexL_step (fun K hK => ⟨by kernel_rfl, ⟨_, rfl⟩, fun n => ?_, fun v hv => ?_⟩)
        · go_simp
          exact lUpon_one
        subst hv
        go_simp
        refine hK _ ?_
        clear hK K
        refine lexL_step (fun K hK => ⟨by kernel_rfl, ⟨_, rfl⟩, fun n => ?_, fun v hv => ?_⟩)
        · go_simp
          exact lUpon_one
        subst hv
        go_simp
        refine hK _ ?_
        clear hK K
        refine lexL_step (fun K hK => ⟨by kernel_rfl, ⟨_, rfl⟩, fun n => ?_, fun v hv => ?_⟩)
        · go_simp
          exact lUpon_one
        subst hv
        go_simp
        refine hK _ ?_
        clear hK K
        refine lexL_step (fun K hK => ⟨by kernel_rfl, ⟨_, rfl⟩, fun n => ?_, fun v hv => ?_⟩)
        · go_simp
          exact lUpon_one
        subst hv
        go_simp
        refine hK _ ?_
        clear hK K
        refine lexL_step (fun K hK => ⟨by kernel_rfl, ⟨_, rfl⟩, fun n => ?_, fun v hv => ?_⟩)
        · go_simp
          exact lUpon_one
        subst hv
        go_simp
        refine hK _ ?_
        clear hK K
        refine lexL_step (fun K hK => ⟨by kernel_rfl, ⟨_, rfl⟩, fun n => ?_, fun v hv => ?_⟩)
        · go_simp
          exact lUpon_one
        subst hv
        go_simp
        refine hK _ ?_
        clear hK K
        refine lexL_step (fun K hK => ⟨by kernel_rfl, ⟨_, rfl⟩, fun n => ?_, fun v hv => ?_⟩)
        · go_simp
          exact lUpon_one
        subst hv
        go_simp
        refine hK _ ?_
        clear hK K
        refine lexL_step (fun K hK => ⟨by kernel_rfl, ⟨_, rfl⟩, fun n => ?_, fun v hv => ?_⟩)
        · go_simp
          exact lUpon_one
        subst hv
        go_simp
        refine hK _ ?_
        clear hK K
        refine lexL_step (fun K hK => ⟨by kernel_rfl, ⟨_, rfl⟩, fun n => ?_, fun v hv => ?_⟩)
        · go_simp
          exact lUpon_one
        subst hv
        go_simp
        refine hK _ ?_
        clear hK K
        refine lexL_step (fun K hK => ⟨by kernel_rfl, ⟨_, rfl⟩, fun n => ?_, fun v hv => ?_⟩)
        · go_simp
          exact lUpon_one
        subst hv
        go_simp
        refine hK _ ?_
        clear hK K
        refine lexL_step (fun K hK => ⟨by kernel_rfl, ⟨_, rfl⟩, fun n => ?_, fun v hv => ?_⟩)
        · go_simp
          exact lUpon_one
        subst hv
        go_simp
        refine hK _ ?_
        clear hK K
        refine lexL_step (fun K hK => ⟨by kernel_rfl, ⟨_, rfl⟩, fun n => ?_, fun v hv => ?_⟩)
        · go_simp
          exact lUpon_one
        subst hv
        go_simp
        refine hK _ ?_
        clear hK K
        refine lexL_step (fun K hK => ⟨by kernel_rfl, ⟨_, rfl⟩, fun n => ?_, fun v hv => ?_⟩)
        · go_simp
          exact lUpon_one
        subst hv
        go_simp
        refine hK _ ?_
        clear hK K
        refine lexL_step (fun K hK => ⟨by kernel_rfl, ⟨_, rfl⟩, fun n => ?_, fun v hv => ?_⟩)
        · go_simp
          exact lUpon_one
        subst hv
        go_simp
        refine hK _ ?_
        clear hK K
        refine lexL_step (fun K hK => ⟨by kernel_rfl, ⟨_, rfl⟩, fun n => ?_, fun v hv => ?_⟩)
        · go_simp
          exact lUpon_one
        subst hv
        go_simp
        refine hK _ ?_
        clear hK K
        refine lexL_step (fun K hK => ⟨by kernel_rfl, ⟨_, rfl⟩, fun n => ?_, fun v hv => ?_⟩)
        · go_simp
          exact lUpon_one
        subst hv
        go_simp
        refine hK _ ?_
        clear hK K
        refine lexL_step (fun K hK => ⟨by kernel_rfl, ⟨_, rfl⟩, fun n => ?_, fun v hv => ?_⟩)
        · go_simp
          exact lUpon_one
        subst hv
        go_simp
        refine hK _ ?_
        clear hK K
        refine lexL_step (fun K hK => ⟨by kernel_rfl, ⟨_, rfl⟩, fun n => ?_, fun v hv => ?_⟩)
        · go_simp
          exact lUpon_one
        subst hv
        go_simp
        refine hK _ ?_
        clear hK K
        refine lexL_step (fun K hK => ⟨by kernel_rfl, ⟨_, rfl⟩, fun n => ?_, fun v hv => ?_⟩)
        · go_simp
          exact lUpon_one
        subst hv
        go_simp
        refine hK _ ?_
        clear hK K
        refine lexL_step (fun K hK => ⟨by kernel_rfl, ⟨_, rfl⟩, fun n => ?_, fun v hv => ?_⟩)
        · go_simp
          exact lUpon_one
        subst hv
        go_simp
        refine hK _ ?_
        clear hK K
        refine lexL_end ?_
        intro n9
        go_wp2
        go_ret
        exact ⟨rfl, below_go (unhideR HW) (drawn_below _ _)⟩
      have b1 : decide (s.t ≤ s.f) = false := decide_eq_false (by omega)
      have b2 : decide (s.f < -1152921504606846976) = false := decide_eq_false (by omega)
      have b3 : decide (1152921504606846976 < s.t) = false := decide_eq_false (by omega)
      go_wp2_with fail
      refine wp_region_lets [(· = .slice (some ⟨b, off, none⟩) L.length cap),
        (· = .int .i64 (k : Nat)),
        (· = .pointer (some ⟨b, off + k * 2, none⟩)),
        (· = .pointer (some ⟨b, off + k * 2, none⟩)),
        (· = .int .i64 s.f),
        (· = .slice (some ⟨b, off, none⟩) L.length cap),
        (· = .int .i64 (k : Nat)),
        (· = .pointer (some ⟨b, off + k * 2, none⟩)),
        (· = .pointer (some ⟨b, off + k * 2 + 1, none⟩)),
        (· = .int .i64 s.t),
        (· = .bool false),
        (· = .bool false),
        (· = .slice (some ⟨b, off, none⟩) L.length cap),
        (· = .int .i64 (k : Nat)),
        (· = .pointer (some ⟨b, off + k * 2, none⟩)),
        (· = .pointer (some ⟨b, off + k * 2, none⟩)),
        (· = .int .i64 s.f),
        (· = .bool false),
        (· = .bool false),
        (· = .bool false),
        (· = .slice (some ⟨b, off, none⟩) L.length cap),
        (· = .int .i64 (k : Nat)),
        (· = .pointer (some ⟨b, off + k * 2, none⟩)),
        (· = .pointer (some ⟨b, off + k * 2 + 1, none⟩)),
        (· = .int .i64 s.t),
        (· = .bool false),
        (· = .bool false)] (by kernel_rfl) (by kernel_rfl) ?_
      refine lexL_step (fun K hK => ⟨by kernel_rfl, ⟨_, rfl⟩, fun n => ?_, fun v hv => ?_⟩)
      · go_simp
        exact lUpon_one
      subst hv
      go_simp
      refine hK _ ?_
      clear hK K
      refine lexL_step (fun K hK => ⟨by kernel_rfl, ⟨_, rfl⟩, fun n => ?_, fun v hv => ?_⟩)
      · go_simp
        exact lUpon_one
      subst hv
      go_simp
      refine hK _ ?_
      clear hK K
      refine lexL_step (fun K hK => ⟨by kernel_rfl, ⟨_, rfl⟩, fun n => ?_, fun v hv => ?_⟩)
      · go_simp
        exact lUpon_one
      subst hv
      go_simp
      refine hK _ ?_
      clear hK K
      refine lexL_step (fun K hK => ⟨by kernel_rfl, ⟨_, rfl⟩, fun n => ?_, fun v hv => ?_⟩)
      · go_simp
        exact lUpon_one
      subst hv
      go_simp
      refine hK _ ?_
      clear hK K
      refine lexL_step (fun K hK => ⟨by kernel_rfl, ⟨_, rfl⟩, fun n => ?_, fun v hv => ?_⟩)
      · go_simp
        exact lUpon_one
      subst hv
      go_simp
      refine hK _ ?_
      clear hK K
      refine lexL_step (fun K hK => ⟨by kernel_rfl, ⟨_, rfl⟩, fun n => ?_, fun v hv => ?_⟩)
      · go_simp
        exact lUpon_one
      subst hv
      go_simp
      refine hK _ ?_
      clear hK K
      refine lexL_step (fun K hK => ⟨by kernel_rfl, ⟨_, rfl⟩, fun n => ?_, fun v hv => ?_⟩)
      · go_simp
        exact lUpon_one
      subst hv
      go_simp
      refine hK _ ?_
      clear hK K
      refine lexL_step (fun K hK => ⟨by kernel_rfl, ⟨_, rfl⟩, fun n => ?_, fun v hv => ?_⟩)
      · go_simp
        exact lUpon_one
      subst hv
      go_simp
      refine hK _ ?_
      clear hK K
      refine lexL_step (fun K hK => ⟨by kernel_rfl, ⟨_, rfl⟩, fun n => ?_, fun v hv => ?_⟩)
      · go_simp
        exact lUpon_one
      subst hv
      go_simp
      refine hK _ ?_
      clear hK K
      refine lexL_step (fun K hK => ⟨by kernel_rfl, ⟨_, rfl⟩, fun n => ?_, fun v hv => ?_⟩)
      · go_simp
        exact lUpon_one
      subst hv
      go_simp
      refine hK _ ?_
      clear hK K
      refine lexL_step (fun K hK => ⟨by kernel_rfl, ⟨_, rfl⟩, fun n => ?_, fun v hv => ?_⟩)
      · go_simp
        exact lUpon_one
      subst hv
      go_simp
      refine hK _ ?_
      clear hK K
      refine lexL_step (fun K hK => ⟨by kernel_rfl, ⟨_, rfl⟩, fun n => ?_, fun v hv => ?_⟩)
      · go_simp
        exact lUpon_one
      subst hv
      go_simp
      refine hK _ ?_
      clear hK K
      refine lexL_step (fun K hK => ⟨by kernel_rfl, ⟨_, rfl⟩, fun n => ?_, fun v hv => ?_⟩)
      · go_simp
        exact lUpon_one
      subst hv
      go_simp
      refine hK _ ?_
      clear hK K
      refine lexL_step (fun K hK => ⟨by kernel_rfl, ⟨_, rfl⟩, fun n => ?_, fun v hv => ?_⟩)
      · go_simp
        exact lUpon_one
      subst hv
      go_simp
      refine hK _ ?_
      clear hK K
      refine lexL_step (fun K hK => ⟨by kernel_rfl, ⟨_, rfl⟩, fun n => ?_, fun v hv => ?_⟩)
      · go_simp
        exact lUpon_one
      subst hv
      go_simp
      refine hK _ ?_
      clear hK K
      refine lexL_step (fun K hK => ⟨by kernel_rfl, ⟨_, rfl⟩, fun n => ?_, fun v hv => ?_⟩)
      · go_simp
        exact lUpon_one
      subst hv
      go_simp
      refine hK _ ?_
      clear hK K
      refine lexL_step (fun K hK => ⟨by kernel_rfl, ⟨_, rfl⟩, fun n => ?_, fun v hv => ?_⟩)
      · go_simp
        exact lUpon_one
      subst hv
      go_simp
      refine hK _ ?_
      clear hK K
      refine lexL_step (fun K hK => ⟨by kernel_rfl, ⟨_, rfl⟩, fun n => ?_, fun v hv => ?_⟩)
      · go_simp
        exact lUpon_one
      subst hv
      go_simp
      refine hK _ ?_
      clear hK K
      refine lexL_step (fun K hK => ⟨by kernel_rfl, ⟨_, rfl⟩, fun n => ?_, fun v hv => ?_⟩)
      · go_simp
        exact lUpon_one
      subst hv
      go_simp
      refine hK _ ?_
      clear hK K
      refine lexL_step (fun K hK => ⟨by kernel_rfl, ⟨_, rfl⟩, fun n => ?_, fun v hv => ?_⟩)
      · go_simp
        exact lUpon_one
      subst hv
      go_simp
      refine hK _ ?_
      clear hK K
      refine lexL_step (fun K hK => ⟨by kernel_rfl, ⟨_, rfl⟩, fun n => ?_, fun v hv => ?_⟩)
      · go_simp
        exact lUpon_one
      subst hv
      go_simp
      refine hK _ ?_
      clear hK K
      refine lexL_step (fun K hK => ⟨by kernel_rfl, ⟨_, rfl⟩, fun n => ?_, fun v hv => ?_⟩)
      · go_simp
        exact lUpon_one
      subst hv
      go_simp
      refine hK _ ?_
      clear hK K
      refine lexL_step (fun K hK => ⟨by kernel_rfl, ⟨_, rfl⟩, fun n => ?_, fun v hv => ?_⟩)
      · go_simp
        exact lUpon_one
      subst hv
      go_simp
      refine hK _ ?_
      clear hK K
      refine lexL_step (fun K hK => ⟨by kernel_rfl, ⟨_, rfl⟩, fun n => ?_, fun v hv => ?_⟩)
      · go_simp
        exact lUpon_one
      subst hv
      go_simp
      refine hK _ ?_
      clear hK K
      refine lexL_step (fun K hK => ⟨by kernel_rfl, ⟨_, rfl⟩, fun n => ?_, fun v hv => ?_⟩)
      · go_simp
        exact lUpon_one
      subst hv
      go_simp
      refine hK _ ?_
      clear hK K
      refine lexL_step (fun K hK => ⟨by kernel_rfl, ⟨_, rfl⟩, fun n => ?_, fun v hv => ?_⟩)
      · go_simp
        exact lUpon_one
      subst hv
      go_simp
      refine hK _ ?_
      clear hK K
      refine lexL_step (fun K hK => ⟨by kernel_rfl, ⟨_, rfl⟩, fun n => ?_, fun v hv => ?_⟩)
      · go_simp
        exact lUpon_one
      subst hv
      go_simp
      refine hK _ ?_
      clear hK K
      refine lexL_end ?_
      intro n9
      have hbW := drawn_below wr n9
      have e0 := (hbW.cell (p := ⟨b, off + k * 2, none⟩) hb).trans c0
      clear c0 c1
      replace HW := hideR (below_go (unhideR HW) hbW)
      generalize wr.drewN n9 = W9 at *
      clear hbW
      go_wp2_with fail
      by_cases hk0 : k = 0
      · have HM2 : HeldR (∀ j, j < k + 1 → Spn.Ok L j) := fun j hj => by
          obtain rfl : j = k := by omega
          exact (unhideR HS).1 q1 q2 q3 (fun h => absurd h (by omega))
        have b5 : decide (0 < k) = false := decide_eq_false (by omega)
        clear HN HY HN2 HS HM hk0
        refine wp_region_lets [(· = .int .i64 (k : Nat)),
          (· = .bool false),
          (· = .bool false),
          (· = undef),
          (· = undef),
          (· = undef),
          (· = undef),
          (· = undef),
          (· = undef),
          (· = undef),
          (· = undef),
          (· = undef),
          (· = undef),
          (· = undef),
          (· = undef),
          (· = .bool false)] (by kernel_rfl) (by kernel_rfl) ?_
        refine lexL_step (fun K hK => ⟨by kernel_rfl, ⟨_, rfl⟩, fun n => ?_, fun v hv => ?_⟩)
        · go_simp
          exact lUpon_one
        subst hv
        go_simp
        refine hK _ ?_
        clear hK K
        refine lexL_step (fun K hK => ⟨by kernel_rfl, ⟨_, rfl⟩, fun n => ?_, fun v hv => ?_⟩)
        · go_simp
          exact lUpon_one
        subst hv
        go_simp
        refine hK _ ?_
        clear hK K
        refine lexL_step (fun K hK => ⟨by kernel_rfl, ⟨_, rfl⟩, fun n => ?_, fun v hv => ?_⟩)
        · go_simp
          exact lUpon_one
        subst hv
        go_simp
        refine hK _ ?_
        clear hK K
        refine lexL_skip (fun K hK => ⟨by kernel_rfl, ?_⟩)
        go_simp
        refine hK _ ?_
        clear hK K
        refine lexL_skip (fun K hK => ⟨by kernel_rfl, ?_⟩)
        go_simp
        refine hK _ ?_
        clear hK K
        refine lexL_skip (fun K hK => ⟨by kernel_rfl, ?_⟩)
        go_simp
        refine hK _ ?_
        clear hK K
        refine lexL_skip (fun K hK => ⟨by kernel_rfl, ?_⟩)
        go_simp
        refine hK _ ?_
        clear hK K
        refine lexL_skip (fun K hK => ⟨by kernel_rfl, ?_⟩)
        go_simp
        refine hK _ ?_
        clear hK K
        refine lexL_skip (fun K hK => ⟨by kernel_rfl, ?_⟩)
        go_simp
        refine hK _ ?_
        clear hK K
        refine lexL_skip (fun K hK => ⟨by kernel_rfl, ?_⟩)
        go_simp
        refine hK _ ?_
        clear hK K
        refine lexL_skip (fun K hK => ⟨by kernel_rfl, ?_⟩)
        go_simp
        refine hK _ ?_
        clear hK K
        refine lexL_skip (fun K hK => ⟨by kernel_rfl, ?_⟩)
        go_simp
        refine hK _ ?_
        clear hK K
        refine lexL_skip (fun K hK => ⟨by kernel_rfl, ?_⟩)
        go_simp
        refine hK _ ?_
        clear hK K
        refine lexL_skip (fun K hK => ⟨by kernel_rfl, ?_⟩)
        go_simp
        refine hK _ ?_
        clear hK K
        refine lexL_skip (fun K hK => ⟨by kernel_rfl, ?_⟩)
        go_simp
        refine hK _ ?_
        clear hK K
        refine lexL_step (fun K hK => ⟨by kernel_rfl, ⟨_, rfl⟩, fun n => ?_, fun v hv => ?_⟩)
        · go_simp
          exact lUpon_one
        subst hv
        go_simp
        refine hK _ ?_
        clear hK K
        refine lexL_end ?_
        intro n8
        go_wp2
        exact ⟨⟨k + 1, by omega, by go_num, HM2, hideR (below_go (unhideR HW) (drawn_below _ _))⟩, by simp [intOf]; omega⟩
      · obtain ⟨m, hm⟩ : ∃ m, k = m + 1 := ⟨k - 1, by omega⟩
        have b5 : decide (0 < k) = true := decide_eq_true (by omega)
        obtain ⟨b', off', e', _, hat'⟩ := ((unhideR HR).below (unhideR HW)).at_ m (by omega)
        cases e'
        have d1 := hat'.c1
        clear hat'
        have hS2 := unhideR HS
        rw [show k - 1 = m by omega] at hS2
        have HS2 := hideR hS2
        clear hS2 HS
        generalize L.getD m sp0 = r at *
        have ek : (k : Int) - 1 = (m : Int) := by omega
        have ew : IntKind.i64.wrap (m : Int) = (m : Int) := iwrap (by omega) (by omega)
        have hm1 : m < L.length := by omega
        have HK := hideR hm
        clear hm hk0
        by_cases q4 : r.t < s.f
        · have b4 : decide (s.f ≤ r.t) = false := decide_eq_false (by omega)
          have HM2 : HeldR (∀ j, j < k + 1 → Spn.Ok L j) := fun j hj => by
            by_cases e : j = k
            · subst e
              exact (unhideR HS2).1 q1 q2 q3 (fun _ => q4)
            · exact unhideR HM j (by omega)
          clear HN HY HN2 HS2 HM
          refine wp_region_lets [(· = .int .i64 (k : Nat)),
            (· = .bool true),
            (· = .bool true),
            (· = .slice (some ⟨b, off, none⟩) L.length cap),
            (· = .int .i64 (k : Nat)),
            (· = .int .i64 (m : Nat)),
            (· = .pointer (some ⟨b, off + m * 2, none⟩)),
            (· = .pointer (some ⟨b, off + m * 2 + 1, none⟩)),
            (· = .int .i64 r.t),
            (· = .slice (some ⟨b, off, none⟩) L.length cap),
            (· = .int .i64 (k : Nat)),
            (· = .pointer (some ⟨b, off + k * 2, none⟩)),
            (· = .pointer (some ⟨b, off + k * 2, none⟩)),
            (· = .int .i64 s.f),
            (· = .bool false),
            (· = .bool false)] (by kernel_rfl) (by kernel_rfl) ?_
          refine lexL_step (fun K hK => ⟨by kernel_rfl, ⟨_, rfl⟩, fun n => ?_, fun v hv => ?_⟩)
          · go_simp
            exact lUpon_one
          subst hv
          go_simp
          refine hK _ ?_
          clear hK K
          refine lexL_step (fun K hK => ⟨by kernel_rfl, ⟨_, rfl⟩, fun n => ?_, fun v hv => ?_⟩)
          · go_simp
            exact lUpon_one
          subst hv
          go_simp
          refine hK _ ?_
          clear hK K
          refine lexL_step (fun K hK => ⟨by kernel_rfl, ⟨_, rfl⟩, fun n => ?_, fun v hv => ?_⟩)
          · go_simp
            exact lUpon_one
          subst hv
          go_simp
          refine hK _ ?_
          clear hK K
          refine lexL_step (fun K hK => ⟨by kernel_rfl, ⟨_, rfl⟩, fun n => ?_, fun v hv => ?_⟩)
          · go_simp
            exact lUpon_one
          subst hv
          go_simp
          refine hK _ ?_
          clear hK K
          refine lexL_step (fun K hK => ⟨by kernel_rfl, ⟨_, rfl⟩, fun n => ?_, fun v hv => ?_⟩)
          · go_simp
            exact lUpon_one
          subst hv
          go_simp
          refine hK _ ?_
          clear hK K
          refine lexL_step (fun K hK => ⟨by kernel_rfl, ⟨_, rfl⟩, fun n => ?_, fun v hv => ?_⟩)
          · go_simp
            exact lUpon_one
          subst hv
          go_simp
          refine hK _ ?_
          clear hK K
          refine lexL_step (fun K hK => ⟨by kernel_rfl, ⟨_, rfl⟩, fun n => ?_, fun v hv => ?_⟩)
          · go_simp
            exact lUpon_one
          subst hv
          go_simp
          refine hK _ ?_
          clear hK K
          refine lexL_step (fun K hK => ⟨by kernel_rfl, ⟨_, rfl⟩, fun n => ?_, fun v hv => ?_⟩)
          · go_simp
            exact lUpon_one
          subst hv
          go_simp
          refine hK _ ?_
          clear hK K
          refine lexL_step (fun K hK => ⟨by kernel_rfl, ⟨_, rfl⟩, fun n => ?_, fun v hv => ?_⟩)
          · go_simp
            exact lUpon_one
          subst hv
          go_simp
          refine hK _ ?_
          clear hK K
          refine lexL_step (fun K hK => ⟨by kernel_rfl, ⟨_, rfl⟩, fun n => ?_, fun v hv => ?_⟩)
          · go_simp
            exact lUpon_one
          subst hv
          go_simp
          refine hK _ ?_
          clear hK K
          refine lexL_step (fun K hK => ⟨by kernel_rfl, ⟨_, rfl⟩, fun n => ?_, fun v hv => ?_⟩)
          · go_simp
            exact lUpon_one
          subst hv
          go_simp
          refine hK _ ?_
          clear hK K
          refine lexL_step (fun K hK => ⟨by kernel_rfl, ⟨_, rfl⟩, fun n => ?_, fun v hv => ?_⟩)
          · go_simp
            exact lUpon_one
          subst hv
          go_simp
          refine hK _ ?_
          clear hK K
          refine lexL_step (fun K hK => ⟨by kernel_rfl, ⟨_, rfl⟩, fun n => ?_, fun v hv => ?_⟩)
          · go_simp
            exact lUpon_one
          subst hv
          go_simp
          refine hK _ ?_
          clear hK K
          refine lexL_step (fun K hK => ⟨by kernel_rfl, ⟨_, rfl⟩, fun n => ?_, fun v hv => ?_⟩)
          · go_simp
            exact lUpon_one
          subst hv
          go_simp
          refine hK _ ?_
          clear hK K
          refine lexL_step (fun K hK => ⟨by kernel_rfl, ⟨_, rfl⟩, fun n => ?_, fun v hv => ?_⟩)
          · go_simp
            exact lUpon_one
          subst hv
          go_simp
          refine hK _ ?_
          clear hK K
          refine lexL_step (fun K hK => ⟨by kernel_rfl, ⟨_, rfl⟩, fun n => ?_, fun v hv => ?_⟩)
          · go_simp
            exact lUpon_one
          subst hv
          go_simp
          refine hK _ ?_
          clear hK K
          refine lexL_end ?_
          intro n8
          go_wp2
          exact ⟨⟨k + 1, by omega, by go_num, HM2, hideR (below_go (unhideR HW) (drawn_below _ _))⟩, by simp [intOf]; omega⟩
        · have b4 : decide (s.f ≤ r.t) = true := decide_eq_true (by omega)
          have hE : E = false := unhideR HN2 (fun h => q4 (((unhideR HS2).2 h).2.2.2 (by have := unhideR HK; omega)))
          subst hE
          clear HN HY HN2 HS2 HM
          refine wp_region_lets [(· = .int .i64 (k : Nat)),
            (· = .bool true),
            (· = .bool true),
            (· = .slice (some ⟨b, off, none⟩) L.length cap),
            (· = .int .i64 (k : Nat)),
            (· = .int .i64 (m : Nat)),
            (· = .pointer (some ⟨b, off + m * 2, none⟩)),
            (· = .pointer (some ⟨b, off + m * 2 + 1, none⟩)),
            (· = .int .i64 r.t),
            (· = .slice (some ⟨b, off, none⟩) L.length cap),
            (· = .int .i64 (k : Nat)),
            (· = .pointer (some ⟨b, off + k * 2, none⟩)),
            (· = .pointer (some ⟨b, off + k * 2, none⟩)),
            (· = .int .i64 s.f),
            (· = .bool true),
            (· = .bool true)] (by kernel_rfl) (by kernel_rfl) ?_
          refine lexL_step (fun K hK => ⟨by kernel_rfl, ⟨_, rfl⟩, fun n => ?_, fun v hv => ?_⟩)
          · go_simp
            exact lUpon_one
          subst hv
          go_simp
          refine hK _ ?_
          clear hK K
          refine lexL_step (fun K hK => ⟨by kernel_rfl, ⟨_, rfl⟩, fun n => ?_, fun v hv => ?_⟩)
          · go_simp
            exact lUpon_one
          subst hv
          go_simp
          refine hK _ ?_
          clear hK K
          refine lexL_step (fun K hK => ⟨by kernel_rfl, ⟨_, rfl⟩, fun n => ?_, fun v hv => ?_⟩)
          · go_simp
            exact lUpon_one
          subst hv
          go_simp
          refine hK _ ?_
          clear hK K
          refine lexL_step (fun K hK => ⟨by kernel_rfl, ⟨_, rfl⟩, fun n => ?_, fun v hv => ?_⟩)
          · go_simp
            exact lUpon_one
          subst hv
          go_simp
          refine hK _ ?_
          clear hK K
          refine lexL_step (fun K hK => ⟨by kernel_rfl, ⟨_, rfl⟩, fun n => ?_, fun v hv => ?_⟩)
          · go_simp
            exact lUpon_one
          subst hv
          go_simp
          refine hK _ ?_
          clear hK K
          refine lexL_step (fun K hK => ⟨by kernel_rfl, ⟨_, rfl⟩, fun n => ?_, fun v hv => ?_⟩)
          · go_simp
            exact lUpon_one
          subst hv
          go_simp
          refine hK _ ?_
          clear hK K
          refine lexL_step (fun K hK => ⟨by kernel_rfl, ⟨_, rfl⟩, fun n => ?_, fun v hv => ?_⟩)
          · go_simp
            exact lUpon_one
          subst hv
          go_simp
          refine hK _ ?_
          clear hK K
          refine lexL_step (fun K hK => ⟨by kernel_rfl, ⟨_, rfl⟩, fun n => ?_, fun v hv => ?_⟩)
          · go_simp
            exact lUpon_one
          subst hv
          go_simp
          refine hK _ ?_
          clear hK K
          refine lexL_step (fun K hK => ⟨by kernel_rfl, ⟨_, rfl⟩, fun n => ?_, fun v hv => ?_⟩)
          · go_simp
            exact lUpon_one
          subst hv
          go_simp
          refine hK _ ?_
          clear hK K
          refine lexL_step (fun K hK => ⟨by kernel_rfl, ⟨_, rfl⟩, fun n => ?_, fun v hv => ?_⟩)
          · go_simp
            exact lUpon_one
          subst hv
          go_simp
          refine hK _ ?_
          clear hK K
          refine lexL_step (fun K hK => ⟨by kernel_rfl, ⟨_, rfl⟩, fun n => ?_, fun v hv => ?_⟩)
          · go_simp
            exact lUpon_one
          subst hv
          go_simp
          refine hK _ ?_
          clear hK K
          refine lexL_step (fun K hK => ⟨by kernel_rfl, ⟨_, rfl⟩, fun n => ?_, fun v hv => ?_⟩)
          · go_simp
            exact lUpon_one
          subst hv
          go_simp
          refine hK _ ?_
          clear hK K
          refine lexL_step (fun K hK => ⟨by kernel_rfl, ⟨_, rfl⟩, fun n => ?_, fun v hv => ?_⟩)
          · go_simp
            exact lUpon_one
          subst hv
          go_simp
          refine hK _ ?_
          clear hK K
          refine lexL_step (fun K hK => ⟨by kernel_rfl, ⟨_, rfl⟩, fun n => ?_, fun v hv => ?_⟩)
          · go_simp
            exact lUpon_one
          subst hv
          go_simp
          refine hK _ ?_
          clear hK K
          refine lexL_step (fun K hK => ⟨by kernel_rfl, ⟨_, rfl⟩, fun n => ?_, fun v hv => ?_⟩)
          · go_simp
            exact lUpon_one
          subst hv
          go_simp
          refine hK _ ?_
          clear hK K
          refine lexL_step (fun K hK => ⟨by kernel_rfl, ⟨_, rfl⟩, fun n => ?_, fun v hv => ?_⟩)
          · go_simp
            exact lUpon_one
          subst hv
          go_simp
          refine hK _ ?_
          clear hK K
          refine lexL_end ?_
          intro n8
          go_wp2
          go_ret
          exact ⟨rfl, below_go (unhideR HW) (drawn_below _ _)⟩
    · obtain rfl : k = L.length := by omega
      have hE : E = true := unhideR HY (unhideR HM)
      subst hE
      clear HN HY HM
      go_wp2
      go_ret
      exact ⟨rfl, unhideR HW⟩
set_option maxRecDepth 100000 in
set_option maxHeartbeats 1600000 in
theorem inSpans_any (ad : Option Addr) (cap : Nat) (L : List Spn) (x : Int) (w : World) (hr : SpCame w ad L) (hl : L.length ≤ 9223372036854775807) :
    Calls Tryd.prog 21 #[.slice ad L.length cap, .int .i64 x] w fun e w' => e = .returned (.bool (inV L x)) ∧ w' = w := by
  have HY : HeldR (∀ n, inV (L.take n) x = true → inV L x = true) := fun n h => inV_take n h
  have HN : HeldR (inV (L.take L.length) x = false → inV L x = false) := fun h => by rwa [List.take_length] at h
  have HR := hideR hr
  clear hr
  generalize inV L x = E at *
  go_enter Tryd.func21, Tryd.ntmps21
  go_wp2
  go_loop [5] (fun kv => ∃ k : Nat, k ≤ L.length ∧ kv = .int .i64 (k : Nat) ∧ HeldR (inV (L.take k) x = false)) (fun kv => L.length + 1 - (intOf kv).toNat)
  case atStart => exact ⟨0, by omega, rfl, hideR rfl⟩
  case round =>
    obtain ⟨k, hk, rfl, HM⟩ := hrel
    by_cases hlt : k < L.length
    · obtain ⟨b, off, rfl, hb, hat⟩ := (unhideR HR).at_ k hlt
      obtain ⟨c0, c1⟩ := hat
      have hn := inV_next (x := x) hlt
      rw [unhideR HM, Bool.false_or] at hn
      have HX := hideR hn
      have HY2 := hideR (unhideR HY (k + 1))
      clear hn HY
      generalize L.getD k sp0 = s at *
      by_cases q1 : s.f ≤ x
      · by_cases q2 : x < s.t
        · have hE : E = true := unhideR HY2 (by rw [unhideR HX, decide_eq_true q1, decide_eq_true q2]; rfl)
          subst hE
          clear HX HY2 HN HM
          go_wp2
          all_goals
            go_ret
            exact ⟨rfl, rfl⟩
        · have HM2 : HeldR (inV (L.take (k + 1)) x = false) := by
            unfold HeldR
            rw [unhideR HX, decide_eq_false q2, Bool.and_false]
          clear HX HY2 HM
          go_wp2
          exact ⟨⟨k + 1, by omega, by go_num, HM2⟩, by simp [intOf]; omega⟩
      · have HM2 : HeldR (inV (L.take (k + 1)) x = false) := by
          unfold HeldR
          rw [unhideR HX, decide_eq_false q1, Bool.false_and]
        clear HX HY2 HM
        go_wp2
        exact ⟨⟨k + 1, by omega, by go_num, HM2⟩, by simp [intOf]; omega⟩
    · obtain rfl : k = L.length := by omega
      have hE : E = false := unhideR HN (unhideR HM)
      subst hE
      clear HN HM HY
      go_wp2
      go_ret
      exact ⟨rfl, rfl⟩
set_option maxHeartbeats 800000 in
theorem spansError_any (ad1 ad2 : Option Addr) (c1 c2 : Nat) (A B : List Spn) (w : World) (hA : SpCame w ad1 A) (hB : SpCame w ad2 B) (hl1 : A.length ≤ 9223372036854775807) (hl2 : B.length ≤ 9223372036854775807) :
    Calls Tryd.prog 28 #[.slice ad1 A.length c1, .slice ad2 B.length c2] w fun e w' => e = .returned (.int .i64 (spE A B)) ∧ Below w.heap.size w w' := by
  unfold spE
  by_cases h : 4000 < A.length ∨ 4000 < B.length
  · rw [if_pos h]
    go_enter Tryd.func28, Tryd.ntmps28
    go_wp2
    all_goals
      go_ret
      exact ⟨rfl, Below.refl _ _⟩
  · rw [if_neg h]
    have hx := spansRight_any ad1 c1 A w hA hl1
    have hy := fun u (hu : SpCame u ad2 B) => spansRight_any ad2 c2 B u hu hl2
    have HB := hideR hB
    generalize rightV A = x at *
    generalize rightV B = y at *
    clear hA hB
    go_enter Tryd.func28, Tryd.ntmps28
    go_wp2_with fail
    refine hx.mono ?_
    rintro e w1 ⟨rfl, k1⟩
    have HW := hideR k1
    go_wp2_with fail
    refine (hy _ ((unhideR HB).below k1)).mono ?_
    rintro e w2 ⟨rfl, k2⟩
    replace HW := hideR (below_go (unhideR HW) k2)
    clear k1 k2 hx hy
    cases x <;> cases y
    all_goals
      go_wp2
      go_ret
      exact ⟨rfl, unhideR HW⟩
end Go.Proofs.YtoacdaemhcbbhaaDoor
