/-
  A kick of no bodies; of any: the document's, by contract.
-/
import Derived.Test.YtdngkmobkbiflagDoorKickW
namespace Go.Proofs.YtdngkmobkbiflagDoor
open Go Go.RowKit

set_option maxRecDepth 100000 in
set_option maxHeartbeats 800000 in
theorem kicked_nil (s : Int) (w : World) : Calls Tryd.prog 33 #[.slice none 0 0, .int .i64 s] w fun e w' => e = .returned (.slice none 0 0) ∧ w' = w := by
  go_enter Tryd.func33, Tryd.ntmps33
  go_wp2
  go_loop [6] (fun iv => iv = .int .i64 0) (fun _ => 0)
  case atStart => rfl
  case round =>
    subst hrel
    go_wp2
    go_ret
    exact ⟨rfl, rfl⟩
/-- a slice of bodies. -/
inductive BSl (w : World) : Value → List Bd → Prop where
  | nil : BSl w (.slice none 0 0) []
  | row {a0 : Addr} {cap : Nat} {L : List Bd} : BCame w (some a0) L → BSl w (.slice (some a0) L.length cap) L
theorem BSl.below {w u : World} {v : Value} {L : List Bd} (h : BSl w v L) (k : Below w.heap.size w u) : BSl u v L := by
  cases h with
  | nil => exact .nil
  | row h => exact .row (h.below k)
theorem BOwn.sl {w : World} {B : Nat} {v : Value} {L : List Bd} (h : BOwn w B v L) : BSl w v L := by
  rcases h with ⟨rfl, rfl⟩ | ⟨g, cap, rfl, _, h⟩
  · exact .nil
  · refine .row ⟨fun k hk => ⟨g, 0, rfl, h.lt, ?_⟩⟩
    rw [Nat.zero_add]
    exact h.at_ k hk
theorem bodiesErr_any {v : Value} {L : List Bd} {w : World} (h : BSl w v L) (hl : L.length ≤ 9223372036854775807) : Calls Tryd.prog 14 #[v] w fun e w' => e = .returned (.int .i64 (errV L)) ∧ Below w.heap.size w w' := by
  cases h with
  | nil => exact bodiesError_any none 0 [] w ⟨fun k hk => absurd hk (Nat.not_lt_zero k)⟩ hl
  | row h => exact bodiesError_any _ _ _ w h hl
theorem kicked_any {v : Value} {L : List Bd} {s : Int} {w : World} (h : BSl w v L) (hl : L.length ≤ 12) (hm : mss L = true) (ha : ats L = true) (hsp : ∀ j, j < L.length → (L.getD j bd0).sp.In 3458764513821589504) (hs : s = 1 ∨ s = -1) :
    Calls Tryd.prog 33 #[v, .int .i64 s] w fun e w' => ∃ u, e = .returned u ∧ BOwn w' w.heap.size u (kick s L) ∧ Below w.heap.size w w' := by
  cases h with
  | nil =>
    refine (kicked_nil s w).mono ?_
    rintro e w' ⟨rfl, rfl⟩
    exact ⟨_, rfl, .inl ⟨rfl, rfl⟩, Below.refl _ _⟩
  | row h => exact kicked_some _ _ _ s w h hl hm ha hsp hs
theorem kick_size {l : List Bd} {s C : Int} (hs : s = 1 ∨ s = -1) (hm : mss l = true) (hl : l.length ≤ 12) {j : Nat} (hj : j < l.length) (hc : (l.getD j bd0).sp.In C) : ((kick s l).getD j bd0).sp.In (C + 3458764513820540928) := by
  rw [← kf_end (i := l.length) (k := l.length) (Nat.le_refl _) hj]
  exact kf_size hs (mss_all hm) hl (Nat.le_refl _) (.inr hj) hc
theorem mss_kick (s : Int) (l : List Bd) : mss (kick s l) = mss l := by
  unfold mss kick
  rw [List.all_map]
  rfl
theorem mss_drift (s : Int) (l : List Bd) : mss (drift s l) = mss l := by
  unfold mss drift
  rw [List.all_map]
  rfl
end Go.Proofs.YtdngkmobkbiflagDoor
