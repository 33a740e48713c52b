/-
  The program's steps and what is right, by contracts.
-/
import Derived.Test.YtdngkmobkbiflagDoorDMv2
import Derived.Test.YtdngkmobkbiflagDoorMvLaw
namespace Go.Proofs.YtdngkmobkbiflagDoor
open Go Go.RowKit

theorem kick_at {L : List Bd} {s : Int} {j : Nat} (h : j < L.length) : ((kick s L).getD j bd0).at_ = (L.getD j bd0).at_ := by
  unfold kick
  rw [getD_map L h]
theorem drift_sp {L : List Bd} {s : Int} {j : Nat} (h : j < L.length) : ((drift s L).getD j bd0).sp = (L.getD j bd0).sp := by
  unfold drift
  rw [getD_map L h]
theorem drift_at {L : List Bd} {s : Int} {j : Nat} (h : j < L.length) : ((drift s L).getD j bd0).at_ = (L.getD j bd0).at_.add (Cl.mul s (L.getD j bd0).sp) := by
  unfold drift
  rw [getD_map L h]
theorem kickP_any {g cap : Nat} {ad : Option Addr} {L : List Bd} {s : Int} {w : World} (h : OSl w g ad L.length (fun j => L.getD j bd0)) (hl : L.length ≤ 12) (hm : mss L = true) (ha : ∀ j, j < L.length → (L.getD j bd0).at_.In 3458764513822638080) (hsp : ∀ j, j < L.length → (L.getD j bd0).sp.In 3458764513821589504) (hs : s = 1 ∨ s = -1) :
    Calls Tryd.prog 35 #[.slice ad L.length cap, .int .i64 s] w fun e w' => e = .returned (.tuple #[]) ∧ OSl w' g ad L.length (fun j => (kick s L).getD j bd0) ∧ Chg g w w' := by
  rcases h with ⟨rfl, h0⟩ | ⟨rfl, hF⟩
  · rw [h0]
    refine (kickP_nil cap s w).mono ?_
    rintro e w' ⟨rfl, rfl⟩
    exact ⟨rfl, .inl ⟨rfl, rfl⟩, Chg.refl _ _⟩
  · refine (kickP_row g cap L s w hF hl hm ha hsp hs).mono ?_
    rintro e w' ⟨rfl, h, c⟩
    exact ⟨rfl, .inr ⟨rfl, h⟩, c⟩
theorem driftP_any {g cap : Nat} {ad : Option Addr} {L : List Bd} {s : Int} {w : World} (h : OSl w g ad L.length (fun j => L.getD j bd0)) (hl : L.length ≤ 12) (ha : ∀ j, j < L.length → (L.getD j bd0).at_.In 1048576) (hsp : ∀ j, j < L.length → (L.getD j bd0).sp.In 3458764513821589504) (hs : s = 1 ∨ s = -1) :
    Calls Tryd.prog 36 #[.slice ad L.length cap, .int .i64 s] w fun e w' => e = .returned (.tuple #[]) ∧ OSl w' g ad L.length (fun j => (drift s L).getD j bd0) ∧ Chg g w w' := by
  rcases h with ⟨rfl, h0⟩ | ⟨rfl, hF⟩
  · rw [h0]
    refine (driftP_nil cap s w).mono ?_
    rintro e w' ⟨rfl, rfl⟩
    exact ⟨rfl, .inl ⟨rfl, rfl⟩, Chg.refl _ _⟩
  · refine (driftP_row g cap L s w hF hl ha hsp hs).mono ?_
    rintro e w' ⟨rfl, h, c⟩
    exact ⟨rfl, .inr ⟨rfl, h⟩, c⟩
theorem far_size {p q : Cl} {s : Int} (hs : s = 1 ∨ s = -1) (hp : p.In 1048576) (hq : q.In 3458764513821589504) : (p.add (Cl.mul s q)).In 3458764513822638080 := by
  obtain ⟨a1, a2, a3, a4, a5, a6⟩ := hp
  obtain ⟨b1, b2, b3, b4, b5, b6⟩ := hq
  rcases hs with rfl | rfl
  all_goals
    refine ⟨?_, ?_, ?_, ?_, ?_, ?_⟩
    all_goals
      simp only [Cl.add, Cl.mul]
      omega
theorem In.wide {p : Cl} {a b : Int} (h : p.In a) (k : a ≤ b) : p.In b := by
  obtain ⟨a1, a2, a3, a4, a5, a6⟩ := h
  exact ⟨by omega, by omega, by omega, by omega, by omega, by omega⟩
set_option maxHeartbeats 800000 in
theorem step_any {g cap : Nat} {ad : Option Addr} {L : List Bd} {s : Int} {w : World} (h : OSl w g ad L.length (fun j => L.getD j bd0)) (hG : Good L) (hs : s = 1 ∨ s = -1) :
    Calls Tryd.prog 25 #[.slice ad L.length cap, .int .i64 s] w fun e w' => e = .returned (.tuple #[]) ∧ OSl w' g ad L.length (fun j => (stepV s L).getD j bd0) ∧ Chg g w w' := by
  have s1 : ∀ j, j < L.length → ((kick s L).getD j bd0).sp.In 3458764513821589504 := fun j hj => kick_size hs hG.m hG.l hj (sps_all hG.s j hj)
  have k1 := fun u (hu : OSl u g ad L.length (fun j => L.getD j bd0)) => kickP_any (cap := cap) (s := s) hu hG.l hG.m (fun j hj => In.wide (ats_all hG.a j hj) (by decide)) (fun j hj => In.wide (sps_all hG.s j hj) (by decide)) hs
  have k2 := fun u (hu : OSl u g ad (kick s L).length (fun j => (kick s L).getD j bd0)) => driftP_any (cap := cap) (s := s) hu (by rw [kick_length]; exact hG.l) (fun j hj => by
    rw [kick_length] at hj
    rw [kick_at hj]
    exact ats_all hG.a j hj) (fun j hj => by
    rw [kick_length] at hj
    exact s1 j hj) hs
  have k3 := fun u (hu : OSl u g ad (drift s (kick s L)).length (fun j => (drift s (kick s L)).getD j bd0)) => kickP_any (cap := cap) (s := s) hu (by rw [drift_length, kick_length]; exact hG.l) (by rw [mss_drift, mss_kick]; exact hG.m) (fun j hj => by
    rw [drift_length, kick_length] at hj
    rw [drift_at (by rw [kick_length]; exact hj), kick_at hj]
    exact far_size hs (ats_all hG.a j hj) (s1 j hj)) (fun j hj => by
    rw [drift_length, kick_length] at hj
    rw [drift_sp (by rw [kick_length]; exact hj)]
    exact s1 j hj) hs
  simp only [drift_length, kick_length] at k2 k3
  unfold stepV
  have HS := hideR h
  clear h s1 hG hs
  generalize L.length = n at *
  go_enter Tryd.func25, Tryd.ntmps25
  go_wp2_with fail
  refine (k1 _ (unhideR HS)).mono ?_
  rintro e w1 ⟨rfl, h1, c1⟩
  have H1 := hideR h1
  have HC := hideR c1
  clear h1 c1 HS k1
  go_wp2_with fail
  refine (k2 _ (unhideR H1)).mono ?_
  rintro e w2 ⟨rfl, h1, c1⟩
  replace H1 := hideR h1
  replace HC := hideR ((unhideR HC).trans c1)
  clear h1 c1 k2
  go_wp2_with fail
  refine (k3 _ (unhideR H1)).mono ?_
  rintro e w3 ⟨rfl, h1, c1⟩
  replace H1 := hideR h1
  replace HC := hideR ((unhideR HC).trans c1)
  clear h1 c1 k3
  go_wp2
  simp [bodyPost, results, go_sem]
  exact ⟨unhideR H1, unhideR HC⟩
theorem isNaN_any (x : Int) (w : World) : Calls Tryd.prog 34 #[.int .i64 x] w fun e w' => e = .returned (.bool false) ∧ w' = w := by
  go_enter Tryd.func34, Tryd.ntmps34
  go_wp2
  go_ret
  exact ⟨rfl, rfl⟩
def cmpV (x : Int) : Int := if x < 0 then -1 else if 0 < x then 1 else 0
set_option maxHeartbeats 800000 in
theorem compare_any (x : Int) (w : World) : Calls Tryd.prog 24 #[.int .i64 x, .int .i64 0] w fun e w' => e = .returned (.int .i64 (cmpV x)) ∧ w' = w := by
  unfold cmpV
  by_cases h1 : x < 0
  · rw [if_pos h1]
    go_enter Tryd.func24, Tryd.ntmps24
    go_wp2_with (go_at_call 34; refine (isNaN_any _ _).mono ?_; rintro e w' ⟨rfl, rfl⟩)
    all_goals
      go_ret
      exact ⟨rfl, rfl⟩
  · rw [if_neg h1]
    by_cases h2 : 0 < x
    · rw [if_pos h2]
      go_enter Tryd.func24, Tryd.ntmps24
      go_wp2_with (go_at_call 34; refine (isNaN_any _ _).mono ?_; rintro e w' ⟨rfl, rfl⟩)
      all_goals
        go_ret
        exact ⟨rfl, rfl⟩
    · rw [if_neg h2]
      go_enter Tryd.func24, Tryd.ntmps24
      go_wp2_with (go_at_call 34; refine (isNaN_any _ _).mono ?_; rintro e w' ⟨rfl, rfl⟩)
      all_goals
        go_ret
        exact ⟨rfl, rfl⟩
theorem infoB : (Tryd.prog.info? 40).map (fun i => (i.zero, i.size, i.bytes)) = some (some bz, 7, 56) := by kernel_rfl
set_option maxRecDepth 100000 in
set_option maxHeartbeats 1600000 in
theorem copied_any {v : Value} {L : List Bd} {w : World} (h : BSl w v L) (hl : L.length ≤ 14) :
    Calls Tryd.prog 23 #[v] w fun e w' => ∃ g ad cap, e = .returned (.slice ad L.length cap) ∧ w.heap.size ≤ g ∧ (ad = none → cap = 0) ∧ OSl w' g ad L.length (fun j => L.getD j bd0) ∧ Below w.heap.size w w' := by
  obtain ⟨i0, hi, hz0, hz1, hz2⟩ := info_parts infoB
  cases h with
  | nil =>
    go_enter Tryd.func23, Tryd.ntmps23
    go_wp2
    go_ret
    exact ⟨w.heap.size, none, 0, rfl, Nat.le_refl _, fun _ => rfl, .inl ⟨rfl, rfl⟩, Below.refl _ _⟩
  | @row a0 cap L hc =>
    have HC := hideR hc
    clear hc
    go_enter Tryd.func23, Tryd.ntmps23
    go_wp2_with (first
      | (at_builtin; refine wpList_append_own _ rfl _ _ 25 rfl w.heap.size 40 i0 bz 7 56 Tryd.underlying25 hi hz0 hz1 hz2 rfl (by decide) _ _ _ rfl (World.ownsRow_nil _ _ _ _) a0 L.length cap (flatB L) rfl (flatB_length L) ?p1 ?p2 ?p3 ?p4 ?p5 ?_))
    case p1 => exact came_cells (unhideR HC)
    case p2 => exact flatB_one L
    case p3 => unfold maxLen; omega
    case p4 => omega
    case p5 => omega
    intro v' w2 hown hgrow _
    have HW := hideR ((Below.refl w.heap.size w).grown hgrow (Nat.le_refl _) (fun g h => by cases h))
    have hO : w2.ownsRow w.heap.size 40 7 v' L.length (flatB L) := by simpa using hown
    have HO := hideR (own_rowB hO)
    clear hown hgrow hO HC
    go_wp2
    go_ret
    rcases unhideR HO with ⟨rfl, h2⟩ | ⟨g, cap', rfl, hg, hF⟩
    · exact ⟨w.heap.size, none, 0, by rw [h2]; rfl, Nat.le_refl _, fun _ => rfl, .inl ⟨rfl, by rw [h2]; rfl⟩, unhideR HW⟩
    · exact ⟨g, _, cap', rfl, hg, fun e => (by cases e), .inr ⟨rfl, hF⟩, unhideR HW⟩
end Go.Proofs.YtdngkmobkbiflagDoor
