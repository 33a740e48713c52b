/-
  The program's cells: the face of a direction, turned, its cell. The program's cells: a direction turned to a face.
-/
import Derived.Test.YtfonpobdnhifgamGreatDoorAtD1
import Derived.Deep.RegionWith
import Derived.Deep.QuietTactic
import Derived.Deep.CutRange
namespace Go.Proofs.YtfonpobdnhifgamGreatDoor
open Go Go.RowKit

theorem drewF {B : Nat} {w u : World} (h : Below B w u) : Below B w u.drew := ⟨h.os, h.tape, h.output, h.size, h.block⟩
theorem sz_bd {n b : Int} (h1 : -b ≤ n) (h2 : n ≤ b) : szV n ≤ b := by
  unfold szV
  split <;> omega
set_option maxRecDepth 100000 in
set_option maxHeartbeats 3200000 in
theorem face_any (p : Dr) (hp : dirB p = true) (w : World) : Calls Tryz.prog 74 #[p.val] w fun e w' => e = .returned (.int .i64 (faV p)) ∧ Below w.heap.size w w' := by
  have hb := dir_is hp
  have sx := fun u => psize_any p.x (by omega) (by omega) u
  have sy := fun u => psize_any p.y (by omega) (by omega) u
  have sz := fun u => psize_any p.z (by omega) (by omega) u
  have HB := hideR (below_a w (.cells #[.int .i64 p.x, .int .i64 p.y, .int .i64 p.z] 24))
  have hz := alloc_last w (.cells #[.int .i64 p.x, .int .i64 p.y, .int .i64 p.z] 24)
  have x0 := (cells_at hz 0 (by simp)).1
  have x1 := (cells_at hz 1 (by simp)).1
  have x2 := (cells_at hz 2 (by simp)).1
  obtain ⟨F, hF⟩ : ∃ F, faV p = F := ⟨_, rfl⟩
  rw [hF]
  have HF := hideR hF
  have HA : HeldR (axV p = if szV p.x < szV p.y then (if szV p.y < szV p.z then 2 else 1) else if szV p.x < szV p.z then 2 else 0) := hideR rfl
  clear hF hz hp hb
  unfold Dr.val
  generalize szV p.x = X at *
  generalize szV p.y = Y at *
  generalize szV p.z = Z at *
  have fin : ∀ (k : Nat) (c : Int), axV p = k → atV p k = c → (c < 0 → F = 2 * k + 1) ∧ (0 ≤ c → F = 2 * k) := by
    intro k c h1 h2
    have h := unhideR HF
    unfold faV at h
    rw [h1, h2] at h
    constructor
    · intro hc
      rw [if_pos hc] at h
      exact h.symm
    · intro hc
      rw [if_neg (by omega)] at h
      exact h.symm
  have ha := unhideR HA
  clear HA
  by_cases q1 : X < Y
  · have d1 : decide (X < Y) = true := decide_eq_true q1
    rw [if_pos q1] at ha
    by_cases q2 : Y < Z
    · have d2 : decide (Y < Z) = true := decide_eq_true q2
      rw [if_pos q2] at ha
      have HQ := hideR (fin 2 p.z ha rfl)
      clear fin ha q1 q2
      go_enter Tryz.func74, Tryz.ntmps74
      go_wp2
      go_region
      all_goals (go_wp2_with fail; refine (sy _).mono ?_; rintro e v ⟨rfl, rfl⟩)
      all_goals (go_wp2_with fail; refine (sx _).mono ?_; rintro e v ⟨rfl, rfl⟩)
      all_goals (go_wp2_with fail; go_region)
      all_goals (go_wp2_with fail; refine (sz _).mono ?_; rintro e v ⟨rfl, rfl⟩)
      all_goals (go_wp2_with fail; refine (sy _).mono ?_; rintro e v ⟨rfl, rfl⟩)
      all_goals (go_wp2_with fail; go_region)
      all_goals (by_cases q3 : p.z < 0)
      all_goals go_wp2
      all_goals go_ret
      all_goals refine ⟨congrArg (fun z => Ending.returned (.int .i64 z)) ?_, by first | exact unhideR HB | exact drewF (unhideR HB) | exact drewF (drewF (unhideR HB)) | exact drewF (drewF (drewF (unhideR HB)))⟩
      all_goals first | (rw [(unhideR HQ).1 (by assumption)]; rfl) | (rw [(unhideR HQ).2 (by omega)]; rfl)
    · have d2 : decide (Y < Z) = false := decide_eq_false q2
      rw [if_neg q2] at ha
      have HQ := hideR (fin 1 p.y ha rfl)
      clear fin ha q1 q2
      go_enter Tryz.func74, Tryz.ntmps74
      go_wp2
      go_region
      all_goals (go_wp2_with fail; refine (sy _).mono ?_; rintro e v ⟨rfl, rfl⟩)
      all_goals (go_wp2_with fail; refine (sx _).mono ?_; rintro e v ⟨rfl, rfl⟩)
      all_goals (go_wp2_with fail; go_region)
      all_goals (go_wp2_with fail; refine (sz _).mono ?_; rintro e v ⟨rfl, rfl⟩)
      all_goals (go_wp2_with fail; refine (sy _).mono ?_; rintro e v ⟨rfl, rfl⟩)
      all_goals (by_cases q3 : p.y < 0)
      all_goals go_wp2
      all_goals go_ret
      all_goals refine ⟨congrArg (fun z => Ending.returned (.int .i64 z)) ?_, by first | exact unhideR HB | exact drewF (unhideR HB) | exact drewF (drewF (unhideR HB)) | exact drewF (drewF (drewF (unhideR HB)))⟩
      all_goals first | (rw [(unhideR HQ).1 (by assumption)]; rfl) | (rw [(unhideR HQ).2 (by omega)]; rfl)
  · have d1 : decide (X < Y) = false := decide_eq_false q1
    rw [if_neg q1] at ha
    by_cases q2 : X < Z
    · have d2 : decide (X < Z) = true := decide_eq_true q2
      rw [if_pos q2] at ha
      have HQ := hideR (fin 2 p.z ha rfl)
      clear fin ha q1 q2
      go_enter Tryz.func74, Tryz.ntmps74
      go_wp2
      go_region
      all_goals (go_wp2_with fail; refine (sy _).mono ?_; rintro e v ⟨rfl, rfl⟩)
      all_goals (go_wp2_with fail; refine (sx _).mono ?_; rintro e v ⟨rfl, rfl⟩)
      all_goals (go_wp2_with fail; refine (sz _).mono ?_; rintro e v ⟨rfl, rfl⟩)
      all_goals (go_wp2_with fail; refine (sx _).mono ?_; rintro e v ⟨rfl, rfl⟩)
      all_goals (go_wp2_with fail; go_region)
      all_goals (by_cases q3 : p.z < 0)
      all_goals go_wp2
      all_goals go_ret
      all_goals refine ⟨congrArg (fun z => Ending.returned (.int .i64 z)) ?_, by first | exact unhideR HB | exact drewF (unhideR HB) | exact drewF (drewF (unhideR HB)) | exact drewF (drewF (drewF (unhideR HB)))⟩
      all_goals first | (rw [(unhideR HQ).1 (by assumption)]; rfl) | (rw [(unhideR HQ).2 (by omega)]; rfl)
    · have d2 : decide (X < Z) = false := decide_eq_false q2
      rw [if_neg q2] at ha
      have HQ := hideR (fin 0 p.x ha rfl)
      clear fin ha q1 q2
      go_enter Tryz.func74, Tryz.ntmps74
      go_wp2
      go_region
      all_goals (go_wp2_with fail; refine (sy _).mono ?_; rintro e v ⟨rfl, rfl⟩)
      all_goals (go_wp2_with fail; refine (sx _).mono ?_; rintro e v ⟨rfl, rfl⟩)
      all_goals (go_wp2_with fail; refine (sz _).mono ?_; rintro e v ⟨rfl, rfl⟩)
      all_goals (go_wp2_with fail; refine (sx _).mono ?_; rintro e v ⟨rfl, rfl⟩)
      all_goals (by_cases q3 : p.x < 0)
      all_goals go_wp2
      all_goals go_ret
      all_goals refine ⟨congrArg (fun z => Ending.returned (.int .i64 z)) ?_, by first | exact unhideR HB | exact drewF (unhideR HB) | exact drewF (drewF (unhideR HB)) | exact drewF (drewF (drewF (unhideR HB)))⟩
      all_goals first | (rw [(unhideR HQ).1 (by assumption)]; rfl) | (rw [(unhideR HQ).2 (by omega)]; rfl)
end Go.Proofs.YtfonpobdnhifgamGreatDoor
namespace Go.Proofs.YtfonpobdnhifgamGreatDoor
open Go Go.RowKit

def tuB (d : Dr) (f : Int) : Dr := if f / 2 = 1 then ⟨d.y, d.x, d.z⟩ else if f / 2 = 2 then ⟨d.z, d.x, d.y⟩ else d
/-- a direction as it is seen from a face. -/
def tuV (d : Dr) (f : Int) : Dr := if f % 2 = 1 then ⟨-(tuB d f).x, (tuB d f).y, (tuB d f).z⟩ else tuB d f
set_option maxRecDepth 100000 in
set_option maxHeartbeats 3200000 in
theorem turned_any (p : Dr) (h1 : -1152921504606846976 ≤ p.x ∧ p.x ≤ 1152921504606846976) (h2 : -1152921504606846976 ≤ p.y ∧ p.y ≤ 1152921504606846976) (h3 : -1152921504606846976 ≤ p.z ∧ p.z ≤ 1152921504606846976) (f : Int) (hf : 0 ≤ f ∧ f < 6) (w : World) : Calls Tryz.prog 75 #[p.val, .int .i64 f] w fun e w' => e = .returned (tuV p f).val ∧ Below w.heap.size w w' := by
  have hf6 : f = 0 ∨ f = 1 ∨ f = 2 ∨ f = 3 ∨ f = 4 ∨ f = 5 := by omega
  obtain ⟨px, py, pz⟩ := p
  simp only at h1 h2 h3
  rcases hf6 with rfl | rfl | rfl | rfl | rfl | rfl
  · rw [show (tuV ⟨px, py, pz⟩ 0).val = .agg #[.int .i64 (px), .int .i64 py, .int .i64 pz] from rfl]
    unfold Dr.val
    clear hf
    go_enter Tryz.func75, Tryz.ntmps75
    go_wp2
    simp [bodyPost, results, Tryz.results75, go_sem]
    exact below_go (below_a w _) (below_a _ _)
  · rw [show (tuV ⟨px, py, pz⟩ 1).val = .agg #[.int .i64 (-px), .int .i64 py, .int .i64 pz] from rfl]
    unfold Dr.val
    clear hf
    go_enter Tryz.func75, Tryz.ntmps75
    go_wp2
    simp [bodyPost, results, Tryz.results75, go_sem]
    exact below_go (below_a w _) (below_a _ _)
  · rw [show (tuV ⟨px, py, pz⟩ 2).val = .agg #[.int .i64 (py), .int .i64 px, .int .i64 pz] from rfl]
    unfold Dr.val
    clear hf
    go_enter Tryz.func75, Tryz.ntmps75
    go_wp2
    simp [bodyPost, results, Tryz.results75, go_sem]
    exact below_go (below_a w _) (below_a _ _)
  · rw [show (tuV ⟨px, py, pz⟩ 3).val = .agg #[.int .i64 (-py), .int .i64 px, .int .i64 pz] from rfl]
    unfold Dr.val
    clear hf
    go_enter Tryz.func75, Tryz.ntmps75
    go_wp2
    simp [bodyPost, results, Tryz.results75, go_sem]
    exact below_go (below_a w _) (below_a _ _)
  · rw [show (tuV ⟨px, py, pz⟩ 4).val = .agg #[.int .i64 (pz), .int .i64 px, .int .i64 py] from rfl]
    unfold Dr.val
    clear hf
    go_enter Tryz.func75, Tryz.ntmps75
    go_wp2
    simp [bodyPost, results, Tryz.results75, go_sem]
    exact below_go (below_a w _) (below_a _ _)
  · rw [show (tuV ⟨px, py, pz⟩ 5).val = .agg #[.int .i64 (-pz), .int .i64 px, .int .i64 py] from rfl]
    unfold Dr.val
    clear hf
    go_enter Tryz.func75, Tryz.ntmps75
    go_wp2
    simp [bodyPost, results, Tryz.results75, go_sem]
    exact below_go (below_a w _) (below_a _ _)
end Go.Proofs.YtfonpobdnhifgamGreatDoor
