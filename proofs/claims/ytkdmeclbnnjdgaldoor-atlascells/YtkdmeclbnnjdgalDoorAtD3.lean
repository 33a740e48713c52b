/-
  The program's cells: a direction turned to a face.
-/
import Derived.Test.YtkdmeclbnnjdgalDoorAtD2
namespace Go.Proofs.YtkdmeclbnnjdgalDoor
open Go Go.RowKit

def tuB (d : Dr) (f : Int) : Dr := if f / 2 = 1 then ⟨d.y, d.x, d.z⟩ else if f / 2 = 2 then ⟨d.z, d.x, d.y⟩ else d
/-- a direction as it is seen from a face. -/
def tuV (d : Dr) (f : Int) : Dr := if f % 2 = 1 then ⟨-(tuB d f).x, (tuB d f).y, (tuB d f).z⟩ else tuB d f
set_option maxRecDepth 100000 in
set_option maxHeartbeats 3200000 in
theorem turned_any (p : Dr) (h1 : -1152921504606846976 ≤ p.x ∧ p.x ≤ 1152921504606846976) (h2 : -1152921504606846976 ≤ p.y ∧ p.y ≤ 1152921504606846976) (h3 : -1152921504606846976 ≤ p.z ∧ p.z ≤ 1152921504606846976) (f : Int) (hf : 0 ≤ f ∧ f < 6) (w : World) : Calls Tryd.prog 73 #[p.val, .int .i64 f] w fun e w' => e = .returned (tuV p f).val ∧ Below w.heap.size w w' := by
  have hf6 : f = 0 ∨ f = 1 ∨ f = 2 ∨ f = 3 ∨ f = 4 ∨ f = 5 := by omega
  obtain ⟨px, py, pz⟩ := p
  simp only at h1 h2 h3
  rcases hf6 with rfl | rfl | rfl | rfl | rfl | rfl
  · rw [show (tuV ⟨px, py, pz⟩ 0).val = .agg #[.int .i64 (px), .int .i64 py, .int .i64 pz] from rfl]
    unfold Dr.val
    clear hf
    go_enter Tryd.func73, Tryd.ntmps73
    go_wp2
    simp [bodyPost, results, Tryd.results73, go_sem]
    exact below_go (below_a w _) (below_a _ _)
  · rw [show (tuV ⟨px, py, pz⟩ 1).val = .agg #[.int .i64 (-px), .int .i64 py, .int .i64 pz] from rfl]
    unfold Dr.val
    clear hf
    go_enter Tryd.func73, Tryd.ntmps73
    go_wp2
    simp [bodyPost, results, Tryd.results73, go_sem]
    exact below_go (below_a w _) (below_a _ _)
  · rw [show (tuV ⟨px, py, pz⟩ 2).val = .agg #[.int .i64 (py), .int .i64 px, .int .i64 pz] from rfl]
    unfold Dr.val
    clear hf
    go_enter Tryd.func73, Tryd.ntmps73
    go_wp2
    simp [bodyPost, results, Tryd.results73, go_sem]
    exact below_go (below_a w _) (below_a _ _)
  · rw [show (tuV ⟨px, py, pz⟩ 3).val = .agg #[.int .i64 (-py), .int .i64 px, .int .i64 pz] from rfl]
    unfold Dr.val
    clear hf
    go_enter Tryd.func73, Tryd.ntmps73
    go_wp2
    simp [bodyPost, results, Tryd.results73, go_sem]
    exact below_go (below_a w _) (below_a _ _)
  · rw [show (tuV ⟨px, py, pz⟩ 4).val = .agg #[.int .i64 (pz), .int .i64 px, .int .i64 py] from rfl]
    unfold Dr.val
    clear hf
    go_enter Tryd.func73, Tryd.ntmps73
    go_wp2
    simp [bodyPost, results, Tryd.results73, go_sem]
    exact below_go (below_a w _) (below_a _ _)
  · rw [show (tuV ⟨px, py, pz⟩ 5).val = .agg #[.int .i64 (-pz), .int .i64 px, .int .i64 py] from rfl]
    unfold Dr.val
    clear hf
    go_enter Tryd.func73, Tryd.ntmps73
    go_wp2
    simp [bodyPost, results, Tryd.results73, go_sem]
    exact below_go (below_a w _) (below_a _ _)
end Go.Proofs.YtkdmeclbnnjdgalDoor
