/-
  Rows of bodies in memory; places less and more: the document's, by contracts.
-/
import Derived.Test.YtdngkmobkbiflagDoorPullW
import Derived.Test.YtdngkmobkbiflagDoorBod2
namespace Go.Proofs.YtdngkmobkbiflagDoor
open Go Go.RowKit

set_option maxHeartbeats 800000 in
theorem less_any (a b : Cl) (w : World) (ha : a.In 1048576) (hb : b.In 1048576) : Calls Tryd.prog 21 #[.agg #[.int .i64 a.x, .int .i64 a.y, .int .i64 a.z], .agg #[.int .i64 b.x, .int .i64 b.y, .int .i64 b.z]] w fun e w' => e = .returned (a.sub b).val ∧ Below w.heap.size w w' := by
  obtain ⟨a1, a2, a3, a4, a5, a6⟩ := ha
  obtain ⟨b1, b2, b3, b4, b5, b6⟩ := hb
  go_enter Tryd.func21, Tryd.ntmps21
  go_wp2
  simp [bodyPost, results, Tryd.results21, go_sem]
  exact ⟨rfl, below_al3 w _ _ _⟩
/-- no coordinate of a sum is too great. -/
structure MoreOk (a : Cl) (k : Int) (b : Cl) : Prop where
  x1 : -9223372036854775808 ≤ k * b.x ∧ k * b.x ≤ 9223372036854775807
  x2 : -9223372036854775808 ≤ a.x + k * b.x ∧ a.x + k * b.x ≤ 9223372036854775807
  y1 : -9223372036854775808 ≤ k * b.y ∧ k * b.y ≤ 9223372036854775807
  y2 : -9223372036854775808 ≤ a.y + k * b.y ∧ a.y + k * b.y ≤ 9223372036854775807
  z1 : -9223372036854775808 ≤ k * b.z ∧ k * b.z ≤ 9223372036854775807
  z2 : -9223372036854775808 ≤ a.z + k * b.z ∧ a.z + k * b.z ≤ 9223372036854775807
set_option maxHeartbeats 800000 in
theorem more_any (a : Cl) (k : Int) (b : Cl) (w : World) (h : MoreOk a k b) : Calls Tryd.prog 18 #[.agg #[.int .i64 a.x, .int .i64 a.y, .int .i64 a.z], .int .i64 k, .agg #[.int .i64 b.x, .int .i64 b.y, .int .i64 b.z]] w fun e w' => e = .returned (a.add (Cl.mul k b)).val ∧ Below w.heap.size w w' := by
  obtain ⟨x1, x2, y1, y2, z1, z2⟩ := h
  go_enter Tryd.func18, Tryd.ntmps18
  go_wp2
  simp [bodyPost, results, Tryd.results18, go_sem]
  exact ⟨rfl, below_al3 w _ _ _⟩
end Go.Proofs.YtdngkmobkbiflagDoor
