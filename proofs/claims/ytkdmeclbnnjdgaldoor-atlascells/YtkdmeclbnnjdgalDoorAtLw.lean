/-
  The laws' copy of a cell.
-/
import Derived.Test.YtkdmeclbnnjdgalDoorAtLw0
namespace Go.Proofs.YtkdmeclbnnjdgalDoor
open Go Go.RowKit

set_option maxRecDepth 100000 in
set_option maxHeartbeats 3200000 in
theorem spotOf_any (s : Sq) (w : World) : Calls Tryd.prog 22 #[s.val] w fun e w' => e = .returned s.val ∧ Below w.heap.size w w' := by
  obtain ⟨sl, sm, ss, sh⟩ := s
  unfold Sq.val
  simp only
  have z1 := keepA (o' := .cells #[.int .i64 0, .int .i64 0, .int .i64 0, .int .i64 0] 58) (alloc_last w (.cells #[.int .i64 sl, .int .i64 sm, .int .i64 ss, .int .i64 sh] 56))
  have z2 : ((w.alloc (.cells #[.int .i64 sl, .int .i64 sm, .int .i64 ss, .int .i64 sh] 56)).alloc (.cells #[.int .i64 0, .int .i64 0, .int .i64 0, .int .i64 0] 58)).heap[w.heap.size + 1]? = some (.cells #[.int .i64 0, .int .i64 0, .int .i64 0, .int .i64 0] 58) := by
    have := alloc_last (w.alloc (.cells #[.int .i64 sl, .int .i64 sm, .int .i64 ss, .int .i64 sh] 56)) (.cells #[.int .i64 0, .int .i64 0, .int .i64 0, .int .i64 0] 58)
    simpa using this
  have HB := hideR (below_go (below_a w (.cells #[.int .i64 sl, .int .i64 sm, .int .i64 ss, .int .i64 sh] 56)) (below_a (w.alloc (.cells #[.int .i64 sl, .int .i64 sm, .int .i64 ss, .int .i64 sh] 56)) (.cells #[.int .i64 0, .int .i64 0, .int .i64 0, .int .i64 0] 58)))
  go_enter Tryd.func22, Tryd.ntmps22
  go_upto_region 1 with fail
  generalize (w.alloc (.cells #[.int .i64 sl, .int .i64 sm, .int .i64 ss, .int .i64 sh] 56)).alloc (.cells #[.int .i64 0, .int .i64 0, .int .i64 0, .int .i64 0] 58) = u at *
  obtain ⟨K, hK⟩ : ∃ K, w.heap.size = K := ⟨_, rfl⟩
  have HK := hideR hK
  rw [hK] at z1 z2 ⊢
  clear hK
  have x0 := (cells_at z1 0 (by simp)).1
  have x1 := (cells_at z1 1 (by simp)).1
  have x2 := (cells_at z1 2 (by simp)).1
  have x3 := (cells_at z1 3 (by simp)).1
  have o0 := (cells_at z2 0 (by simp)).1
  have f0 := (cells_at z2 0 (by simp)).2
  have o1 := (cells_at z2 1 (by simp)).1
  have f1 := (cells_at z2 1 (by simp)).2
  have o2 := (cells_at z2 2 (by simp)).1
  have f2 := (cells_at z2 2 (by simp)).2
  have o3 := (cells_at z2 3 (by simp)).1
  have f3 := (cells_at z2 3 (by simp)).2
  have HF := hideR (set4_blL (unhideR HB) (show w.heap.size ≤ K + 1 by have := unhideR HK; omega) (.int .i64 sl) (.int .i64 sm) (.int .i64 ss) (.int .i64 sh))
  clear z1 z2 HB HK
  go_wp2
  simp [bodyPost, results, Tryd.results22, go_sem, o0, o1, o2, o3]
  exact unhideR HF
end Go.Proofs.YtkdmeclbnnjdgalDoor
