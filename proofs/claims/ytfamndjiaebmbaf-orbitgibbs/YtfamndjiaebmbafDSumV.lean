/-
  The program's sum of vectors, by its contract.
-/
import Derived.Test.YtfamndjiaebmbafDVec
namespace Go.Proofs.Ytfamndjiaebmbaf
open Go Go.RowKit

def v30 : V3 := ⟨0, 0, 0⟩
/-- a row of vectors. -/
structure VRow (w : World) (b off : Nat) (L : List V3) : Prop where
  cx : ∀ j, j < L.length → w.cell? ⟨b, off + j * 3, none⟩ = some (.float .f64 (L.getD j v30).x)
  cy : ∀ j, j < L.length → w.cell? ⟨b, off + j * 3 + 1, none⟩ = some (.float .f64 (L.getD j v30).y)
  cz : ∀ j, j < L.length → w.cell? ⟨b, off + j * 3 + 2, none⟩ = some (.float .f64 (L.getD j v30).z)
theorem VRow.below {w v : World} {b off : Nat} {L : List V3} (h : VRow w b off L) {B : Nat} (k : Below B w v) (hb : b < B) : VRow v b off L :=
  ⟨fun j hj => (k.cell hb).trans (h.cx j hj), fun j hj => (k.cell hb).trans (h.cy j hj), fun j hj => (k.cell hb).trans (h.cz j hj)⟩
theorem alloc_last2 (w : World) (A B : Obj) : ((w.alloc A).alloc B).heap[w.heap.size + 1]? = some B := by
  have := alloc_last (w.alloc A) B
  simpa using this
/-- the sum of the first ones. -/
def SumK (p : V3) (L : List V3) : Nat → V3 → Prop
  | 0, r => r = p
  | k + 1, r => ∃ s, SumK p L k s ∧ BoV s (L.getD k v30) r
set_option maxRecDepth 100000 in
set_option maxHeartbeats 800000 in
theorem sumP_any (p : V3) (b off cap : Nat) (L : List V3) (w : World) (hr : VRow w b off L) (hl : L.length ≤ 200) (hb : b < w.heap.size) :
    Calls Try.prog 9 #[.agg #[.float .f64 p.x, .float .f64 p.y, .float .f64 p.z], .slice (some ⟨b, off, none⟩) L.length cap] w fun e w' => ∃ r : V3, e = .returned r.val ∧ SumK p L L.length r ∧ Below w.heap.size w w' := by
  have hsf := run_store_float Try.prog
  have HR := hideR hr
  clear hr
  go_enter Try.func9, Try.ntmps9
  go_wp2
  go_loopw [9] (fun kv wl => ∃ (k : Nat) (s : V3), k ≤ L.length ∧ kv = .int .i64 (k : Nat) ∧ HeldR (SumK p L k s) ∧ HeldR (VBox wl w.heap.size s) ∧ HeldR (VBox wl (w.heap.size + 1) v30) ∧ HeldR (Below w.heap.size w wl)) (fun kv _ => L.length + 1 - (intOf kv).toNat)
  case atStart => exact ⟨0, p, by omega, rfl, hideR rfl, hideR ((VBox.new w p).go (below_a _ _)), hideR ⟨alloc_last2 _ _ _⟩, hideR (below_al2 w _ _)⟩
  case round =>
    obtain ⟨k, s, hk, rfl, HS, HB, HZ, HW⟩ := hrel
    by_cases hlt : k < L.length
    · have hrow := (unhideR HR).below (unhideR HW) hb
      have c0 := hrow.cx k hlt
      have c1 := hrow.cy k hlt
      have c2 := hrow.cz k hlt
      have HN : HeldR (∀ r, BoV s (L.getD k v30) r → SumK p L (k + 1) r) := fun r h => ⟨s, unhideR HS, h⟩
      generalize L.getD k v30 = q at *
      clear hrow HS
      have lw := ltB (unhideR HZ).at_
      have hX := (unhideR HB).go (below_a wr (.cells #[.float .f64 q.x, .float .f64 q.y, .float .f64 q.z] 24))
      have hY := VBox.new wr q
      have hZ := (unhideR HZ).go (below_a wr (.cells #[.float .f64 q.x, .float .f64 q.y, .float .f64 q.z] 24))
      have hW := below_go (unhideR HW) (below_a wr (.cells #[.float .f64 q.x, .float .f64 q.y, .float .f64 q.z] 24))
      obtain ⟨⟨c10, c11, c12⟩, _⟩ := three_at hX.at_
      go_wp2_with fail
      generalize wr.alloc (.cells #[.float .f64 q.x, .float .f64 q.y, .float .f64 q.z] 24) = W1 at *
      refine upon_float four_add ?_
      intro x m1 h1
      obtain ⟨⟨d10, d11, d12⟩, g0, g1, g2⟩ := three_at hX.at_
      obtain ⟨⟨d20, d21, d22⟩, _⟩ := three_at hY.at_
      go_wp2_with fail
      refine upon_float four_add ?_
      intro y m2 h2
      go_wp2_with fail
      refine upon_float four_add ?_
      intro z m3 h3
      have HR2 := hideR (unhideR HN ⟨x, y, z⟩ ⟨h1, h2, h3⟩)
      go_wp2
      exact ⟨⟨k + 1, ⟨x, y, z⟩, by omega, by go_num, HR2, hideR (VBox.set (w := W1.drewN _) (q := s) ⟨hX.at_⟩ ⟨x, y, z⟩), hideR ⟨(set3_other (by omega)).trans hZ.at_⟩, hideR (below_three (below_drewN hW _) (by omega) _ _ _)⟩, by simp [intOf]; omega⟩
    · obtain rfl : k = L.length := by omega
      obtain ⟨⟨c0, c1, c2⟩, _⟩ := three_at (unhideR HB).at_
      obtain ⟨⟨z0, z1, z2⟩, f0, f1, f2⟩ := three_at (unhideR HZ).at_
      unfold v30 at z0 z1 z2
      go_wp2
      simp [bodyPost, results, Try.results9, go_sem, z0, z1, z2]
      exact ⟨s, rfl, unhideR HS, below_three (unhideR HW) (by omega) _ _ _⟩
end Go.Proofs.Ytfamndjiaebmbaf
