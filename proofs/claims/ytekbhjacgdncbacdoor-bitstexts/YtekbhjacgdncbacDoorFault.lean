/-
  package plain's Code of an api.Fault that wraps a sentinel.
-/
import Derived.Test.YtekbhjacgdncbacDoorSents
import Derived.Test.YtekbhjacgdncbacDoorAsHit
namespace Go.Proofs.YtekbhjacgdncbacDoor
open Go.RowKit Go.Extern.Stop Go.Stop Go.Extern

set_option maxHeartbeats 1000000 in
theorem code_fault {w : World} {a : Nat → Addr} (h : Sents w a) (k : Nat) (hk : k < 10) (fb : Nat) (n : Int) (hA : w.cell? ⟨fb, 0, none⟩ = some (.int .i64 n)) (hE : w.cell? ⟨fb, 1, none⟩ = some (.iface 83 (.pointer (some (a k))))) :
    Calls Tryd.prog 15 #[.iface 43 (.pointer (some ⟨fb, 0, none⟩))] w fun e w' => e = .returned (.tuple #[.int .i64 ((k : Int) + 1), .int .i64 n]) ∧ Below w.heap.size w w' := by
  have hfb : fb < w.heap.size := by
    rcases Nat.lt_or_ge fb w.heap.size with l | l
    · exact l
    · simp [World.cell?, Array.getElem?_eq_none l] at hA
  go_enter Tryd.func15, Tryd.ntmps15
  go_wp2_with fail
  have b1 : Below w.heap.size w (w.alloc (.cells #[.pointer none] 43)) := (Below.refl _ _).alloc (Nat.le_refl _) _
  have s1 := h.below b1 (Nat.le_refl _)
  refine (as_hit _ _ (.pointer none) _ s1.et (by simp) (by simp)).mono ?_
  rintro e w2 ⟨rfl, hw2⟩
  have b2 : Below w.heap.size w w2 := by
    rw [hw2]
    exact ((((b1.alloc (by simp) _).alloc (by simp; omega) _).alloc (by simp; omega) _).alloc (by simp; omega) _).setCell (by simp) _
  have t2 : w2.cell? ⟨w.heap.size, 0, none⟩ = some (.pointer (some ⟨fb, 0, none⟩)) := by
    rw [hw2]
    refine World.cell?_setCell_same _ _ _ (u := .pointer none) ?_
    rw [World.cell?_alloc_lt _ _ ⟨w.heap.size, 0, none⟩ (by simp; omega), World.cell?_alloc_lt _ _ ⟨w.heap.size, 0, none⟩ (by simp; omega), World.cell?_alloc_lt _ _ ⟨w.heap.size, 0, none⟩ (by simp; omega), World.cell?_alloc_lt _ _ ⟨w.heap.size, 0, none⟩ (by simp)]
    simp
  have z2 : w.heap.size ≤ w2.heap.size := b2.size
  have hA2 : w2.cell? ⟨fb, 0, none⟩ = some (.int .i64 n) := by rw [b2.cell hfb]; exact hA
  clear hw2
  have s2 := h.below b2 (Nat.le_refl _)
  have e0 := s2.g0
  have e1 := s2.g1
  have e2 := s2.g2
  have e3 := s2.g3
  have e4 := s2.g4
  have e5 := s2.g5
  have e6 := s2.g6
  have e7 := s2.g7
  have e8 := s2.g8
  have e9 := s2.g9
  go_wp2
  have b3 : Below w.heap.size w (w2.alloc (.cells (tenCells a) 25)) := b2.alloc z2 _
  have s3 := h.below b3 (Nat.le_refl _)
  have c3 : ∀ i, i < 10 → (w2.alloc (.cells (tenCells a) 25)).cell? ⟨w2.heap.size, i, none⟩ = some (.iface 83 (.pointer (some (a i)))) := fun i hi => by
    rw [World.cell?_alloc_at _ _ _ _ rfl]
    exact tenCells_at a i hi
  have hE3 : (w2.alloc (.cells (tenCells a) 25)).cell? ⟨fb, 0 + 1, none⟩ = some (.iface 83 (.pointer (some (a k)))) := by rw [b3.cell hfb]; exact hE
  clear e0 e1 e2 e3 e4 e5 e6 e7 e8 e9 s1 s2 t2 hA2
  unfold tenCells at b3 s3 c3 hE3
  generalize w2.alloc _ = W3 at *
  go_loop [3, 28] (fun x t => ∃ i : Nat, i ≤ k ∧ t = .int .i64 i ∧ x = .int .i64 n) (fun _ t => k + 1 - (intOf t).toNat)
  case atStart => exact ⟨0, Nat.zero_le _, rfl, rfl⟩
  case round =>
    obtain ⟨i, hik, rfl, rfl⟩ := hrel
    have hc := c3 i (by omega)
    have hi10 : (i : Int) < 10 := by omega
    by_cases he : i = k
    · subst he
      clear c3
      go_wp2_with (go_at_call 17; refine (is_fault_same fb 0 _ _ hE3).mono ?_; rintro e w' ⟨rfl, rfl⟩)
      go_ret2
      exact ⟨rfl, b3⟩
    · obtain ⟨ca, ta, ea⟩ := s3.row i (by omega)
      obtain ⟨cb, tb, eb⟩ := s3.row k (by omega)
      have hne := s3.ne k i (by omega) (by omega) (Ne.symm he)
      clear c3
      go_wp2_with (go_at_call 17; refine (is_fault_other fb 0 _ _ _ _ _ _ _ hE3 hne eb ea).mono ?_; rintro e w' ⟨rfl, rfl⟩)
      go_round
      case rel => exact ⟨i + 1, by omega, by go_num, rfl⟩
      case measure => simp [intOf]; omega
end Go.Proofs.YtekbhjacgdncbacDoor
