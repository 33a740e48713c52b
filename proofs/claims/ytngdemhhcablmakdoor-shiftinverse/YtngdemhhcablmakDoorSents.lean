/-
  THE SENTINELS OF PACKAGE api IN A WORLD ('Sents'), and package plain's Code of them by its contracts: 'code_nil', 'code_sent'. Numbers by tools/gen.py off the dump.
-/
import Derived.Test.YtngdemhhcablmakDoorAs
import Derived.WalkSpells
import Derived.WalkLawsBesides
namespace Go.Proofs.YtngdemhhcablmakDoor
open Go.RowKit Go.Extern.Stop Go.Stop Go.Extern

/-- What the walks lean on: where the ten sentinels lie, each in a row of cells of its own that is not frozen, no two the same; and the handle that errors.As takes. -/
structure Sents (w : World) (a : Nat → Addr) : Prop where
  g0 : w.cell? ⟨2, 0, none⟩ = some (.iface 120 (.pointer (some (a 0))))
  g1 : w.cell? ⟨1, 0, none⟩ = some (.iface 120 (.pointer (some (a 1))))
  g2 : w.cell? ⟨3, 0, none⟩ = some (.iface 120 (.pointer (some (a 2))))
  g3 : w.cell? ⟨4, 0, none⟩ = some (.iface 120 (.pointer (some (a 3))))
  g4 : w.cell? ⟨0, 0, none⟩ = some (.iface 120 (.pointer (some (a 4))))
  g5 : w.cell? ⟨5, 0, none⟩ = some (.iface 120 (.pointer (some (a 5))))
  g6 : w.cell? ⟨6, 0, none⟩ = some (.iface 120 (.pointer (some (a 6))))
  g7 : w.cell? ⟨7, 0, none⟩ = some (.iface 120 (.pointer (some (a 7))))
  g8 : w.cell? ⟨8, 0, none⟩ = some (.iface 120 (.pointer (some (a 8))))
  g9 : w.cell? ⟨9, 0, none⟩ = some (.iface 120 (.pointer (some (a 9))))
  et : w.cell? ⟨10, 0, none⟩ = some (.iface 106 (.agg #[.pointer (some ⟨12, 26, none⟩)]))
  row : ∀ k, k < 10 → ∃ c t, w.heap[(a k).block]? = some (.cells c t (0, 0))
  ne : ∀ i k, i < 10 → k < 10 → i ≠ k → a i ≠ a k
  big : 11 ≤ w.heap.size

theorem Sents.old {w : World} {a : Nat → Addr} (h : Sents w a) {k : Nat} (hk : k < 10) : (a k).block < w.heap.size := by
  obtain ⟨c, t, e⟩ := h.row k hk
  rcases Nat.lt_or_ge (a k).block w.heap.size with l | l
  · exact l
  · simp [Array.getElem?_eq_none l] at e

theorem Sents.below {w w' : World} {a : Nat → Addr} {B : Nat} (h : Sents w a) (b : Below B w w') (hB : w.heap.size ≤ B) : Sents w' a := by
  have hb := h.big
  have c : ∀ x, x < 11 → w'.cell? ⟨x, 0, none⟩ = w.cell? ⟨x, 0, none⟩ := fun x hx => b.cell (p := ⟨x, 0, none⟩) (show x < B by omega)
  refine ⟨?_, ?_, ?_, ?_, ?_, ?_, ?_, ?_, ?_, ?_, ?_, ?_, h.ne, Nat.le_trans hb b.size⟩
  · rw [c _ (by omega)]; exact h.g0
  · rw [c _ (by omega)]; exact h.g1
  · rw [c _ (by omega)]; exact h.g2
  · rw [c _ (by omega)]; exact h.g3
  · rw [c _ (by omega)]; exact h.g4
  · rw [c _ (by omega)]; exact h.g5
  · rw [c _ (by omega)]; exact h.g6
  · rw [c _ (by omega)]; exact h.g7
  · rw [c _ (by omega)]; exact h.g8
  · rw [c _ (by omega)]; exact h.g9
  · rw [c _ (by omega)]; exact h.et
  · intro k hk
    rw [b.block _ (Nat.lt_of_lt_of_le (h.old hk) hB)]
    exact h.row k hk

/-- errors.Is of two of the sentinels. -/
def same10 (i k : Nat) : Bool := decide (i = k)
theorem is_sent {w : World} {a : Nat → Addr} (h : Sents w a) (i k : Nat) (hi : i < 10) (hk : k < 10) :
    Calls Tryd.prog 46 #[.iface 120 (.pointer (some (a i))), .iface 120 (.pointer (some (a k)))] w fun e w' => e = .returned (.bool (same10 i k)) ∧ w' = w := by
  by_cases e : i = k
  · subst e
    have : same10 i i = true := by simp [same10]
    rw [this]
    exact is_same (a i) w
  · have : same10 i k = false := by simp [same10, e]
    rw [this]
    obtain ⟨ca, ta, ea⟩ := h.row i hi
    obtain ⟨cb, tb, eb⟩ := h.row k hk
    exact is_other (a i) (a k) ca cb ta tb w (h.ne i k hi hk e) ea eb

theorem code_nil (w : World) : Calls Tryd.prog 30 #[.nilIface] w fun e w' => e = .returned (.tuple #[.int .i64 0, .int .i64 (-1)]) ∧ w' = w := by
  go_enter Tryd.func30, Tryd.ntmps30
  go_wp2
  go_ret2
  exact ⟨rfl, rfl⟩

/-- The row of ten that Code makes. -/
def tenCells (a : Nat → Addr) : Array Value := #[.iface 120 (.pointer (some (a 0))), .iface 120 (.pointer (some (a 1))), .iface 120 (.pointer (some (a 2))), .iface 120 (.pointer (some (a 3))), .iface 120 (.pointer (some (a 4))), .iface 120 (.pointer (some (a 5))), .iface 120 (.pointer (some (a 6))), .iface 120 (.pointer (some (a 7))), .iface 120 (.pointer (some (a 8))), .iface 120 (.pointer (some (a 9)))]
theorem tenCells_at (a : Nat → Addr) (i : Nat) (h : i < 10) : (tenCells a)[i]? = some (.iface 120 (.pointer (some (a i)))) := by
  match i, h with
  | 0, _ => rfl
  | 1, _ => rfl
  | 2, _ => rfl
  | 3, _ => rfl
  | 4, _ => rfl
  | 5, _ => rfl
  | 6, _ => rfl
  | 7, _ => rfl
  | 8, _ => rfl
  | 9, _ => rfl

set_option maxHeartbeats 1000000 in
theorem code_sent {w : World} {a : Nat → Addr} (h : Sents w a) (k : Nat) (hk : k < 10) :
    Calls Tryd.prog 30 #[.iface 120 (.pointer (some (a k)))] w fun e w' => e = .returned (.tuple #[.int .i64 ((k : Int) + 1), .int .i64 (-1)]) ∧ Below w.heap.size w w' := by
  go_enter Tryd.func30, Tryd.ntmps30
  go_wp2_with fail
  have b1 : Below w.heap.size w (w.alloc (.cells #[.pointer none] 72)) := (Below.refl _ _).alloc (Nat.le_refl _) _
  have s1 := h.below b1 (Nat.le_refl _)
  refine (as_miss _ _ _ s1.et).mono ?_
  rintro e w2 ⟨rfl, hw2⟩
  have b2 : Below w.heap.size w w2 := by
    rw [hw2]
    exact (((b1.alloc (by simp) _).alloc (by simp; omega) _).alloc (by simp; omega) _)
  have z2 : w.heap.size ≤ w2.heap.size := b2.size
  clear hw2
  have s2 := h.below b2 (Nat.le_refl _)
  have e0 := s2.g0
  have e1 := s2.g1
  have e2 := s2.g2
  have e3 := s2.g3
  have e4 := s2.g4
  have e5 := s2.g5
  have e6 := s2.g6
  have e7 := s2.g7
  have e8 := s2.g8
  have e9 := s2.g9
  go_wp2
  have b3 : Below w.heap.size w (w2.alloc (.cells (tenCells a) 26)) := b2.alloc z2 _
  have s3 := h.below b3 (Nat.le_refl _)
  have c3 : ∀ i, i < 10 → (w2.alloc (.cells (tenCells a) 26)).cell? ⟨w2.heap.size, i, none⟩ = some (.iface 120 (.pointer (some (a i)))) := fun i hi => by
    rw [World.cell?_alloc_at _ _ _ _ rfl]
    exact tenCells_at a i hi
  clear e0 e1 e2 e3 e4 e5 e6 e7 e8 e9 s1 s2
  unfold tenCells at b3 s3 c3
  generalize w2.alloc _ = W3 at *
  go_loop [3, 28] (fun x t => ∃ i : Nat, i ≤ k ∧ t = .int .i64 i ∧ x = .int .i64 (-1)) (fun _ t => k + 1 - (intOf t).toNat)
  case atStart => exact ⟨0, Nat.zero_le _, rfl, rfl⟩
  case round =>
    obtain ⟨i, hik, rfl, rfl⟩ := hrel
    have hc := c3 i (by omega)
    have hi10 : (i : Int) < 10 := by omega
    by_cases he : i = k
    · subst he
      clear c3
      go_wp2_with (go_at_call 46; refine (is_same _ _).mono ?_; rintro e w' ⟨rfl, rfl⟩)
      go_ret2
      exact ⟨rfl, b3⟩
    · obtain ⟨ca, ta, ea⟩ := s3.row i (by omega)
      obtain ⟨cb, tb, eb⟩ := s3.row k (by omega)
      have hne := s3.ne k i (by omega) (by omega) (Ne.symm he)
      clear c3
      go_wp2_with (go_at_call 46; refine (is_other _ _ _ _ _ _ _ hne eb ea).mono ?_; rintro e w' ⟨rfl, rfl⟩)
      go_round
      case rel => exact ⟨i + 1, by omega, by go_num, rfl⟩
      case measure => simp [intOf]; omega
end Go.Proofs.YtngdemhhcablmakDoor
