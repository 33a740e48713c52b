/-
  The law Names, walked: the constants, then each two errors, then each error's number.
-/
import Derived.Test.YtilihjjkndlihaaDoorSents
import Derived.Deep.QuietTactic
import Derived.BigQuiet
namespace Go.Proofs.YtilihjjkndlihaaDoor
open Go.RowKit Go.Extern.Stop Go.Stop Go.Extern

theorem coded_sent {w : World} {a : Nat → Addr} (h : Sents w a) (k : Nat) (hk : k < 10) :
    Calls Tryd.prog 5 #[.iface 64 (.pointer (some (a k))), .int .i64 ((k : Int) + 1)] w fun e w' => e = .returned (.bool true) ∧ Below w.heap.size w w' := by
  go_enter Tryd.func5, Tryd.ntmps5
  go_wp2_with (go_at_call 8; refine (code_sent h k hk).mono ?_; rintro e w' ⟨rfl, hb⟩)
  go_ret
  exact ⟨by simp, hb⟩

set_option maxHeartbeats 1000000 in
theorem names_any {w : World} {a : Nat → Addr} (h : Sents w a) :
    Calls Tryd.prog 3 #[] w fun e w' => e = .returned (.bool true) ∧ Below w.heap.size w w' := by
  have e0 := h.g0
  have e1 := h.g1
  have e2 := h.g2
  have e3 := h.g3
  have e4 := h.g4
  have e5 := h.g5
  have e6 := h.g6
  have e7 := h.g7
  have e8 := h.g8
  have e9 := h.g9
  go_enter Tryd.func3, Tryd.ntmps3
  go_wp2
  have b3 : Below w.heap.size w (w.alloc (.cells (tenCells a) 23)) := (Below.refl _ _).alloc (Nat.le_refl _) _
  have s3 := h.below b3 (Nat.le_refl _)
  have c3 : ∀ i, i < 10 → (w.alloc (.cells (tenCells a) 23)).cell? ⟨w.heap.size, i, none⟩ = some (.iface 64 (.pointer (some (a i)))) := fun i hi => by
    rw [World.cell?_alloc_at _ _ _ _ rfl]
    exact tenCells_at a i hi
  have z3 : w.heap.size < (w.alloc (.cells (tenCells a) 23)).heap.size := by simp
  clear e0 e1 e2 e3 e4 e5 e6 e7 e8 e9
  unfold tenCells at b3 s3 c3 z3
  generalize w.alloc _ = W3 at *
  go_loopw [4, 5, 6, 7] (fun i _ _ _ wr => ∃ n : Nat, n ≤ 10 ∧ i = .int .i64 n ∧ Below W3.heap.size W3 wr) (fun i _ _ _ _ => 10 - (intOf i).toNat)
  case atStart => exact ⟨0, by omega, rfl, Below.refl _ _⟩
  case round =>
    obtain ⟨n, hn, rfl, hb⟩ := hrel
    have hn' : (n : Int) ≤ 10 := by omega
    by_cases hlt : n < 10
    · go_wp2
      go_loopw [5, 6] (fun k _ wr' => ∃ m : Nat, m ≤ n ∧ k = .int .i64 m ∧ Below W3.heap.size W3 wr') (fun k _ _ => n - (intOf k).toNat)
      case atStart => exact ⟨0, by omega, rfl, hb⟩
      case round =>
        obtain ⟨m, hm, rfl, hb2⟩ := hrel
        have sW := s3.below hb2 (Nat.le_refl _)
        have cn : wr.cell? ⟨w.heap.size, n, none⟩ = some (.iface 64 (.pointer (some (a n)))) := by rw [hb2.cell z3]; exact c3 n hlt
        by_cases hmlt : m < n
        · have cm : wr.cell? ⟨w.heap.size, m, none⟩ = some (.iface 64 (.pointer (some (a m)))) := by rw [hb2.cell z3]; exact c3 m (by omega)
          obtain ⟨ca, ta, ea⟩ := sW.row n hlt
          obtain ⟨cb, tb, eb⟩ := sW.row m (by omega)
          have hne := sW.ne n m hlt (by omega) (by omega)
          clear c3
          go_wp2
          go_quiet ((go_at_call 4; exact Calls.quiet_of_same (is_other _ _ _ _ _ _ _ hne ea eb)))
          go_wp2
          exact ⟨⟨m + 1, by omega, by go_num, below_drewN hb2 _⟩, by simp [intOf]; omega⟩
        · clear c3
          go_wp2_with (go_at_call 5; refine (coded_sent sW n hlt).mono ?_; rintro e w' ⟨rfl, hb5⟩)
          exact ⟨⟨n + 1, by omega, by go_num, hb2.trans (hb5.mono hb2.size)⟩, by simp [intOf]; omega⟩
    · go_wp2
      go_ret
      exact ⟨rfl, b3.trans (hb.mono (by omega))⟩
end Go.Proofs.YtilihjjkndlihaaDoor
