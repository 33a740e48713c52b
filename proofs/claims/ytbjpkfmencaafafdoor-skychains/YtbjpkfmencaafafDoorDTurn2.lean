/-
  A turn about an axis: the program's, by its contract.
-/
import Derived.Test.YtbjpkfmencaafafDoorDTurn
namespace Go.Proofs.YtbjpkfmencaafafDoor
open Go Go.RowKit

set_option maxRecDepth 100000 in
set_option maxHeartbeats 8000000 in
theorem about_any (k d : Int) (x y z bc bs : Nat) (w : World) (hrd : Ready w bc bs d) :
    Calls Tryd.prog 17 #[.int .i64 k, .agg #[.float .f64 x, .float .f64 y, .float .f64 z], turnF bc bs] w fun e w' => ∃ v, e = .returned v ∧ TurnIs k d x y z v ∧ Below w.heap.size w w' := by
  have hsf := run_store_float Tryd.prog
  by_cases h0 : k = 0
  · subst h0
    go_enter Tryd.func17, Tryd.ntmps17
    unfold turnF
    go_wp2_with fail
    refine (turn1_any _ _ _ _ d _ (hrd.keep (below_al2 w _ _))).mono ?_
    rintro e w1 ⟨p, q, rfl, hp, hq, k1⟩
    obtain ⟨b0, b1, hBw⟩ := two_blocks k1
    have HW := hideR hBw
    have HP := hideR hp
    have HQ := hideR hq
    obtain ⟨⟨c0, c1, c2⟩, f0, f1, f2⟩ := three_at b0
    obtain ⟨⟨d0, d1, d2⟩, g0, g1, g2⟩ := three_at b1
    have l1 := ltB b1
    clear k1 b0 b1 hBw hp hq
    go_wp2
    simp [bodyPost, results, Tryd.results17, go_sem, d0, d1, d2]
    exact ⟨by unfold TurnIs; rw [if_pos rfl]; exact ⟨x, p, q, rfl, .num _, unhideR HP, unhideR HQ⟩, below_three (((unhideR HW).setCell (Nat.le_refl _) _).setCell (Nat.le_refl _) _) (by omega) _ _ _⟩
  by_cases h1 : k = 1
  · subst h1
    go_enter Tryd.func17, Tryd.ntmps17
    unfold turnF
    go_wp2_with fail
    refine (turn1_any _ _ _ _ d _ (hrd.keep (below_al2 w _ _))).mono ?_
    rintro e w1 ⟨p, q, rfl, hp, hq, k1⟩
    obtain ⟨b0, b1, hBw⟩ := two_blocks k1
    have HW := hideR hBw
    have HP := hideR hp
    have HQ := hideR hq
    obtain ⟨⟨c0, c1, c2⟩, f0, f1, f2⟩ := three_at b0
    obtain ⟨⟨d0, d1, d2⟩, g0, g1, g2⟩ := three_at b1
    have l1 := ltB b1
    clear k1 b0 b1 hBw hp hq
    go_wp2
    simp [bodyPost, results, Tryd.results17, go_sem, d0, d1, d2]
    exact ⟨by unfold TurnIs; rw [if_neg h0, if_pos rfl]; exact ⟨q, y, p, rfl, unhideR HQ, .num _, unhideR HP⟩, below_three (((unhideR HW).setCell (Nat.le_refl _) _).setCell (Nat.le_refl _) _) (by omega) _ _ _⟩
  · skip
    go_enter Tryd.func17, Tryd.ntmps17
    unfold turnF
    go_wp2_with fail
    refine (turn1_any _ _ _ _ d _ (hrd.keep (below_al2 w _ _))).mono ?_
    rintro e w1 ⟨p, q, rfl, hp, hq, k1⟩
    obtain ⟨b0, b1, hBw⟩ := two_blocks k1
    have HW := hideR hBw
    have HP := hideR hp
    have HQ := hideR hq
    obtain ⟨⟨c0, c1, c2⟩, f0, f1, f2⟩ := three_at b0
    obtain ⟨⟨d0, d1, d2⟩, g0, g1, g2⟩ := three_at b1
    have l1 := ltB b1
    clear k1 b0 b1 hBw hp hq
    go_wp2
    simp [bodyPost, results, Tryd.results17, go_sem, d0, d1, d2]
    exact ⟨by unfold TurnIs; rw [if_neg h0, if_neg h1]; exact ⟨p, q, z, rfl, unhideR HP, unhideR HQ, .num _⟩, below_three (((unhideR HW).setCell (Nat.le_refl _) _).setCell (Nat.le_refl _) _) (by omega) _ _ _⟩
end Go.Proofs.YtbjpkfmencaafafDoor
