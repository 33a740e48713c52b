/-
  The program's exact sums: held against each other, taken away, by their contracts.
-/
import Derived.Test.YtbobnmaeiohnnacExact2
import Derived.Deep.QuietTactic
namespace Go.Proofs.Ytbobnmaeiohnnac
open Go Go.RowKit

theorem dv_not_less {v u : Nat → Nat} (h : ∀ j, 0 ≤ j → j < 34 → v j = u j) : ¬ dv 64 v 34 < dv 64 u 34 := by
  rw [dv_congr (v := v) (u := u) fun j hj => h j (Nat.zero_le _) hj]
  exact Nat.lt_irrefl _
theorem two64 : (2 : Nat) ^ 64 = 18446744073709551616 := by decide
theorem dv_decides {v u : Nat → Nat} {i : Nat} (hi : i < 34) (hv : ∀ j, v j < 18446744073709551616) (hu : ∀ j, u j < 18446744073709551616) (he : ∀ j, i < j → j < 34 → v j = u j) (hne : v i ≠ u i) :
    decide (dv 64 v 34 < dv 64 u 34) = decide (v i < u i) := by
  rcases Nat.lt_or_gt_of_ne hne with h | h
  · have h1 := dv_less (b := 64) hi (fun j _ => by rw [two64]; exact hv j) (fun j _ => by rw [two64]; exact hu j) he h
    rw [decide_eq_true h1, decide_eq_true h]
  · have h1 := dv_less (b := 64) hi (fun j _ => by rw [two64]; exact hu j) (fun j _ => by rw [two64]; exact hv j) (fun j a b => (he j a b).symm) h
    rw [decide_eq_false (Nat.lt_asymm h1), decide_eq_false (Nat.lt_asymm h)]
set_option maxHeartbeats 2000000 in
theorem exact_less (g h : Nat) (v u : Nat → Nat) (w : World) (hs : Sum64 w g v) (ht : Sum64 w h u) (B : Bool) (hB : B = decide (dv 64 v 34 < dv 64 u 34)) :
    Calls Try.prog 25 #[.pointer (some ⟨g, 0, none⟩), .pointer (some ⟨h, 0, none⟩)] w fun e w' => e = .returned (.bool B) ∧ ∃ n, w' = w.drewN n := by
  have HB := hideE hB
  clear hB
  go_enter Try.func25, Try.ntmps25
  go_wp2
  go_loopw [5] (fun iv wl => ∃ (i n : Nat), i ≤ 34 ∧ iv = .int .i64 ((i : Int) - 1) ∧ wl = w.drewN n ∧ HeldE (∀ j, i ≤ j → j < 34 → v j = u j)) (fun iv _ => (intOf iv + 1).toNat)
  case atStart => exact ⟨34, 0, by omega, rfl, rfl, fun j h1 h2 => absurd h1 (by omega)⟩
  case round =>
    obtain ⟨i, n, hi, rfl, rfl, HE⟩ := hrel
    cases i with
    | zero =>
      have hb : B = false := by
        rw [unhideE HB, decide_eq_false_iff_not]
        exact dv_not_less (unhideE HE)
      have HBF := hideE hb
      clear hb HE HB hi
      go_wp2
      rw [unhideE HBF]
      go_ret
      exact ⟨rfl, _, rfl⟩
    | succ i =>
      have c0 := hs.row.cell i (by omega)
      have c1 := ht.row.cell i (by omega)
      unfold u64v at c0 c1
      have hi34 : (i : Int) < 34 := by omega
      rw [show (((i + 1 : Nat) : Int) - 1) = (i : Int) by omega]
      by_cases hne : v i = u i
      · have HE2 : HeldE (∀ j, i ≤ j → j < 34 → v j = u j) := fun j h1 h2 => by
          rcases (show j = i ∨ i + 1 ≤ j by omega) with rfl | h3
          · exact hne
          · exact unhideE HE j h3 h2
        rw [hne] at c0
        clear HE hne
        generalize u i = y at *
        go_wp2
        go_quiet (fail)
        go_wp2
        refine ⟨⟨i, _, by omega, rfl, rfl, HE2⟩, by simp [intOf]⟩
      · have hb : B = decide (v i < u i) := by
          rw [unhideE HB]
          exact dv_decides (by omega) hs.lt ht.lt (fun j h1 h2 => unhideE HE j (by omega) h2) hne
        have HBF := hideE hb
        have hnb : ((v i : Int) == (u i : Int)) = false := by rw [beq_eq_false_iff_ne]; omega
        clear hb HE HB
        generalize v i = x at *
        generalize u i = y at *
        go_wp2
        go_quiet (fail)
        go_wp2
        go_quiet (fail)
        go_wp2
        rw [unhideE HBF]
        go_ret
        exact ⟨rfl, _, by rw [World.drewN_drewN, World.drewN_drewN]⟩
end Go.Proofs.Ytbobnmaeiohnnac
