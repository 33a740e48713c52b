/-
  The program's sum of no numbers, and of a row of the call's own.
-/
import Derived.Test.YtbobnmaeiohnnacDSum2
import Derived.OwnWalk
namespace Go.Proofs.Ytbobnmaeiohnnac
open Go Go.RowKit

theorem allMinus_nil (w : World) : Calls Try.prog 23 #[.slice none 0 0] w fun e w' => e = .returned (.bool false) ∧ w' = w := by
  go_enter Try.func23, Try.ntmps23
  go_wp2
  go_loop [7] (fun iv => iv = .int .i64 0) (fun _ => 0)
  case atStart => rfl
  case round =>
    subst hrel
    go_wp2
    go_ret
    exact ⟨rfl, rfl⟩
set_option maxHeartbeats 2000000 in
theorem dsum_nil (w : World) : Calls Try.prog 8 #[.slice none 0 0] w fun e w' => ∃ r, e = .returned (.float .f64 r) ∧ FSame r (sumV []) ∧ Below w.heap.size w w' := by
  have S0 := sum_new w 41
  have B0 := (Below.refl w.heap.size w).alloc (Nat.le_refl _) (.cells zero34 41)
  have S1 := sum_new (w.alloc (.cells zero34 41)) 41
  have B1 := hideE (B0.alloc (by simp) (.cells zero34 41))
  have SA := hideE (S0.below ((Below.refl (w.heap.size + 1) (w.alloc (.cells zero34 41))).alloc (by simp) (.cells zero34 41)) (by omega))
  have SB := hideE S1
  rw [show (w.alloc (.cells zero34 41)).heap.size = w.heap.size + 1 by simp] at SB
  clear S0 S1 B0
  unfold zero34 at SA SB B1
  have ho : FloatKind.f64.format.order 0 0 = some .eq := by decide
  have hs0 : sumV [] = rnd 0 := ((sumV_def []).2.2 rfl rfl).trans (finV_pos (d := 0) rfl)
  go_enter Try.func8, Try.ntmps8
  go_wp2
  go_loopw [5, 10] (fun ev iv wl => ev = .float .f64 0 ∧ iv = .int .i64 0 ∧ HeldE (Sum64 wl w.heap.size fun _ => 0) ∧ HeldE (Sum64 wl (w.heap.size + 1) fun _ => 0) ∧ HeldE (Below w.heap.size w wl)) (fun _ _ _ => 0)
  case atStart => exact ⟨rfl, rfl, SA, SB, B1⟩
  case round =>
    obtain ⟨rfl, rfl, HA, HB, HW⟩ := hrel
    have hless := exact_less w.heap.size (w.heap.size + 1) _ _ wr (unhideE HA) (unhideE HB) false (decide_eq_false (Nat.lt_irrefl _)).symm
    have HWO := hideE (fun n => exact_without w.heap.size (w.heap.size + 1) _ _ (wr.drewN n) ((unhideE HA).drawn n) ((unhideE HB).drawn n) (Nat.le_refl _))
    have HS0 := hideE hs0
    clear hs0
    go_wp2_with fail
    refine (allMinus_nil _).mono ?_
    rintro e w1 ⟨rfl, rfl⟩
    go_wp2_with fail
    refine hless.mono ?_
    rintro e w1 ⟨rfl, n1, rfl⟩
    clear hless
    go_wp2_with fail
    refine (unhideE HWO _).mono ?_
    rintro e w2 ⟨rfl, d, hS, hd, hb2⟩
    have h0 : dv 64 d 34 = 0 := by rw [dv_nothing, Nat.add_zero] at hd; exact hd
    have HR := hideE (exact_rounded _ d w2 (rnd 0) hS (by rw [h0]))
    have B2 := hideE (((below_drewN (unhideE HW) n1)).trans (hb2.mono (below_drewN (unhideE HW) n1).size))
    clear hS hd hb2 HWO h0
    generalize rnd 0 = q at *
    go_wp2_with fail
    refine (unhideE HR).mono ?_
    rintro e w3 ⟨rfl, n3, rfl⟩
    go_wp2
    go_ret
    exact ⟨_, rfl, .inl (unhideE HS0).symm, below_drewN (unhideE B2) _⟩
theorem dsum_own {w : World} {B n : Nat} {v : Value} {xs : List Nat} (hown : w.ownsRow B 23 1 v n (xs.map (Value.float .f64))) (hn : xs.length = n) (hl : xs.length ≤ 400) (hx : ∀ x ∈ xs, x < 18446744073709551616) :
    Calls Try.prog 8 #[v] w fun e w' => ∃ r, e = .returned (.float .f64 r) ∧ FSame r (sumV xs) ∧ Below w.heap.size w w' := by
  rcases hown.2 with ⟨h1, h2⟩ | ⟨g, cap, cur, h1, h3, h4, _⟩
  · subst h1
    have : xs = [] := List.eq_nil_of_length_eq_zero (by omega)
    subst this
    exact dsum_nil w
  · subst h1
    subst hn
    have hg : g < w.heap.size := by
      rcases Nat.lt_or_ge g w.heap.size with h | h
      · exact h
      · rw [Array.getElem?_eq_none h] at h4; cases h4
    refine dsum_any g 0 cap xs w (fun j hj => ?_) hl hx hg
    have h := hown.cellAt j (by omega)
    rw [Nat.zero_add, h]
    simp [List.getD, hj]
end Go.Proofs.Ytbobnmaeiohnnac
