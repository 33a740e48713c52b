/-
  The law BitsOrder walked out of the contracts.
-/
import Derived.Test.YtmgnobeaacjdjacDSum3
namespace Go.Proofs.Ytmgnobeaacjdjac
open Go Go.RowKit

theorem first_three : sumV [9094988921128908188, 4607182418800017408, 18318360957983683996] = 4607182418800017408 := by decide +kernel
theorem same_num {r q : Nat} (h : FSame r q) (hq : isN q = false) : r = q := by
  rcases h with h | ⟨_, h⟩
  · exact h
  · rw [nan_iff.1 h] at hq; cases hq
set_option maxHeartbeats 4000000 in
theorem order_out (a : Option Addr) (n cap : Nat) (k : Int) (x : Nat) (w : World) (h : 300 < n ∨ (n ≤ 300 ∧ (k < 0 ∨ (n : Int) < k))) (hn : n ≤ 9223372036854775807) :
    Calls Try.prog 4 #[.slice a n cap, .int .i64 k, .float .f64 x] w fun e w' => e = .returned (.bool true) ∧ Below w.heap.size w w' := by
  have ho1 : FloatKind.f64.format.order 4607182418800017408 4607182418800017408 = some .eq := by decide +kernel
  have hrow : FloatRow (w.alloc (.cells #[.float .f64 9094988921128908188, .float .f64 4607182418800017408, .float .f64 18318360957983683996] 23)) w.heap.size 0 [9094988921128908188, 4607182418800017408, 18318360957983683996] := by
    intro j hj
    have hj : j = 0 ∨ j = 1 ∨ j = 2 := by simp at hj; omega
    rcases hj with rfl | rfl | rfl <;> simp [go_sem]
  have B0 := hideE ((Below.refl w.heap.size w).alloc (Nat.le_refl _) (.cells #[.float .f64 9094988921128908188, .float .f64 4607182418800017408, .float .f64 18318360957983683996] 23))
  have C0 := hideE (dsum_any w.heap.size 0 3 _ _ hrow (by decide) (by decide) (by simp))
  rw [first_three] at C0
  clear hrow
  go_enter Try.func4, Try.ntmps4
  go_wp2_with fail
  refine (unhideE C0).mono ?_
  rintro e w1 ⟨r, rfl, hr, b1⟩
  obtain rfl := same_num hr (by decide)
  have B1 := hideE ((unhideE B0).trans (b1.mono (unhideE B0).size))
  clear hr b1 C0 B0
  rcases h with h | ⟨h, h2 | h2⟩
  all_goals
    go_wp2
    go_ret
    exact ⟨rfl, unhideE B1⟩
end Go.Proofs.Ytmgnobeaacjdjac
