/-
  Which shapes are alike: the program's, by contract: products of two words.
-/
import Derived.Test.YtbfjdiljgfmdoalDoorMu64
import Derived.Test.YtbfjdiljgfmdoalDoorPlPt
namespace Go.Proofs.YtbfjdiljgfmdoalDoor
open Go Go.RowKit

/-- a number of two words. -/
def wdV (n : Nat) : Value := .agg #[.int .u64 ((n / 18446744073709551616 : Nat) : Int), .int .u64 ((n % 18446744073709551616 : Nat) : Int)]
theorem conv_u64 {a : Nat} (h : a < 9223372036854775808) : IntKind.u64.wrap (a : Int) = (a : Int) := wrapU (by omega)
set_option maxRecDepth 100000 in
set_option maxHeartbeats 1600000 in
theorem prod_any (a b : Nat) (w : World) (ha : a < 9223372036854775808) (hb : b < 9223372036854775808) :
    Calls Tryd.prog 56 #[.int .i64 (a : Nat), .int .i64 (b : Nat)] w fun e w' => e = .returned (wdV (a * b)) ∧ Below w.heap.size w w' := by
  unfold wdV
  have ea := conv_u64 ha
  have eb := conv_u64 hb
  have hm := fun u => mul64_any a b (by omega) (by omega) u
  generalize ((a * b / 18446744073709551616 : Nat) : Int) = h at *
  generalize ((a * b % 18446744073709551616 : Nat) : Int) = l at *
  have z1 := alloc_last w (.cells #[.int .u64 0, .int .u64 0] 106)
  have hbw := below_a w (.cells #[.int .u64 0, .int .u64 0] 106)
  go_enter Tryd.func56, Tryd.ntmps56
  go_wp2_with fail
  refine (hm _).mono ?_
  rintro e w2 ⟨rfl, rfl⟩
  clear hm ea eb
  go_wp2
  simp [bodyPost, results, Tryd.results56, go_sem]
  exact below_a w _
theorem wd_lt {m n : Nat} : (m < n) ↔ (m / 18446744073709551616 < n / 18446744073709551616 ∨ m / 18446744073709551616 = n / 18446744073709551616 ∧ m % 18446744073709551616 < n % 18446744073709551616) := by omega
set_option maxRecDepth 100000 in
set_option maxHeartbeats 1600000 in
theorem lower_any (m n : Nat) (w : World) :
    Calls Tryd.prog 57 #[wdV m, wdV n] w fun e w' => e = .returned (.bool (decide (m < n))) ∧ Below w.heap.size w w' := by
  unfold wdV
  obtain ⟨R, hR⟩ : ∃ R, decide (m < n) = R := ⟨_, rfl⟩
  rw [hR]
  have hR2 : R = true ↔ (m / 18446744073709551616 < n / 18446744073709551616 ∨ m / 18446744073709551616 = n / 18446744073709551616 ∧ m % 18446744073709551616 < n % 18446744073709551616) := by
    rw [← hR, decide_eq_true_iff]
    exact wd_lt
  clear hR
  generalize m / 18446744073709551616 = a at *
  generalize m % 18446744073709551616 = b at *
  generalize n / 18446744073709551616 = c at *
  generalize n % 18446744073709551616 = d at *
  have HR := hideR hR2
  have hz1 := keepA (o' := .cells #[.int .u64 (c : Nat), .int .u64 (d : Nat)] 106) (alloc_last w (.cells #[.int .u64 (a : Nat), .int .u64 (b : Nat)] 106))
  have hz2 : ((w.alloc (.cells #[.int .u64 (a : Nat), .int .u64 (b : Nat)] 106)).alloc (.cells #[.int .u64 (c : Nat), .int .u64 (d : Nat)] 106)).heap[w.heap.size + 1]? = some (.cells #[.int .u64 (c : Nat), .int .u64 (d : Nat)] 106) := by
    have := alloc_last (w.alloc (.cells #[.int .u64 (a : Nat), .int .u64 (b : Nat)] 106)) (.cells #[.int .u64 (c : Nat), .int .u64 (d : Nat)] 106)
    simpa using this
  have hbw := below_go (below_a w (.cells #[.int .u64 (a : Nat), .int .u64 (b : Nat)] 106)) (below_a (w.alloc (.cells #[.int .u64 (a : Nat), .int .u64 (b : Nat)] 106)) (.cells #[.int .u64 (c : Nat), .int .u64 (d : Nat)] 106))
  have x0 := (cells_at hz1 0 (by simp)).1
  have x1 := (cells_at hz1 1 (by simp)).1
  have y0 := (cells_at hz2 0 (by simp)).1
  have y1 := (cells_at hz2 1 (by simp)).1
  clear hR2 hz1 hz2
  go_enter Tryd.func57, Tryd.ntmps57
  go_wp2
  all_goals go_ret
  all_goals
    refine ⟨congrArg (fun b => Ending.returned (.bool b)) ?_, by first | exact hbw | exact below_go (below_a w _) (below_a _ _)⟩
    rw [Bool.eq_iff_iff, unhideR HR]
    simp
    try omega
end Go.Proofs.YtbfjdiljgfmdoalDoor
