/-
  How far a share of a spot's light reaches: the program's tests, by contract.
-/
import Derived.Test.YtmgnobeaacjdjajGreatDoorSpRe
import Derived.Test.YtmgnobeaacjdjajGreatDoorSpRA
import Derived.Test.YtmgnobeaacjdjajGreatDoorFarC
namespace Go.Proofs.YtmgnobeaacjdjajGreatDoor
open Go Go.RowKit

def liesB (x y z : Int) : Bool := decide (0 ≤ x ∧ x ≤ y ∧ y < z)
set_option maxRecDepth 100000 in
theorem lies_any (x y z : Int) (w : World) : Calls Tryz.prog 51 #[.int .i64 x, .int .i64 y, .int .i64 z] w fun e w' => e = .returned (.bool (liesB x y z)) ∧ w' = w := by
  by_cases h1 : 0 ≤ x
  · have t1 : decide (0 ≤ x) = true := decide_eq_true h1
    by_cases h2 : x ≤ y
    · have t2 : decide (x ≤ y) = true := decide_eq_true h2
      by_cases h3 : y < z
      · have t3 : decide (y < z) = true := decide_eq_true h3
        have e : liesB x y z = true := decide_eq_true ⟨h1, h2, h3⟩
        rw [e]
        go_enter Tryz.func51, Tryz.ntmps51
        go_wp2
        go_ret
        exact ⟨rfl, rfl⟩
      · have t3 : decide (y < z) = false := decide_eq_false h3
        have e : liesB x y z = false := decide_eq_false (fun q => h3 q.2.2)
        rw [e]
        go_enter Tryz.func51, Tryz.ntmps51
        go_wp2
        go_ret
        exact ⟨rfl, rfl⟩
    · have t2 : decide (x ≤ y) = false := decide_eq_false h2
      have e : liesB x y z = false := decide_eq_false (fun q => h2 q.2.1)
      rw [e]
      go_enter Tryz.func51, Tryz.ntmps51
      go_wp2
      go_ret
      exact ⟨rfl, rfl⟩
  · have t1 : decide (0 ≤ x) = false := decide_eq_false h1
    have e : liesB x y z = false := decide_eq_false (fun q => h1 q.1)
    rw [e]
    go_enter Tryz.func51, Tryz.ntmps51
    go_wp2
    go_ret
    exact ⟨rfl, rfl⟩
def hasB (p : Pic) (s : Sta) : Bool := liesB s.le s.ri p.wide && liesB s.tp s.lo p.high
theorem below_two (w : World) (A B : Obj) : Below w.heap.size w ((w.alloc A).alloc B) := ((Below.refl w.heap.size w).alloc (Nat.le_refl _) A).alloc (by simp) B
set_option maxRecDepth 100000 in
set_option maxHeartbeats 1600000 in
theorem hasBox_any (p : Pic) (s : Sta) (v2 : Value) (w : World) : Calls Tryz.prog 16 #[.agg #[.int .i64 p.wide, .int .i64 p.high, v2], sxV s] w fun e w' => e = .returned (.bool (hasB p s)) ∧ Below w.heap.size w w' := by
  have h1 := fun u => lies_any s.le s.ri p.wide u
  have h2 := fun u => lies_any s.tp s.lo p.high u
  unfold hasB sxV
  obtain ⟨q1, e1⟩ : ∃ q, liesB s.le s.ri p.wide = q := ⟨_, rfl⟩
  obtain ⟨q2, e2⟩ : ∃ q, liesB s.tp s.lo p.high = q := ⟨_, rfl⟩
  rw [e1] at h1 ⊢
  rw [e2] at h2 ⊢
  have hg0 := keepA (o' := .cells #[.int .i64 s.le, .int .i64 s.tp, .int .i64 s.ri, .int .i64 s.lo, .int .i64 s.px, .int .i64 s.li, .int .i64 s.x, .int .i64 s.y, .int .i64 s.lt] 36) (alloc_last w (.cells #[.int .i64 p.wide, .int .i64 p.high, v2] 31))
  obtain ⟨c0, c1, c2⟩ := pic_three hg0
  have HB := hideR (below_two w (.cells #[.int .i64 p.wide, .int .i64 p.high, v2] 31) (.cells #[.int .i64 s.le, .int .i64 s.tp, .int .i64 s.ri, .int .i64 s.lo, .int .i64 s.px, .int .i64 s.li, .int .i64 s.x, .int .i64 s.y, .int .i64 s.lt] 36))
  clear hg0 e1 e2
  go_enter Tryz.func16, Tryz.ntmps16
  go_wp2_with fail
  refine (h1 _).mono ?_
  rintro e w1 ⟨rfl, rfl⟩
  cases q1 with
  | false =>
    go_wp2
    go_ret
    exact ⟨rfl, unhideR HB⟩
  | true =>
    go_wp2_with fail
    refine (h2 _).mono ?_
    rintro e w1 ⟨rfl, rfl⟩
    go_wp2
    go_ret
    exact ⟨rfl, unhideR HB⟩
end Go.Proofs.YtmgnobeaacjdjajGreatDoor
