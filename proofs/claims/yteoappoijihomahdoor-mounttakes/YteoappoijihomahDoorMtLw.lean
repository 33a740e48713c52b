/-
  The mount's laws: their own small functions, by contract.
-/
import Derived.Test.YteoappoijihomahDoorMtTa
namespace Go.Proofs.YteoappoijihomahDoor
open Go Go.RowKit

def Lim.val (l : Lim) : Value := .agg #[.int .i64 l.lo, .int .i64 l.hi, .int .i64 l.fast, .int .i64 l.home]
theorem below_four {w v : World} {b : Nat} (h : Below w.heap.size w v) (hb : w.heap.size ≤ b) (x0 x1 x2 x3 : Value) : Below w.heap.size w ((((v.setCell ⟨b, 0, none⟩ x0).setCell ⟨b, 1, none⟩ x1).setCell ⟨b, 2, none⟩ x2).setCell ⟨b, 3, none⟩ x3) :=
  (((h.setCell hb x0).setCell hb x1).setCell hb x2).setCell hb x3
set_option maxHeartbeats 800000 in
theorem limits_any (l : Lim) (w : World) : Calls Tryd.prog 26 #[l.val] w fun e w' => e = .returned l.val ∧ Below w.heap.size w w' := by
  unfold Lim.val
  go_enter Tryd.func26, Tryd.ntmps26
  go_wp2
  simp [bodyPost, results, Tryd.results26, go_sem]
  exact below_al2 _ _ _
set_option maxHeartbeats 800000 in
theorem command_any (c : CmdS) (w : World) : Calls Tryd.prog 31 #[c.val] w fun e w' => e = .returned c.val ∧ Below w.heap.size w w' := by
  unfold CmdS.val
  go_enter Tryd.func31, Tryd.ntmps31
  go_wp2
  simp [bodyPost, results, Tryd.results31, go_sem]
  exact below_al2 _ _ _
def apart (a b : Int) : Int := if b < a then a - b else b - a
theorem apart_any {a b : Int} (w : World) (ha : -1099511627776 ≤ a) (ha2 : a ≤ 1099511627776) (hb : -1099511627776 ≤ b) (hb2 : b ≤ 1099511627776) : Calls Tryd.prog 35 #[.int .i64 a, .int .i64 b] w fun e w' => e = .returned (.int .i64 (apart a b)) ∧ w' = w := by
  have w1 : IntKind.i64.wrap (a - b) = a - b := iwrap (by omega) (by omega)
  have w2 : IntKind.i64.wrap (b - a) = b - a := iwrap (by omega) (by omega)
  unfold apart
  by_cases q : b < a
  · rw [if_pos q]
    have t : decide (b < a) = true := decide_eq_true q
    clear q
    go_enter Tryd.func35, Tryd.ntmps35
    go_wp2
    all_goals
      go_ret
      exact ⟨rfl, rfl⟩
  · rw [if_neg q]
    have t : decide (b < a) = false := decide_eq_false q
    clear q
    go_enter Tryd.func35, Tryd.ntmps35
    go_wp2
    all_goals
      go_ret
      exact ⟨rfl, rfl⟩
theorem beyond_any (l : Lim) (x : Int) (w : World) : Calls Tryd.prog 36 #[l.val, .int .i64 x] w fun e w' => e = .returned (.bool (decide (out l x))) ∧ Below w.heap.size w w' := by
  have hcase : (decide (x < l.lo) = true ∧ decide (out l x) = true) ∨ (decide (x < l.lo) = false ∧ decide (out l x) = decide (l.hi < x)) := by
    unfold out
    by_cases q : x < l.lo
    · exact .inl ⟨decide_eq_true q, decide_eq_true (.inl q)⟩
    · exact .inr ⟨decide_eq_false q, decide_eq_decide.2 ⟨fun k => k.resolve_left q, .inr⟩⟩
  unfold Lim.val
  rcases hcase with ⟨t, e⟩ | ⟨t, e⟩
  all_goals
    rw [e]
    clear e
    go_enter Tryd.func36, Tryd.ntmps36
    go_wp2
    all_goals
      go_ret
      exact ⟨rfl, below_a _ _⟩
end Go.Proofs.YteoappoijihomahDoor
