/-
  The program's cells: levels, places, sizes, directions, faces.
-/
import Derived.Test.YtfonpobdnhifgamGreatDoorAtPA
namespace Go.Proofs.YtfonpobdnhifgamGreatDoor
open Go Go.RowKit

def lvlB (l : Int) : Bool := decide (0 ≤ l ∧ l ≤ 12)
set_option maxHeartbeats 1000000 in
theorem level_any (l : Int) (w : World) : Calls Tryz.prog 49 #[.int .i64 l] w fun e w' => e = .returned (.bool (lvlB l)) ∧ w' = w := by
  obtain ⟨R, hR⟩ : ∃ R, lvlB l = R := ⟨_, rfl⟩
  rw [hR]
  have HR := hideR hR
  clear hR
  go_enter Tryz.func49, Tryz.ntmps49
  go_wp2
  all_goals go_ret
  all_goals
    refine ⟨congrArg (fun b => Ending.returned (.bool b)) ?_, rfl⟩
    rw [← unhideR HR, Bool.eq_iff_iff]
    simp [lvlB]
    try omega
theorem shl1 {l : Nat} (h : l ≤ 12) (t : TypeId) (u : World) : (binOp .shl t (.int .i64 1) (.int .i64 (l : Int))).run Tryz.prog u = .ok (.int .i64 (2 ^ l)) u := by
  have : l = 0 ∨ l = 1 ∨ l = 2 ∨ l = 3 ∨ l = 4 ∨ l = 5 ∨ l = 6 ∨ l = 7 ∨ l = 8 ∨ l = 9 ∨ l = 10 ∨ l = 11 ∨ l = 12 := by omega
  rcases this with rfl | rfl | rfl | rfl | rfl | rfl | rfl | rfl | rfl | rfl | rfl | rfl | rfl <;> rfl
theorem maxB (x y : Int) (ts : Array TypeId) (t : TypeId) (u : World) : (Builtin.max_ ts t #[.int .i64 x, .int .i64 y]).run Tryz.prog u = .ok (.int .i64 (if y > x then y else x)) u := run_max_int2 u ts t _ _ _ _
theorem minB (x y : Int) (ts : Array TypeId) (t : TypeId) (u : World) : (Builtin.min_ ts t #[.int .i64 x, .int .i64 y]).run Tryz.prog u = .ok (.int .i64 (if y < x then y else x)) u := run_min_int2 u ts t _ _ _ _
set_option maxHeartbeats 1000000 in
theorem psize_any (n : Int) (h1 : -4611686018427387904 ≤ n) (h2 : n ≤ 4611686018427387904) (w : World) : Calls Tryz.prog 68 #[.int .i64 n] w fun e w' => e = .returned (.int .i64 (szV n)) ∧ w' = w := by
  have hm : ∀ ts t u, (Builtin.max_ ts t #[.int .i64 n, .int .i64 (-n)]).run Tryz.prog u = .ok (.int .i64 (szV n)) u := fun ts t u => by
    rw [maxB]
    congr 2
    unfold szV
    split <;> split <;> omega
  generalize szV n = s at *
  go_enter Tryz.func68, Tryz.ntmps68
  go_wp2
  go_ret
  exact ⟨rfl, rfl⟩
/-- a direction is compared as a struct. -/
def drN (s : Dr) (o : Nat) : Int := if o = 0 then s.x else if o = 1 then s.y else s.z
def drEq (s t : Dr) : Bool := (s.x == t.x) && ((s.y == t.y) && (s.z == t.z))
theorem neq_cell (s t : Dr) (u : World) : (binOp .neq 24 s.val t.val).run Tryz.prog u = .ok (.bool (!drEq s t)) u := by
  have hf : Tryz.prog.underlying 24 = some (.struct (Tryz.prog.fieldsOf 24)) := by kernel_rfl
  have hp : Tryz.prog.stoodInHeld 24 = false := by kernel_rfl
  have hm : (Tryz.prog.fieldsOf 24).toList.map (fun f => (f.type, f.offset)) = [(3, 0), (3, 1), (3, 2)] := by kernel_rfl
  have hm2 : (Tryz.prog.fieldsOf 24).toList.map (fun f => f.offset) = [0, 1, 2] := by kernel_rfl
  have hnm : ((Tryz.prog.fieldsOf 24).toList.all fun f => f.name != "_") = true := by kernel_rfl
  have ha : ∀ v, (isAgg 3).run Tryz.prog v = .ok false v := fun v => by simp [isAgg, run_underlying Tryz.underlying3]
  unfold Dr.val
  rw [run_neq_struct, show (10000 : Nat) = 9999 + 1 from rfl, run_equalIn_agg u 9999 24 _ _ hf hp, eqf_nums (X := drN s) (Y := drN t) _ (fun f h => ?_)]
  · have e : ((Tryz.prog.fieldsOf 24).toList.all fun f => drN s f.offset == drN t f.offset) = ([0, 1, 2].all fun o => drN s o == drN t o) := by
      rw [← hm2, List.all_map]
      rfl
    rw [e]
    simp [drEq, drN]
  · refine ⟨?_, ?_⟩
    · have := List.all_eq_true.1 hnm f h
      simpa using this
    · have hk : (f.type, f.offset) ∈ [(3, 0), (3, 1), (3, 2)] := by
        rw [← hm]
        exact List.mem_map_of_mem h
      simp only [List.mem_cons, Prod.mk.injEq, List.not_mem_nil, or_false] at hk
      rcases hk with ⟨e1, e2⟩ | ⟨e1, e2⟩ | ⟨e1, e2⟩ <;> rw [e1, e2] <;> exact ⟨by simp [part, ha, go_sem, drN], by simp [part, ha, go_sem, drN], run_equalIn_int u 9998 3 .i64 .i64 _ _ Tryz.underlying3⟩
theorem guard_cell (op : BinOp) (xs ys : Array Value) (x y : Operand) (u : World) : (eqGuard op 24 x y (.agg xs) (.agg ys)).run Tryz.prog u = .ok () u := run_eqGuard_agg u op 24 x y _ _ (by kernel_rfl)
theorem max3B (x y z : Int) : ∃ M : Int, (∀ n : Int, M ≤ n ↔ x ≤ n ∧ y ≤ n ∧ z ≤ n) ∧ ∀ (ts : Array TypeId) (t : TypeId) (u : World), (Builtin.max_ ts t #[.int .i64 x, .int .i64 y, .int .i64 z]).run Tryz.prog u = .ok (.int .i64 M) u := by
  refine ⟨_, ?_, fun ts t u => run_max_int3 u ts t _ _ _ x y z⟩
  intro n
  constructor
  · intro h
    split at h <;> split at h <;> omega
  · intro h
    split <;> split <;> omega
theorem min3B (x y z : Int) : ∃ M : Int, (∀ n : Int, n ≤ M ↔ n ≤ x ∧ n ≤ y ∧ n ≤ z) ∧ ∀ (ts : Array TypeId) (t : TypeId) (u : World), (Builtin.min_ ts t #[.int .i64 x, .int .i64 y, .int .i64 z]).run Tryz.prog u = .ok (.int .i64 M) u := by
  refine ⟨_, ?_, fun ts t u => run_min_int3 u ts t _ _ _ x y z⟩
  intro n
  constructor
  · intro h
    split at h <;> split at h <;> omega
  · intro h
    split <;> split <;> omega
set_option maxRecDepth 100000 in
set_option maxHeartbeats 3200000 in
theorem pdir_any (p : Dr) (w : World) : Calls Tryz.prog 27 #[p.val] w fun e w' => e = .returned (.bool (dirB p)) ∧ Below w.heap.size w w' := by
  have hne := fun u => neq_cell p ⟨0, 0, 0⟩ u
  have hgu := fun (xs ys : Array Value) (x y : Operand) (u : World) => guard_cell .neq xs ys x y u
  obtain ⟨px, py, pz⟩ := p
  unfold Dr.val at *
  obtain ⟨R, hR⟩ : ∃ R, dirB ⟨px, py, pz⟩ = R := ⟨_, rfl⟩
  rw [hR]
  have HR := hideR hR
  obtain ⟨M, hM, hmax⟩ := max3B px py pz
  obtain ⟨m, hm, hmin⟩ := min3B px py pz
  obtain ⟨Q, hQ⟩ : ∃ Q, drEq ⟨px, py, pz⟩ ⟨0, 0, 0⟩ = Q := ⟨_, rfl⟩
  rw [hQ] at hne
  have HQ := hideR hQ
  have HM := hideR (And.intro (hM 1048576) (hm (-1048576)))
  have hz := alloc_last w (.cells #[.int .i64 px, .int .i64 py, .int .i64 pz] 24)
  have x0 := (cells_at hz 0 (by simp)).1
  have x1 := (cells_at hz 1 (by simp)).1
  have x2 := (cells_at hz 2 (by simp)).1
  have hbw := below_a w (.cells #[.int .i64 px, .int .i64 py, .int .i64 pz] 24)
  clear hR hz hQ hM hm
  cases Q <;> simp only [Bool.not_false, Bool.not_true] at hne
  all_goals
    go_enter Tryz.func27, Tryz.ntmps27
    go_wp2
  all_goals go_ret
  all_goals
    refine ⟨congrArg (fun b => Ending.returned (.bool b)) ?_, by first | exact hbw | exact below_a w _⟩
    have h1 := unhideR HQ
    have h2 := unhideR HM
    rw [← unhideR HR, Bool.eq_iff_iff]
    simp [drEq] at h1
    simp [dirB]
    try omega
end Go.Proofs.YtfonpobdnhifgamGreatDoor
