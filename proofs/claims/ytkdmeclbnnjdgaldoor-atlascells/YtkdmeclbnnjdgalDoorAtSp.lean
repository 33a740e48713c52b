/-
  What the program's cells must answer.
-/
import Derived.Test.YtkdmeclbnnjdgalDoorAtSp0
import Derived.Test.YtkdmeclbnnjdgalDoorAtIc
import Derived.Test.YtkdmeclbnnjdgalDoorAtLw
namespace Go.Proofs.YtkdmeclbnnjdgalDoor
open Go Go.RowKit

structure ClProg (a : Nat → Addr) : Prop where
  toCe : CeProg a
  up : ∀ (s : Sq) (w : World), Calls Tryd.prog 23 #[s.val] w fun e w' => e = .returned (.tuple #[(upV s).val, .bool (upB s)]) ∧ Below w.heap.size w w'
  valid : ∀ (s : Sq) (w : World), Calls Tryd.prog 24 #[s.val] w fun e w' => e = .returned (.bool (vaB s)) ∧ Below w.heap.size w w'
structure InProg (a : Nat → Addr) (Rep : RepT) : Prop where
  in_ : ∀ {w p lv L O sn}, Rep w p lv L O sn → L.length ≤ 200 → ∀ s : Sq, SqOk s → Calls Tryd.prog 26 #[.pointer (some ⟨p, 0, none⟩), s.val] w fun r w' => (∃ v, r = .returned v ∧ NmIs w' v (if vaB s then inV s lv L else [])) ∧ Below w.heap.size w w'
theorem neq_sq (s : Sq) (u : World) : (binOp .neq 58 s.val s.val).run Tryd.prog u = .ok (.bool false) u := by
  have hf : Tryd.prog.underlying 58 = some (.struct (Tryd.prog.fieldsOf 58)) := by kernel_rfl
  have hp : Tryd.prog.stoodInHeld 58 = false := by kernel_rfl
  have hm : (Tryd.prog.fieldsOf 58).toList.map (fun f => (f.type, f.offset)) = [(3, 0), (3, 1), (3, 2), (3, 3)] := by kernel_rfl
  have hm2 : (Tryd.prog.fieldsOf 58).toList.map (fun f => f.offset) = [0, 1, 2, 3] := by kernel_rfl
  have hnm : ((Tryd.prog.fieldsOf 58).toList.all fun f => f.name != "_") = true := by kernel_rfl
  have ha : ∀ v, (isAgg 3).run Tryd.prog v = .ok false v := fun v => by simp [isAgg, run_underlying Tryd.underlying3]
  unfold Sq.val
  rw [run_neq_struct, show (10000 : Nat) = 9999 + 1 from rfl, run_equalIn_agg u 9999 58 _ _ hf hp, eqf_nums (X := sqN s) (Y := sqN s) _ (fun f h => ?_)]
  · have e : ((Tryd.prog.fieldsOf 58).toList.all fun f => sqN s f.offset == sqN s f.offset) = true := by simp
    rw [e]
    rfl
  · refine ⟨?_, ?_⟩
    · have := List.all_eq_true.1 hnm f h
      simpa using this
    · have hk : (f.type, f.offset) ∈ [(3, 0), (3, 1), (3, 2), (3, 3)] := by
        rw [← hm]
        exact List.mem_map_of_mem h
      simp only [List.mem_cons, Prod.mk.injEq, List.not_mem_nil, or_false] at hk
      rcases hk with ⟨e1, e2⟩ | ⟨e1, e2⟩ | ⟨e1, e2⟩ | ⟨e1, e2⟩ <;> rw [e1, e2] <;> exact ⟨by simp [part, ha, go_sem, sqN], by simp [part, ha, go_sem, sqN], run_equalIn_int u 9998 3 .i64 .i64 _ _ Tryd.underlying3⟩
theorem guard_asq (op : BinOp) (xs ys : Array Value) (x y : Operand) (u : World) : (eqGuard op 58 x y (.agg xs) (.agg ys)).run Tryd.prog u = .ok () u := run_eqGuard_agg u op 58 x y _ _ (by kernel_rfl)
end Go.Proofs.YtkdmeclbnnjdgalDoor
