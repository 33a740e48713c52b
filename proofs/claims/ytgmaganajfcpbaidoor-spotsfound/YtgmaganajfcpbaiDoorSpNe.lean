/-
  A spot is no other than itself: '!=' of two spots that are the same.
-/
import Derived.Test.YtgmaganajfcpbaiDoorSpKA
import Derived.Laws.StructEq
namespace Go.Proofs.YtgmaganajfcpbaiDoor
open Go Go.RowKit

theorem eqf_same {P : Program} {u : World} {d : Nat} {xs : Array Value} : ∀ fs : List Field, (∀ f ∈ fs, ∃ x, (part f.type xs f.offset).run P u = .ok x u ∧ (Op.equalIn d f.type x x).run P u = .ok true u) → (Op.eqFields d xs xs fs).run P u = .ok true u
  | [], _ => by simp [Op.eqFields]
  | f :: fs, h => by
    obtain ⟨x, h1, h2⟩ := h f List.mem_cons_self
    have ih := eqf_same (P := P) (u := u) (d := d) (xs := xs) fs (fun g hg => h g (List.mem_cons_of_mem _ hg))
    unfold Op.eqFields
    split
    · simp only [Sem.run_bind, h1, Result.andThen_ok, h2, Bool.not_true, Bool.false_eq_true, if_false]
      exact ih
    · exact ih
theorem kinds_of {l : List Field} {k : List (TypeId × Nat)} (h : l.map (fun f => (f.type, f.offset)) = k) {f : Field} (hf : f ∈ l) : (f.type, f.offset) ∈ k := by
  rw [← h]
  exact List.mem_map_of_mem hf
theorem neq_spot (s : Sta) (u : World) : (binOp .neq 61 (sxV s) (sxV s)).run Tryd.prog u = .ok (.bool false) u := by
  unfold sxV
  have hf : Tryd.prog.underlying 61 = some (.struct (Tryd.prog.fieldsOf 61)) := by kernel_rfl
  have hp : Tryd.prog.stoodInHeld 61 = false := by kernel_rfl
  have hf2 : Tryd.prog.underlying 59 = some (.struct (Tryd.prog.fieldsOf 59)) := by kernel_rfl
  have hp2 : Tryd.prog.stoodInHeld 59 = false := by kernel_rfl
  have hm : (Tryd.prog.fieldsOf 61).toList.map (fun f => (f.type, f.offset)) = [(3, 0), (3, 1), (3, 2), (3, 3), (3, 4), (3, 5), (59, 6)] := by kernel_rfl
  have hm2 : (Tryd.prog.fieldsOf 59).toList.map (fun f => (f.type, f.offset)) = [(3, 0), (3, 1), (3, 2)] := by kernel_rfl
  have ha : ∀ v, (isAgg 3).run Tryd.prog v = .ok false v := fun v => by simp [isAgg, run_underlying Tryd.underlying3]
  have ha2 : ∀ v, (isAgg 59).run Tryd.prog v = .ok true v := fun v => by simp [isAgg, run_underlying hf2]
  have hz : ∀ v, (Go.sizeOf 59).run Tryd.prog v = .ok 3 v := fun v => by kernel_rfl
  have q1 : ∀ n x, (Op.equalIn (n + 1) 3 (.int .i64 x) (.int .i64 x)).run Tryd.prog u = .ok true u := fun n x => by rw [run_equalIn_int u n 3 .i64 .i64 x x Tryd.underlying3]; simp
  have q2 : ∀ n x y z, (Op.equalIn (n + 2) 59 (.agg #[.int .i64 x, .int .i64 y, .int .i64 z]) (.agg #[.int .i64 x, .int .i64 y, .int .i64 z])).run Tryd.prog u = .ok true u := fun n x y z => by
    rw [run_equalIn_agg u (n + 1) 59 _ _ hf2 hp2]
    refine eqf_same _ (fun f h => ?_)
    have := kinds_of hm2 h
    simp only [List.mem_cons, Prod.mk.injEq, List.not_mem_nil, or_false] at this
    rcases this with ⟨e1, e2⟩ | ⟨e1, e2⟩ | ⟨e1, e2⟩ <;> rw [e1, e2] <;> exact ⟨_, by simp [part, ha, go_sem]; rfl, q1 n _⟩
  rw [run_neq_struct, show (10000 : Nat) = 9999 + 1 from rfl, run_equalIn_agg u 9999 61 _ _ hf hp, eqf_same _ (fun f h => ?_)]
  · rfl
  · have := kinds_of hm h
    simp only [List.mem_cons, Prod.mk.injEq, List.not_mem_nil, or_false] at this
    rcases this with ⟨e1, e2⟩ | ⟨e1, e2⟩ | ⟨e1, e2⟩ | ⟨e1, e2⟩ | ⟨e1, e2⟩ | ⟨e1, e2⟩ | ⟨e1, e2⟩
    · rw [e1, e2]; exact ⟨_, by simp [part, ha, go_sem]; rfl, q1 9998 _⟩
    · rw [e1, e2]; exact ⟨_, by simp [part, ha, go_sem]; rfl, q1 9998 _⟩
    · rw [e1, e2]; exact ⟨_, by simp [part, ha, go_sem]; rfl, q1 9998 _⟩
    · rw [e1, e2]; exact ⟨_, by simp [part, ha, go_sem]; rfl, q1 9998 _⟩
    · rw [e1, e2]; exact ⟨_, by simp [part, ha, go_sem]; rfl, q1 9998 _⟩
    · rw [e1, e2]; exact ⟨_, by simp [part, ha, go_sem]; rfl, q1 9998 _⟩
    · rw [e1, e2]
      refine ⟨.agg #[.int .i64 s.x, .int .i64 s.y, .int .i64 s.lt], ?_, q2 9997 _ _ _⟩
      simp [part, ha2, hz, go_sem]
theorem guard_spot (s : Sta) (x y : Operand) (u : World) : (eqGuard .neq 61 x y (sxV s) (sxV s)).run Tryd.prog u = .ok () u := run_eqGuard_agg u .neq 61 x y _ _ (by kernel_rfl)
end Go.Proofs.YtgmaganajfcpbaiDoor
