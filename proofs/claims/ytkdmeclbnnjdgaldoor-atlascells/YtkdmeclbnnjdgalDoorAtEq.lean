/-
  Cells of a level held against each other.
-/
import Derived.Test.YtkdmeclbnnjdgalDoorAtP
import Derived.Laws.StructEq
namespace Go.Proofs.YtkdmeclbnnjdgalDoor
open Go Go.RowKit

theorem eqf_nums {P : Program} {u : World} {d : Nat} {xs ys : Array Value} {X Y : Nat → Int} : ∀ fs : List Field, (∀ f ∈ fs, f.name ≠ "_" ∧ (part f.type xs f.offset).run P u = .ok (.int .i64 (X f.offset)) u ∧ (part f.type ys f.offset).run P u = .ok (.int .i64 (Y f.offset)) u ∧ (Op.equalIn d f.type (.int .i64 (X f.offset)) (.int .i64 (Y f.offset))).run P u = .ok (X f.offset == Y f.offset) u) → (Op.eqFields d xs ys fs).run P u = .ok (fs.all fun f => X f.offset == Y f.offset) u
  | [], _ => by simp [Op.eqFields]
  | f :: fs, h => by
    obtain ⟨h0, h1, h2, h3⟩ := h f List.mem_cons_self
    have ih := eqf_nums (P := P) (u := u) (d := d) (xs := xs) (ys := ys) (X := X) (Y := Y) fs (fun g hg => h g (List.mem_cons_of_mem _ hg))
    unfold Op.eqFields
    rw [List.all_cons]
    split
    · simp only [Sem.run_bind, h1, h2, Result.andThen_ok, h3]
      cases q : (X f.offset == Y f.offset) with
      | false => simp
      | true =>
        simp only [Bool.not_true, Bool.false_eq_true, if_false, Bool.true_and]
        exact ih
    · rename_i hb
      simp at hb
      exact absurd hb h0
def sqEq (s t : Sq) : Bool := (s.f == t.f) && ((s.l == t.l) && ((s.c == t.c) && (s.r == t.r)))
def sqN (s : Sq) (o : Nat) : Int := if o = 0 then s.f else if o = 1 then s.l else if o = 2 then s.c else s.r
theorem eqIn_sq (s t : Sq) (u : World) : (Op.equalIn 10000 56 s.val t.val).run Tryd.prog u = .ok (sqEq s t) u := by
  unfold Sq.val
  have hf : Tryd.prog.underlying 56 = some (.struct (Tryd.prog.fieldsOf 56)) := by kernel_rfl
  have hp : Tryd.prog.stoodInHeld 56 = false := by kernel_rfl
  have hm : (Tryd.prog.fieldsOf 56).toList.map (fun f => (f.type, f.offset)) = [(3, 0), (3, 1), (3, 2), (3, 3)] := by kernel_rfl
  have hm2 : (Tryd.prog.fieldsOf 56).toList.map (fun f => f.offset) = [0, 1, 2, 3] := by kernel_rfl
  have hnm : ((Tryd.prog.fieldsOf 56).toList.all fun f => f.name != "_") = true := by kernel_rfl
  have ha : ∀ v, (isAgg 3).run Tryd.prog v = .ok false v := fun v => by simp [isAgg, run_underlying Tryd.underlying3]
  rw [show (10000 : Nat) = 9999 + 1 from rfl, run_equalIn_agg u 9999 56 _ _ hf hp, eqf_nums (X := sqN s) (Y := sqN t) _ (fun f h => ?_)]
  · have e : ((Tryd.prog.fieldsOf 56).toList.all fun f => sqN s f.offset == sqN t f.offset) = ([0, 1, 2, 3].all fun o => sqN s o == sqN t o) := by
      rw [← hm2, List.all_map]
      rfl
    rw [e]
    simp [sqEq, sqN]
  · refine ⟨?_, ?_⟩
    · have := List.all_eq_true.1 hnm f h
      simpa using this
    · have hk : (f.type, f.offset) ∈ [(3, 0), (3, 1), (3, 2), (3, 3)] := by
        rw [← hm]
        exact List.mem_map_of_mem h
      simp only [List.mem_cons, Prod.mk.injEq, List.not_mem_nil, or_false] at hk
      rcases hk with ⟨e1, e2⟩ | ⟨e1, e2⟩ | ⟨e1, e2⟩ | ⟨e1, e2⟩ <;> rw [e1, e2] <;> exact ⟨by simp [part, ha, go_sem, sqN], by simp [part, ha, go_sem, sqN], run_equalIn_int u 9998 3 .i64 .i64 _ _ Tryd.underlying3⟩
theorem eql_sq (s t : Sq) (u : World) : (binOp .eql 56 s.val t.val).run Tryd.prog u = .ok (.bool (sqEq s t)) u := by
  have h := eqIn_sq s t u
  unfold Sq.val at *
  rw [run_eql_struct, h]
  rfl
theorem guard_sq (op : BinOp) (xs ys : Array Value) (x y : Operand) (u : World) : (eqGuard op 56 x y (.agg xs) (.agg ys)).run Tryd.prog u = .ok () u := run_eqGuard_agg u op 56 x y _ _ (by kernel_rfl)
end Go.Proofs.YtkdmeclbnnjdgalDoor
