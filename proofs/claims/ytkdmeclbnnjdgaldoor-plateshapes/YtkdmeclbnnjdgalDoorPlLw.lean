/-
  What the law of shapes asks: the document's ranks are the program's corners; shapes copied and held against each other.
-/
import Derived.Test.YtkdmeclbnnjdgalDoorPdI
import Derived.Test.YtkdmeclbnnjdgalDoorPlRp
import Derived.Laws.StructEq
namespace Go.Proofs.YtkdmeclbnnjdgalDoor
open Go Go.RowKit

theorem eqf_same {P : Program} {u : World} {d : Nat} {xs : Array Value} : ∀ fs : List Field, (∀ f ∈ fs, ∃ x, (part f.type xs f.offset).run P u = .ok x u ∧ (Op.equalIn d f.type x x).run P u = .ok true u) → (Op.eqFields d xs xs fs).run P u = .ok true u
  | [], _ => by simp [Op.eqFields]
  | f :: fs, h => by
    obtain ⟨x, h1, h2⟩ := h f List.mem_cons_self
    have ih := eqf_same (P := P) (u := u) (d := d) (xs := xs) fs (fun g hg => h g (List.mem_cons_of_mem _ hg))
    unfold Op.eqFields
    split
    · simp only [Sem.run_bind, h1, Result.andThen_ok, h2, Bool.not_true, Bool.false_eq_true, if_false]
      exact ih
    · exact ih
theorem kinds_of {l : List Field} {k : List (TypeId × Nat)} (h : l.map (fun f => (f.type, f.offset)) = k) {f : Field} (hf : f ∈ l) : (f.type, f.offset) ∈ k := by
  rw [← h]
  exact List.mem_map_of_mem hf
theorem neq_shape (a b c d : Int) (u : World) : (binOp .neq 41 (.agg #[.int .i64 a, .int .i64 b, .int .i64 c, .int .i64 d]) (.agg #[.int .i64 a, .int .i64 b, .int .i64 c, .int .i64 d])).run Tryd.prog u = .ok (.bool false) u := by
  have hf : Tryd.prog.underlying 41 = some (.struct (Tryd.prog.fieldsOf 41)) := by kernel_rfl
  have hp : Tryd.prog.stoodInHeld 41 = false := by kernel_rfl
  have hm : (Tryd.prog.fieldsOf 41).toList.map (fun f => (f.type, f.offset)) = [(3, 0), (3, 1), (3, 2), (3, 3)] := by kernel_rfl
  have ha : ∀ v, (isAgg 3).run Tryd.prog v = .ok false v := fun v => by simp [isAgg, run_underlying Tryd.underlying3]
  have q1 : ∀ n x, (Op.equalIn (n + 1) 3 (.int .i64 x) (.int .i64 x)).run Tryd.prog u = .ok true u := fun n x => by rw [run_equalIn_int u n 3 .i64 .i64 x x Tryd.underlying3]; simp
  rw [run_neq_struct, show (10000 : Nat) = 9999 + 1 from rfl, run_equalIn_agg u 9999 41 _ _ hf hp, eqf_same _ (fun f h => ?_)]
  · rfl
  · have := kinds_of hm h
    simp only [List.mem_cons, Prod.mk.injEq, List.not_mem_nil, or_false] at this
    rcases this with ⟨e1, e2⟩ | ⟨e1, e2⟩ | ⟨e1, e2⟩ | ⟨e1, e2⟩ <;> rw [e1, e2] <;> exact ⟨_, by simp [part, ha, go_sem]; rfl, q1 9998 _⟩
theorem guard_shape (xs ys : Array Value) (x y : Operand) (u : World) : (eqGuard .neq 41 x y (.agg xs) (.agg ys)).run Tryd.prog u = .ok () u := run_eqGuard_agg u .neq 41 x y _ _ (by kernel_rfl)
theorem ins_cases (a b c : Cor) : (insF 2 (insF 1 (tri3 a b c)) 0, insF 2 (insF 1 (tri3 a b c)) 1, insF 2 (insF 1 (tri3 a b c)) 2) = if a.d < b.d then (if a.d < c.d then (if b.d < c.d then (c, b, a) else (b, c, a)) else (b, a, c)) else if b.d < c.d then (if a.d < c.d then (c, a, b) else (a, c, b)) else (a, b, c) := by
  have e0 : tri3 a b c 0 = a := rfl
  have e1 : tri3 a b c 1 = b := rfl
  have e2 : tri3 a b c 2 = c := rfl
  by_cases q1 : a.d < b.d <;> by_cases q2 : b.d < c.d <;> by_cases q3 : a.d < c.d <;> simp [insF, swpF, e0, e1, e2, q1, q2, q3]
theorem out_cases (a b c : Rk) : out 0 (a, b, c) = if a.d < b.d then (if a.d < c.d then (if b.d < c.d then (c, b, a) else (b, c, a)) else (b, a, c)) else if b.d < c.d then (if a.d < c.d then (c, a, b) else (a, c, b)) else (a, b, c) := by
  have e : out 0 (a, b, c) = upB (upA (upB (upA (a, b, c)))) := rfl
  rw [e]
  by_cases q1 : a.d < b.d <;> by_cases q2 : b.d < c.d <;> by_cases q3 : a.d < c.d <;> by_cases q4 : b.d < a.d <;> by_cases q5 : c.d < b.d <;> by_cases q6 : c.d < a.d <;> first | (exfalso; omega) | simp [upA, upB, q1, q2, q3, q4, q5, q6]
theorem twc_01 (a b c : Pt) : twc b a c = - twc a b c := by
  unfold twc
  simp only [Int.mul_sub]
  omega
theorem twc_12 (a b c : Pt) : twc a c b = - twc a b c := by
  unfold twc
  simp only [Int.mul_sub]
  omega
theorem cor3_at (p0 p1 p2 : Pt) : (cor3 p0 p1 p2 0, cor3 p0 p1 p2 1, cor3 p0 p1 p2 2) = (insF 2 (insF 1 (tri3 ⟨p0, 0, btw p1 p2⟩ ⟨p1, 1, btw p2 p0⟩ ⟨p2, 2, btw p0 p1⟩)) 0, insF 2 (insF 1 (tri3 ⟨p0, 0, btw p1 p2⟩ ⟨p1, 1, btw p2 p0⟩ ⟨p2, 2, btw p0 p1⟩)) 1, insF 2 (insF 1 (tri3 ⟨p0, 0, btw p1 p2⟩ ⟨p1, 1, btw p2 p0⟩ ⟨p2, 2, btw p0 p1⟩)) 2) := rfl
/-- the document's ranks are the program's corners. -/
theorem rank_cor {p0 p1 p2 : Pt} {x0 x1 x2 : Rk} (h : rkF p0 p1 p2 x0 x1 x2) : (cor3 p0 p1 p2 0 = ⟨ptK p0 p1 p2 x0.k, (x0.k : Int), x0.d⟩ ∧ cor3 p0 p1 p2 1 = ⟨ptK p0 p1 p2 x1.k, (x1.k : Int), x1.d⟩ ∧ cor3 p0 p1 p2 2 = ⟨ptK p0 p1 p2 x2.k, (x2.k : Int), x2.d⟩) ∧
    (twc p0 p1 p2 ≠ 0 → twc (ptK p0 p1 p2 x0.k) (ptK p0 p1 p2 x1.k) (ptK p0 p1 p2 x2.k) ≠ 0) := by
  have e1 := cor3_at p0 p1 p2
  rw [ins_cases] at e1
  have e2 : (x0, x1, x2) = out 0 (rk0 p0 p1 p2) := h.symm
  unfold rk0 at e2
  rw [out_cases] at e2
  simp only at e1 e2
  have t1 := twc_01 p0 p1 p2
  have t2 := twc_12 p0 p1 p2
  have t3 := twc_01 p0 p2 p1
  have t4 := twc_12 p1 p0 p2
  have t5 := twc_01 p1 p2 p0
  generalize btw p1 p2 = d0 at *
  generalize btw p2 p0 = d1 at *
  generalize btw p0 p1 = d2 at *
  by_cases q1 : d0 < d1 <;> by_cases q2 : d1 < d2 <;> by_cases q3 : d0 < d2 <;> simp only [q1, q2, q3, if_true, if_false, Prod.mk.injEq] at e1 e2 <;> obtain ⟨a1, a2, a3⟩ := e1 <;> obtain ⟨b1, b2, b3⟩ := e2 <;> rw [b1, b2, b3, a1, a2, a3] <;> refine ⟨⟨rfl, rfl, rfl⟩, ?_⟩ <;> simp only [ptK, if_true, show ¬ (1 : Nat) = 0 by decide, show ¬ (2 : Nat) = 0 by decide, show ¬ (2 : Nat) = 1 by decide, if_false] <;> omega
theorem rank_shape {p0 p1 p2 : Pt} {x0 x1 x2 : Rk} (h : rkF p0 p1 p2 x0 x1 x2) (ht : twc p0 p1 p2 ≠ 0) : shOf (cor3 p0 p1 p2 0) (cor3 p0 p1 p2 1) (cor3 p0 p1 p2 2) = ⟨x0.d, x1.d, x2.d, rkH p0 p1 p2 x0 x1 x2⟩ := by
  obtain ⟨⟨e0, e1, e2⟩, ne⟩ := rank_cor h
  rw [e0, e1, e2]
  have n := ne ht
  unfold shOf hdV rkH
  simp only
  generalize twc (ptK p0 p1 p2 x0.k) (ptK p0 p1 p2 x1.k) (ptK p0 p1 p2 x2.k) = T at *
  have : (if x0.d = x1.d ∨ x1.d = x2.d then (0 : Int) else if 0 < T then 1 else -1) = if x0.d ≠ x1.d ∧ x1.d ≠ x2.d then (if T < 0 then -1 else 1) else 0 := by
    by_cases q1 : x0.d = x1.d
    · simp [q1]
    · by_cases q2 : x1.d = x2.d
      · simp [q2]
      · by_cases q3 : T < 0
        · have q4 : ¬ 0 < T := by omega
          simp [q1, q2, q3, q4]
        · have q4 : 0 < T := by omega
          simp [q1, q2, q3, q4]
  rw [this]
theorem rk_of {p0 p1 p2 : Pt} {e : Ending} (h : RkPost p0 p1 p2 e) : ∃ q0 q1 q2 : Int, e = .returned (.tuple #[.agg #[.int .i64 (ofV p0 p1 p2).lo, .int .i64 (ofV p0 p1 p2).mi, .int .i64 (ofV p0 p1 p2).sh, .int .i64 (ofV p0 p1 p2).ha, .int .i64 q0, .int .i64 q1, .int .i64 q2], .bool (ofB p0 p1 p2)]) := by
  have eB : rkB p0 p1 p2 = ofB p0 p1 p2 := rfl
  rcases h with ⟨hb, he⟩ | ⟨hb, x0, x1, x2, h, hf, hh, he⟩
  · rw [eB] at hb
    refine ⟨0, 0, 0, ?_⟩
    unfold ofV
    rw [hb]
    exact he
  · rw [eB] at hb
    refine ⟨(x0.k : Nat), (x1.k : Nat), (x2.k : Nat), ?_⟩
    have ht : twc p0 p1 p2 ≠ 0 := by
      intro q
      unfold ofB at hb
      rw [decide_eq_true q] at hb
      simp at hb
    unfold ofV
    rw [hb]
    simp only [if_true]
    rw [rank_shape hf ht, he, hh]
def Shp.cells (s : Shp) : Array Value := #[.int .i64 s.lo, .int .i64 s.mi, .int .i64 s.sh, .int .i64 s.ha]
set_option maxRecDepth 100000 in
set_option maxHeartbeats 3200000 in
theorem shapeL_any (s : Shp) (w : World) : Calls Tryd.prog 14 #[s.val] w fun e w' => e = .returned s.val ∧ Below w.heap.size w w' := by
  obtain ⟨sl, sm, ss, sh⟩ := s
  unfold Shp.val
  simp only
  have z1 := keepA (o' := .cells #[.int .i64 0, .int .i64 0, .int .i64 0, .int .i64 0] 41) (alloc_last w (.cells #[.int .i64 sl, .int .i64 sm, .int .i64 ss, .int .i64 sh] 36))
  have z2 : ((w.alloc (.cells #[.int .i64 sl, .int .i64 sm, .int .i64 ss, .int .i64 sh] 36)).alloc (.cells #[.int .i64 0, .int .i64 0, .int .i64 0, .int .i64 0] 41)).heap[w.heap.size + 1]? = some (.cells #[.int .i64 0, .int .i64 0, .int .i64 0, .int .i64 0] 41) := by
    have := alloc_last (w.alloc (.cells #[.int .i64 sl, .int .i64 sm, .int .i64 ss, .int .i64 sh] 36)) (.cells #[.int .i64 0, .int .i64 0, .int .i64 0, .int .i64 0] 41)
    simpa using this
  have HB := hideR (below_go (below_a w (.cells #[.int .i64 sl, .int .i64 sm, .int .i64 ss, .int .i64 sh] 36)) (below_a (w.alloc (.cells #[.int .i64 sl, .int .i64 sm, .int .i64 ss, .int .i64 sh] 36)) (.cells #[.int .i64 0, .int .i64 0, .int .i64 0, .int .i64 0] 41)))
  go_enter Tryd.func14, Tryd.ntmps14
  go_upto_region 1 with fail
  generalize (w.alloc (.cells #[.int .i64 sl, .int .i64 sm, .int .i64 ss, .int .i64 sh] 36)).alloc (.cells #[.int .i64 0, .int .i64 0, .int .i64 0, .int .i64 0] 41) = u at *
  obtain ⟨K, hK⟩ : ∃ K, w.heap.size = K := ⟨_, rfl⟩
  have HK := hideR hK
  rw [hK] at z1 z2 ⊢
  clear hK
  have x0 := (cells_at z1 0 (by simp)).1
  have x1 := (cells_at z1 1 (by simp)).1
  have x2 := (cells_at z1 2 (by simp)).1
  have x3 := (cells_at z1 3 (by simp)).1
  have o0 := (cells_at z2 0 (by simp)).1
  have o1 := (cells_at z2 1 (by simp)).1
  have o2 := (cells_at z2 2 (by simp)).1
  have o3 := (cells_at z2 3 (by simp)).1
  have f0 := (cells_at z2 0 (by simp)).2
  have f1 := (cells_at z2 1 (by simp)).2
  have f2 := (cells_at z2 2 (by simp)).2
  have f3 := (cells_at z2 3 (by simp)).2
  have HF := hideR (set4_bl (unhideR HB) 0 (show w.heap.size ≤ K + 1 by have := unhideR HK; omega) (.int .i64 sl) (.int .i64 sm) (.int .i64 ss) (.int .i64 sh))
  clear z1 z2 HB HK
  go_wp2
  simp [bodyPost, results, Tryd.results14, go_sem, o0, o1, o2, o3]
  exact unhideR HF
theorem shaped_of : ofB ⟨0, 0, 0⟩ ⟨3, 0, 0⟩ ⟨0, 4, 0⟩ = true ∧ (ofV ⟨0, 0, 0⟩ ⟨3, 0, 0⟩ ⟨0, 4, 0⟩).lo = 25 ∧ (ofV ⟨0, 0, 0⟩ ⟨3, 0, 0⟩ ⟨0, 4, 0⟩).sh = 9 := by decide +kernel
set_option maxRecDepth 100000 in
set_option maxHeartbeats 3200000 in
theorem shaped_any (w : World) : Calls Tryd.prog 10 #[] w fun e w' => e = .returned (.bool true) ∧ Below w.heap.size w w' := by
  have ho := of_any ⟨0, 0, 0⟩ ⟨3, 0, 0⟩ ⟨0, 4, 0⟩ w
  obtain ⟨h1, h2, h3⟩ := shaped_of
  unfold Pt.val Shp.val at ho
  rw [h1, h2, h3] at ho
  generalize (ofV ⟨0, 0, 0⟩ ⟨3, 0, 0⟩ ⟨0, 4, 0⟩).mi = m at *
  generalize (ofV ⟨0, 0, 0⟩ ⟨3, 0, 0⟩ ⟨0, 4, 0⟩).ha = h at *
  clear h1 h2 h3
  go_enter Tryd.func10, Tryd.ntmps10
  go_wp2_with fail
  refine ho.mono ?_
  rintro e v ⟨rfl, k⟩
  have HB := hideR (below_go k (below_a v (.cells #[.int .i64 25, .int .i64 m, .int .i64 9, .int .i64 h] 41)))
  clear k ho
  go_wp2
  go_ret
  exact ⟨rfl, unhideR HB⟩
end Go.Proofs.YtkdmeclbnnjdgalDoor
