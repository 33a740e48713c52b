/-
  A row of complex numbers that is made and written; products: the program's, by contract.
-/
import Derived.Test.YtngdemhhcablmakDoorShRow
import Derived.Laws.OwnMore
import Derived.Laws.MakeOwn
import Derived.Laws.ComplexArith
import Derived.Deep.CutRange
namespace Go.Proofs.YtngdemhhcablmakDoor
open Go Go.RowKit

theorem infoCx : (Tryd.prog.info? 41).map (fun i => (i.zero, i.size, i.bytes)) = some (some (.complex .f64 0 0), 1, 16) := by kernel_rfl
theorem make_zeroC {w : World} {n : Nat} (B : Nat) (hB : B ≤ w.heap.size) (hn : n ≤ 65536) : ∃ w', (Instr.makeSlice 24 (.int .i64 (n : Int)) (.int .i64 (n : Int))).run Tryd.prog w = .ok (.slice (some ⟨w.heap.size, 0, none⟩) n n) w' ∧ CxOwn w' B (.slice (some ⟨w.heap.size, 0, none⟩) n n) (List.replicate n (0, 0)) ∧ Below w.heap.size w w' := by
  obtain ⟨i0, hi0, hz0, hz1, hz2⟩ := info_parts infoCx
  obtain ⟨w', h1, h2, h3⟩ := run_make_full (P := Tryd.prog) w B 24 41 i0 (.complex .f64 0 0) 1 (by kernel_rfl) hi0 hz0 hz1 .i64 .i64 n (by rw [hz2]; omega) (by simp [maxLen]; omega) hB
  refine ⟨w', h1, ?_, (Below.refl _ _).grown h3 (Nat.le_refl _) (fun k hk => by cases hk)⟩
  unfold CxOwn
  have e : (madeCells (Value.cells (.complex .f64 0 0)) (n * 1)).toList = (List.replicate n ((0, 0) : Nat × Nat)).map cxV := by
    rw [Nat.mul_one, show (Value.cells (.complex .f64 0 0)) = #[.complex .f64 0 0] from rfl, toList_madeCells_one, List.map_replicate]
    rfl
  rw [← e, List.length_replicate]
  exact h2
theorem CxOwn.has {w : World} {B g n c : Nat} {C : List (Nat × Nat)} (h : CxOwn w B (.slice (some ⟨g, 0, none⟩) n c) C) (hn : C.length = n) {k : Nat} (hk : k < n) : w.cell? ⟨g, k, none⟩ = some (.complex .f64 (C.getD k (0, 0)).1 (C.getD k (0, 0)).2) ∧ w.frozen? ⟨g, k, none⟩ = false := by
  unfold CxOwn at h
  rw [hn] at h
  refine ⟨?_, h.frozenAt k⟩
  rw [h.cellAt k (by rw [Nat.mul_one]; exact hk), List.getElem?_map, List.getElem?_eq_getElem (by omega), List.getD_eq_getElem?_getD, List.getElem?_eq_getElem (by omega)]
  rfl
theorem CxOwn.put {w : World} {B g n c : Nat} {C : List (Nat × Nat)} (h : CxOwn w B (.slice (some ⟨g, 0, none⟩) n c) C) (hn : C.length = n) (k : Nat) (x : Nat × Nat) : CxOwn (w.setCell ⟨g, k, none⟩ (.complex .f64 x.1 x.2)) B (.slice (some ⟨g, 0, none⟩) n c) (C.set k x) := by
  unfold CxOwn at h ⊢
  rw [hn] at h
  rw [List.length_set, hn, List.map_set]
  exact (h.stored k (.complex .f64 x.1 x.2)).1
theorem CxOwn.low {w : World} {B g n c : Nat} {C : List (Nat × Nat)} (h : CxOwn w B (.slice (some ⟨g, 0, none⟩) n c) C) : B ≤ g := own_at2 h g rfl
theorem CxOwn.lt0 {w : World} {B g n c : Nat} {C : List (Nat × Nat)} (h : CxOwn w B (.slice (some ⟨g, 0, none⟩) n c) C) : g < w.heap.size := by
  unfold CxOwn at h
  rcases h.2 with ⟨h1, _⟩ | ⟨g', c, cur, h1, _, hh, _⟩
  · cases h1
  · injection h1 with h1 _ _
    injection h1 with h1
    injection h1 with h1
    subst h1
    exact (Array.getElem?_eq_some_iff.1 hh).1
theorem CxOwn.row {w : World} {B g n c : Nat} {C : List (Nat × Nat)} (h : CxOwn w B (.slice (some ⟨g, 0, none⟩) n c) C) : CxCame w (some ⟨g, 0, none⟩) C := by
  obtain ⟨ad, cap, e, hc⟩ := h.came
  injection e with e
  subst e
  exact hc
theorem cget_other {M : List (Nat × Nat)} {k i : Nat} (h : i ≠ k) (r : Nat × Nat) : (M.set k r).getD i (0, 0) = M.getD i (0, 0) := by
  rw [List.getD_eq_getElem?_getD, List.getElem?_set_ne (by omega), ← List.getD_eq_getElem?_getD]
theorem cget_same {M : List (Nat × Nat)} {k : Nat} (h : k < M.length) (r : Nat × Nat) : (M.set k r).getD k (0, 0) = r := by
  rw [List.getD_eq_getElem?_getD, List.getElem?_set_self h]
  rfl
theorem cget_zero (n i : Nat) : (List.replicate n ((0, 0) : Nat × Nat)).getD i (0, 0) = (0, 0) := by
  rw [List.getD_eq_getElem?_getD, List.getElem?_replicate]
  split <;> rfl
set_option maxRecDepth 100000 in
set_option maxHeartbeats 4000000 in
theorem sproduct_any (x y : Nat × Nat) (w : World) : Calls Tryd.prog 28 #[.complex .f64 x.1 x.2, .complex .f64 y.1 y.2] w fun e w' => ∃ r : Nat × Nat, e = .returned (.complex .f64 r.1 r.2) ∧ CPr x y r ∧ Below w.heap.size w w' := by
  obtain ⟨x1, x2⟩ := x
  obtain ⟨y1, y2⟩ := y
  go_enter Tryd.func28, Tryd.ntmps28
  go_wp2_with fail
  refine upon_flt fl_mul ?_
  intro ac n1 h1
  go_wp2_with fail
  refine upon_flt fl_mul ?_
  intro bd n2 h2
  go_wp2_with fail
  refine upon_flt fl_sub ?_
  intro r1 n5 h5
  go_wp2_with fail
  refine upon_flt fl_mul ?_
  intro ad n3 h3
  go_wp2_with fail
  refine upon_flt fl_mul ?_
  intro bc n4 h4
  go_wp2_with fail
  refine upon_flt fl_add ?_
  intro r2 n6 h6
  go_wp2
  go_ret
  exact ⟨(r1, r2), rfl, ⟨ac, bd, ad, bc, h1, h2, h3, h4, h5, h6⟩, below_drewN (Below.refl _ _) _⟩
end Go.Proofs.YtngdemhhcablmakDoor
