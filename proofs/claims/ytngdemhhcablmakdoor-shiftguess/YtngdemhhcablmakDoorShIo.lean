/-
  A row of whole numbers that is made and written.
-/
import Derived.Test.YtngdemhhcablmakDoorKitA
import Derived.OwnWalk
import Derived.Laws.OwnMore
import Derived.Laws.MakeOwn
namespace Go.Proofs.YtngdemhhcablmakDoor
open Go Go.RowKit

def JOwn (w : World) (B : Nat) (v : Value) (C : List Int) : Prop := w.ownsRow B 3 1 v C.length (C.map (Value.int .i64))
theorem JOwn.below {w w' : World} {B : Nat} {v : Value} {C : List Int} (h : JOwn w B v C) (k : Below w.heap.size w w') : JOwn w' B v C := own_below2 h k
theorem infoJ : (Tryd.prog.info? 3).map (fun i => (i.zero, i.size, i.bytes)) = some (some (.int .i64 0), 1, 8) := by kernel_rfl
theorem make_zeroJ {w : World} {n : Nat} (B : Nat) (hB : B ≤ w.heap.size) (hn : n ≤ 65536) : ∃ w', (Instr.makeSlice 43 (.int .i64 (n : Int)) (.int .i64 (n : Int))).run Tryd.prog w = .ok (.slice (some ⟨w.heap.size, 0, none⟩) n n) w' ∧ JOwn w' B (.slice (some ⟨w.heap.size, 0, none⟩) n n) (List.replicate n 0) ∧ Below w.heap.size w w' := by
  obtain ⟨i0, hi0, hz0, hz1, hz2⟩ := info_parts infoJ
  obtain ⟨w', h1, h2, h3⟩ := run_make_full (P := Tryd.prog) w B 43 3 i0 (.int .i64 0) 1 (by kernel_rfl) hi0 hz0 hz1 .i64 .i64 n (by rw [hz2]; omega) (by simp [maxLen]; omega) hB
  refine ⟨w', h1, ?_, (Below.refl _ _).grown h3 (Nat.le_refl _) (fun k hk => by cases hk)⟩
  unfold JOwn
  have e : (madeCells (Value.cells (.int .i64 0)) (n * 1)).toList = (List.replicate n (0 : Int)).map (Value.int .i64) := by
    rw [Nat.mul_one, show (Value.cells (.int .i64 0)) = #[.int .i64 0] from rfl, toList_madeCells_one, List.map_replicate]
  rw [← e, List.length_replicate]
  exact h2
theorem JOwn.has {w : World} {B g n c : Nat} {C : List Int} (h : JOwn w B (.slice (some ⟨g, 0, none⟩) n c) C) (hn : C.length = n) {k : Nat} (hk : k < n) : w.cell? ⟨g, k, none⟩ = some (.int .i64 (C.getD k 0)) ∧ w.frozen? ⟨g, k, none⟩ = false := by
  unfold JOwn at h
  rw [hn] at h
  refine ⟨?_, h.frozenAt k⟩
  rw [h.cellAt k (by rw [Nat.mul_one]; exact hk), List.getElem?_map, List.getElem?_eq_getElem (by omega), List.getD_eq_getElem?_getD, List.getElem?_eq_getElem (by omega)]
  rfl
theorem JOwn.put {w : World} {B g n c : Nat} {C : List Int} (h : JOwn w B (.slice (some ⟨g, 0, none⟩) n c) C) (hn : C.length = n) (k : Nat) (x : Int) : JOwn (w.setCell ⟨g, k, none⟩ (.int .i64 x)) B (.slice (some ⟨g, 0, none⟩) n c) (C.set k x) := by
  unfold JOwn at h ⊢
  rw [hn] at h
  rw [List.length_set, hn, List.map_set]
  exact (h.stored k (.int .i64 x)).1
theorem JOwn.row {w : World} {B g n c : Nat} {C : List Int} (h : JOwn w B (.slice (some ⟨g, 0, none⟩) n c) C) : ICame w (some ⟨g, 0, none⟩) C := by
  obtain ⟨ad, cap, e, hc, _⟩ := own_ints h
  injection e with e
  subst e
  exact hc
end Go.Proofs.YtngdemhhcablmakDoor
