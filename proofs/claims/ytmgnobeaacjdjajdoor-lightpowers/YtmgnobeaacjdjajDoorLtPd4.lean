/-
  A row of powers that is made.
-/
import Derived.Test.YtmgnobeaacjdjajDoorLtPd0
import Derived.Test.YtmgnobeaacjdjajDoorLtPd2
import Derived.Test.YtmgnobeaacjdjajDoorDT2e
import Derived.Laws.MakeOwn
namespace Go.Proofs.YtmgnobeaacjdjajDoor
open Go Go.RowKit

/-- a row of numbers with a point that was made. -/
def FlOwn (w : World) (B : Nat) (v : Value) (C : List Nat) : Prop := w.ownsRow B 48 1 v C.length (C.map (Value.float .f64))
theorem infoFl : (Tryd.prog.info? 48).map (fun i => (i.zero, i.size, i.bytes)) = some (some (.float .f64 0), 1, 8) := by kernel_rfl
theorem make_zeroF {w : World} {n : Nat} (B : Nat) (hB : B ≤ w.heap.size) (hn : n ≤ 65536) : ∃ w', (Instr.makeSlice 45 (.int .i64 (n : Int)) (.int .i64 (n : Int))).run Tryd.prog w = .ok (.slice (some ⟨w.heap.size, 0, none⟩) n n) w' ∧ FlOwn w' B (.slice (some ⟨w.heap.size, 0, none⟩) n n) (List.replicate n 0) ∧ Below w.heap.size w w' := by
  obtain ⟨i0, hi0, hz0, hz1, hz2⟩ := info_parts infoFl
  obtain ⟨w', h1, h2, h3⟩ := run_make_full (P := Tryd.prog) w B 45 48 i0 (.float .f64 0) 1 (by kernel_rfl) hi0 hz0 hz1 .i64 .i64 n (by rw [hz2]; omega) (by simp [maxLen]; omega) hB
  refine ⟨w', h1, ?_, (Below.refl _ _).grown h3 (Nat.le_refl _) (fun k hk => by cases hk)⟩
  unfold FlOwn
  have e : (madeCells (Value.cells (.float .f64 0)) (n * 1)).toList = (List.replicate n (0 : Nat)).map (Value.float .f64) := by
    rw [Nat.mul_one, show (Value.cells (.float .f64 0)) = #[.float .f64 0] from rfl, toList_madeCells_one, List.map_replicate]
  rw [← e, List.length_replicate]
  exact h2
theorem FlOwn.has {w : World} {B g n c : Nat} {C : List Nat} (h : FlOwn w B (.slice (some ⟨g, 0, none⟩) n c) C) (hn : C.length = n) {k : Nat} (hk : k < n) : w.cell? ⟨g, k, none⟩ = some (.float .f64 (C.getD k 0)) ∧ w.frozen? ⟨g, k, none⟩ = false := by
  unfold FlOwn at h
  rw [hn] at h
  refine ⟨?_, h.frozenAt k⟩
  rw [h.cellAt k (by rw [Nat.mul_one]; exact hk), List.getElem?_map, List.getElem?_eq_getElem (by omega), List.getD_eq_getElem?_getD, List.getElem?_eq_getElem (by omega)]
  rfl
theorem FlOwn.put {w : World} {B g n c : Nat} {C : List Nat} (h : FlOwn w B (.slice (some ⟨g, 0, none⟩) n c) C) (hn : C.length = n) (k : Nat) (x : Nat) : FlOwn (w.setCell ⟨g, k, none⟩ (.float .f64 x)) B (.slice (some ⟨g, 0, none⟩) n c) (C.set k x) := by
  unfold FlOwn at h ⊢
  rw [hn] at h
  rw [List.length_set, hn, List.map_set]
  exact (h.stored k (.float .f64 x)).1
theorem FlOwn.below {w w' : World} {B : Nat} {v : Value} {C : List Nat} (h : FlOwn w B v C) (k : Below w.heap.size w w') : FlOwn w' B v C := own_below2 h k
theorem FlOwn.lt0 {w : World} {B g n c : Nat} {C : List Nat} (h : FlOwn w B (.slice (some ⟨g, 0, none⟩) n c) C) : g < w.heap.size := by
  unfold FlOwn at h
  rcases h.2 with ⟨h1, _⟩ | ⟨g', c, cur, h1, _, hh, _⟩
  · cases h1
  · injection h1 with h1 _ _
    injection h1 with h1
    injection h1 with h1
    subst h1
    exact (Array.getElem?_eq_some_iff.1 hh).1
theorem FlOwn.row {w : World} {B g n c : Nat} {C : List Nat} (h : FlOwn w B (.slice (some ⟨g, 0, none⟩) n c) C) (hn : C.length = n) : FCame w (some ⟨g, 0, none⟩) C := ⟨fun k hk => ⟨g, 0, rfl, h.lt0, by
  rw [Nat.zero_add]
  exact (h.has hn (by rw [← hn]; exact hk)).1⟩⟩
/-- the first k powers, then noughts. -/
structure PwK (T : List Int) (L : List Nat) (step fr : Int) (n m : Nat) (X : List Nat) (k : Nat) : Prop where
  len : X.length = m
  is : ∀ j, j < k → PwEnd T L (fr + (j : Int) * step) n (X.getD j 0)
theorem PwK.next {T : List Int} {L : List Nat} {step fr : Int} {n m k r : Nat} {X : List Nat} (h : PwK T L step fr n m X k) (hk : k < m) (hr : PwEnd T L (fr + (k : Int) * step) n r) : PwK T L step fr n m (X.set k r) (k + 1) := by
  refine ⟨by rw [List.length_set]; exact h.len, fun j hj => ?_⟩
  by_cases e : j = k
  · subst e
    rw [List.getD_eq_getElem?_getD, List.getElem?_set_self (by rw [h.len]; exact hk)]
    exact hr
  · rw [List.getD_eq_getElem?_getD, List.getElem?_set_ne (by omega), ← List.getD_eq_getElem?_getD]
    exact h.is j (by omega)
theorem pd_none {a : Nat → Addr} {T : List Int} {L : List Nat} {step fr many : Int} {w w' : World} {er : Value} (h : ErrIs a (powE T L.length step fr many) er) (h0 : powE T L.length step fr many ≠ 0) (k : Below w.heap.size w w') : PwPost a T L step fr many w (.returned (.tuple #[.slice none 0 0, er])) w' :=
  ⟨[], none, 0, er, rfl, h, fun _ => rfl, fun q => absurd q h0, FCame.nil _ _, k⟩
theorem step_fits {s f k : Int} (hs : -1099511627776 ≤ s ∧ s ≤ 1099511627776) (hf : -1099511627776 ≤ f ∧ f ≤ 1099511627776) (h0 : 0 ≤ k) (h1 : k ≤ 4000) : IntKind.i64.wrap (k * s) = k * s ∧ IntKind.i64.wrap (f + k * s) = f + k * s := by
  have a1 : k * s ≤ 4000 * 1099511627776 := by
    by_cases q : 0 ≤ s
    · exact Int.mul_le_mul h1 hs.2 q (by decide)
    · have : k * s ≤ 0 := Int.mul_nonpos_of_nonneg_of_nonpos h0 (by omega)
      omega
  have a2 : -(4000 * 1099511627776) ≤ k * s := by
    have q := (show k * (-s) ≤ 4000 * 1099511627776 from by
      by_cases q : 0 ≤ -s
      · exact Int.mul_le_mul h1 (by omega) q (by decide)
      · have : k * (-s) ≤ 0 := Int.mul_nonpos_of_nonneg_of_nonpos h0 (by omega)
        omega)
    rw [Int.mul_neg] at q
    omega
  exact ⟨iwrap (by omega) (by omega), iwrap (by omega) (by omega)⟩
theorem large_no {n : Int} (h : largeB n = false) : -1099511627776 ≤ n ∧ n ≤ 1099511627776 := by
  have := of_decide_eq_false h
  omega
end Go.Proofs.YtmgnobeaacjdjajDoor
