/-
  A row of whole numbers that is made and written; a row of truths that came in; a row's sum.
-/
import Derived.Test.YtgmaganajfcpbaiDoorSpLs
namespace Go.Proofs.YtgmaganajfcpbaiDoor
open Go Go.RowKit

theorem make_zeroS {w : World} {n : Nat} (B : Nat) (hB : B ≤ w.heap.size) (hn : n ≤ 65536) : ∃ w', (Instr.makeSlice 25 (.int .i64 (n : Int)) (.int .i64 (n : Int))).run Tryd.prog w = .ok (.slice (some ⟨w.heap.size, 0, none⟩) n n) w' ∧ IOwn w' B (.slice (some ⟨w.heap.size, 0, none⟩) n n) (List.replicate n 0) ∧ Below w.heap.size w w' := by
  obtain ⟨i0, hi0, hz0, hz1, hz2⟩ := info_parts infoI
  obtain ⟨w', h1, h2, h3⟩ := run_make_full (P := Tryd.prog) w B 25 3 i0 (.int .i64 0) 1 (by kernel_rfl) hi0 hz0 hz1 .i64 .i64 n (by rw [hz2]; omega) (by simp [maxLen]; omega) hB
  refine ⟨w', h1, ?_, (Below.refl _ _).grown h3 (Nat.le_refl _) (fun k hk => by cases hk)⟩
  unfold IOwn
  have e : (madeCells (Value.cells (.int .i64 0)) (n * 1)).toList = (List.replicate n (0 : Int)).map (Value.int .i64) := by
    rw [Nat.mul_one, show (Value.cells (.int .i64 0)) = #[.int .i64 0] from rfl, toList_madeCells_one, List.map_replicate]
  rw [← e, List.length_replicate]
  exact h2
theorem IOwn.has {w : World} {B g n c : Nat} {C : List Int} (h : IOwn w B (.slice (some ⟨g, 0, none⟩) n c) C) (hn : C.length = n) {k : Nat} (hk : k < n) : w.cell? ⟨g, k, none⟩ = some (.int .i64 (C.getD k 0)) ∧ w.frozen? ⟨g, k, none⟩ = false := by
  unfold IOwn at h
  rw [hn] at h
  refine ⟨?_, h.frozenAt k⟩
  rw [h.cellAt k (by rw [Nat.mul_one]; exact hk), List.getElem?_map, List.getElem?_eq_getElem (by omega), List.getD_eq_getElem?_getD, List.getElem?_eq_getElem (by omega)]
  rfl
theorem IOwn.put {w : World} {B g n c : Nat} {C : List Int} (h : IOwn w B (.slice (some ⟨g, 0, none⟩) n c) C) (hn : C.length = n) (k : Nat) (x : Int) : IOwn (w.setCell ⟨g, k, none⟩ (.int .i64 x)) B (.slice (some ⟨g, 0, none⟩) n c) (C.set k x) := by
  unfold IOwn at h ⊢
  rw [hn] at h
  rw [List.length_set, hn, List.map_set]
  exact (h.stored k (.int .i64 x)).1
theorem IOwn.low {w : World} {B g n c : Nat} {C : List Int} (h : IOwn w B (.slice (some ⟨g, 0, none⟩) n c) C) : B ≤ g := own_at2 h g rfl
theorem IOwn.row {w : World} {B g n c : Nat} {C : List Int} (h : IOwn w B (.slice (some ⟨g, 0, none⟩) n c) C) : ICame w (some ⟨g, 0, none⟩) C := by
  obtain ⟨ad, cap, e, hc, _⟩ := own_ints h
  injection e with e
  subst e
  exact hc
/-- truths in memory. -/
structure LCame (w : World) (ad : Option Addr) (L : List Bool) : Prop where
  at_ : ∀ k, k < L.length → ∃ b off, ad = some ⟨b, off, none⟩ ∧ b < w.heap.size ∧ w.cell? ⟨b, off + k, none⟩ = some (.bool (L.getD k false))
theorem LCame.below {w v : World} {ad : Option Addr} {L : List Bool} (h : LCame w ad L) (k : Below w.heap.size w v) : LCame v ad L := ⟨fun j hj => by
  obtain ⟨b, off, e, hb, h1⟩ := h.at_ j hj
  exact ⟨b, off, e, Nat.lt_of_lt_of_le hb k.size, (k.cell (p := ⟨b, off + j, none⟩) hb).trans h1⟩⟩
def sumL (C : List Int) : Nat := (C.map Int.toNat).sum
def cellsSum : List Value → Nat
  | [] => 0
  | v :: r => (intOf v).toNat + cellsSum r
def rowSum (w : World) (g : Nat) : Nat := match w.heap[g]? with
  | some (.cells cs _ _) => cellsSum cs.toList
  | _ => 0
theorem cells_sum (C : List Int) : cellsSum (C.map (Value.int .i64)) = sumL C := by
  induction C with
  | nil => rfl
  | cons c C ih =>
    unfold sumL at *
    rw [List.map_cons, List.map_cons, List.sum_cons, ← ih]
    rfl
theorem IOwn.sum {w : World} {B g n : Nat} {C : List Int} (h : IOwn w B (.slice (some ⟨g, 0, none⟩) n n) C) (hn : C.length = n) : rowSum w g = sumL C := by
  unfold IOwn at h
  rw [hn] at h
  rcases h.2 with ⟨h1, _⟩ | ⟨g', c, cur, h1, _, hh, _, _, hs, ht⟩
  · cases h1
  · injection h1 with h1 h2 h3
    injection h1 with h1
    injection h1 with h1
    subst h1
    subst h3
    unfold rowSum
    rw [hh]
    show cellsSum cur.toList = _
    rw [List.take_of_length_le (by rw [Array.length_toList, hs]; exact Nat.le_refl _)] at ht
    rw [ht, cells_sum]
theorem sum_set {C : List Int} {i : Nat} {x : Int} (hi : i < C.length) (h0 : 0 ≤ x) (hx : x < C.getD i 0) : sumL (C.set i x) < sumL C := by
  induction C generalizing i with
  | nil => exact absurd hi (Nat.not_lt_zero i)
  | cons c C ih =>
    cases i with
    | zero =>
      have : x < c := hx
      unfold sumL
      simp only [List.set_cons_zero, List.map_cons, List.sum_cons]
      omega
    | succ i =>
      have := ih (i := i) (by simpa using hi) (by simpa using hx)
      unfold sumL at *
      simp only [List.set_cons_succ, List.map_cons, List.sum_cons]
      omega
end Go.Proofs.YtgmaganajfcpbaiDoor
