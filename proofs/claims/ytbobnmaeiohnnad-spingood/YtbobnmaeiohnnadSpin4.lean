/-
  Matrices made row by row by a function value: the program's, by contracts.
-/
import Derived.Test.YtbobnmaeiohnnadSpin2
import Derived.Test.YtbobnmaeiohnnadLoose2
namespace Go.Proofs.Ytbobnmaeiohnnad
open Go Go.RowKit

theorem set_three {w : World} {b i : Nat} {cs : Array Value} {t : TypeId} {x y z : Value} (h : w.heap[b]? = some (.cells cs t (0, 0))) :
    (((w.setCell ⟨b, i, none⟩ x).setCell ⟨b, i + 1, none⟩ y).setCell ⟨b, i + 2, none⟩ z).heap[b]? = some (.cells (((cs.setIfInBounds i x).setIfInBounds (i + 1) y).setIfInBounds (i + 2) z) t (0, 0)) :=
  heap_setCell_same _ _ _ _ _ _ (heap_setCell_same _ _ _ _ _ _ (heap_setCell_same _ _ _ _ _ _ h))
theorem set_three_other {w : World} {b k i : Nat} {x y z : Value} (h : k ≠ b) : (((w.setCell ⟨b, i, none⟩ x).setCell ⟨b, i + 1, none⟩ y).setCell ⟨b, i + 2, none⟩ z).heap[k]? = w.heap[k]? := by
  rw [heap_setCell_other _ _ _ _ h, heap_setCell_other _ _ _ _ h, heap_setCell_other _ _ _ _ h]
theorem alloc_block {w : World} {o : Obj} {b : Nat} (h : b < w.heap.size) : (w.alloc o).heap[b]? = w.heap[b]? := by
  show (w.heap.push o)[b]? = _
  rw [Array.getElem?_push, if_neg (by omega)]
theorem alloc_last (w : World) (o : Obj) : (w.alloc o).heap[w.heap.size]? = some o := by
  show (w.heap.push o)[w.heap.size]? = _
  exact Array.getElem?_push_size
def nine (a b c d e f g h i : Nat) : Array Value := #[.float .f64 a, .float .f64 b, .float .f64 c, .float .f64 d, .float .f64 e, .float .f64 f, .float .f64 g, .float .f64 h, .float .f64 i]
theorem nine_at {w : World} {b : Nat} {t : TypeId} {x0 x1 x2 x3 x4 x5 x6 x7 x8 : Nat} (h : w.heap[b]? = some (.cells (nine x0 x1 x2 x3 x4 x5 x6 x7 x8) t (0, 0))) :
    (w.cell? ⟨b, 0, none⟩ = some (.float .f64 x0) ∧ w.cell? ⟨b, 1, none⟩ = some (.float .f64 x1) ∧ w.cell? ⟨b, 2, none⟩ = some (.float .f64 x2) ∧ w.cell? ⟨b, 3, none⟩ = some (.float .f64 x3) ∧ w.cell? ⟨b, 4, none⟩ = some (.float .f64 x4) ∧ w.cell? ⟨b, 5, none⟩ = some (.float .f64 x5) ∧ w.cell? ⟨b, 6, none⟩ = some (.float .f64 x6) ∧ w.cell? ⟨b, 7, none⟩ = some (.float .f64 x7) ∧ w.cell? ⟨b, 8, none⟩ = some (.float .f64 x8)) ∧
    ∀ i, i < 9 → w.frozen? ⟨b, i, none⟩ = false :=
  ⟨⟨(cells_at h 0 (by simp [nine])).1, (cells_at h 1 (by simp [nine])).1, (cells_at h 2 (by simp [nine])).1, (cells_at h 3 (by simp [nine])).1, (cells_at h 4 (by simp [nine])).1, (cells_at h 5 (by simp [nine])).1, (cells_at h 6 (by simp [nine])).1, (cells_at h 7 (by simp [nine])).1, (cells_at h 8 (by simp [nine])).1⟩, fun i hi => (cells_at h i (by simpa [nine] using hi)).2⟩
theorem made_step0 {w : World} {b : Nat} {t : TypeId} {o : Obj} {r0 r1 r2 x0 x1 x2 x3 x4 x5 x6 x7 x8 : Nat} (hl : b < w.heap.size) (h : w.heap[b]? = some (.cells (nine x0 x1 x2 x3 x4 x5 x6 x7 x8) t (0, 0))) :
    ((((w.setCell ⟨b, 0, none⟩ (.float .f64 r0)).setCell ⟨b, 1, none⟩ (.float .f64 r1)).setCell ⟨b, 2, none⟩ (.float .f64 r2)).alloc o).heap[b]? = some (.cells (nine r0 r1 r2 x3 x4 x5 x6 x7 x8) t (0, 0)) := by
  rw [alloc_block (by simpa using hl), set_three (i := 0) h]
  simp [nine]
theorem made_step1 {w : World} {b : Nat} {t : TypeId} {o : Obj} {r0 r1 r2 x0 x1 x2 x3 x4 x5 x6 x7 x8 : Nat} (hl : b < w.heap.size) (h : w.heap[b]? = some (.cells (nine x0 x1 x2 x3 x4 x5 x6 x7 x8) t (0, 0))) :
    ((((w.setCell ⟨b, 3, none⟩ (.float .f64 r0)).setCell ⟨b, 4, none⟩ (.float .f64 r1)).setCell ⟨b, 5, none⟩ (.float .f64 r2)).alloc o).heap[b]? = some (.cells (nine x0 x1 x2 r0 r1 r2 x6 x7 x8) t (0, 0)) := by
  rw [alloc_block (by simpa using hl), set_three (i := 3) h]
  simp [nine]
theorem made_step2 {w : World} {b : Nat} {t : TypeId} {o : Obj} {r0 r1 r2 x0 x1 x2 x3 x4 x5 x6 x7 x8 : Nat} (hl : b < w.heap.size) (h : w.heap[b]? = some (.cells (nine x0 x1 x2 x3 x4 x5 x6 x7 x8) t (0, 0))) :
    ((((w.setCell ⟨b, 6, none⟩ (.float .f64 r0)).setCell ⟨b, 7, none⟩ (.float .f64 r1)).setCell ⟨b, 8, none⟩ (.float .f64 r2)).alloc o).heap[b]? = some (.cells (nine x0 x1 x2 x3 x4 x5 r0 r1 r2) t (0, 0)) := by
  rw [alloc_block (by simpa using hl), set_three (i := 6) h]
  simp [nine]
theorem made_other {w : World} {b c i j k : Nat} {o : Obj} {x y z : Value} (hl : c < w.heap.size) (hc : c ≠ b) :
    ((((w.setCell ⟨b, i, none⟩ x).setCell ⟨b, j, none⟩ y).setCell ⟨b, k, none⟩ z).alloc o).heap[c]? = w.heap[c]? := by
  rw [alloc_block (by simpa using hl), heap_setCell_other _ _ _ _ hc, heap_setCell_other _ _ _ _ hc, heap_setCell_other _ _ _ _ hc]
theorem made_below {w v : World} {b i j k : Nat} {o : Obj} {x y z : Value} (h : Below w.heap.size w v) (hb : w.heap.size ≤ b) (hv : w.heap.size ≤ v.heap.size) :
    Below w.heap.size w ((((v.setCell ⟨b, i, none⟩ x).setCell ⟨b, j, none⟩ y).setCell ⟨b, k, none⟩ z).alloc o) :=
  (((h.setCell hb x).setCell hb y).setCell hb z).alloc (by simpa using hv) o
theorem below_nine {w v : World} {b : Nat} (h : Below w.heap.size w v) (hb : w.heap.size ≤ b) (x0 x1 x2 x3 x4 x5 x6 x7 x8 : Value) :
    Below w.heap.size w (((((((((v.setCell ⟨b, 0, none⟩ x0).setCell ⟨b, 1, none⟩ x1).setCell ⟨b, 2, none⟩ x2).setCell ⟨b, 3, none⟩ x3).setCell ⟨b, 4, none⟩ x4).setCell ⟨b, 5, none⟩ x5).setCell ⟨b, 6, none⟩ x6).setCell ⟨b, 7, none⟩ x7).setCell ⟨b, 8, none⟩ x8) :=
  ((((((((h.setCell hb x0).setCell hb x1).setCell hb x2).setCell hb x3).setCell hb x4).setCell hb x5).setCell hb x6).setCell hb x7).setCell hb x8
/-- what has been made so far. -/
structure Made (Rel : Nat → Nat → Nat → Nat → Prop) (k x0 x1 x2 x3 x4 x5 x6 x7 x8 : Nat) : Prop where
  a : 0 < k → Rel 0 x0 x1 x2
  b : 1 < k → Rel 1 x3 x4 x5
  c : 2 < k → Rel 2 x6 x7 x8
set_option maxHeartbeats 8000000 in
theorem madeM_any (Rel : Nat → Nat → Nat → Nat → Prop) (pa pb : Addr) (w : World)
    (hf : ∀ i : Nat, i < 3 → ∀ v, Below w.heap.size w v → Calls Try.prog 62 #[.int .i64 (i : Int), .pointer (some pa), .pointer (some pb)] v fun e v' => ∃ r0 r1 r2, e = .returned (.agg #[.float .f64 r0, .float .f64 r1, .float .f64 r2]) ∧ Rel i r0 r1 r2 ∧ Below v.heap.size v v') :
    Calls Try.prog 61 #[.func (.func 62) #[] #[.pointer (some pa), .pointer (some pb)]] w fun e w' => ∃ x0 x1 x2 x3 x4 x5 x6 x7 x8, e = .returned (.agg (nine x0 x1 x2 x3 x4 x5 x6 x7 x8)) ∧ Made Rel 3 x0 x1 x2 x3 x4 x5 x6 x7 x8 ∧ Below w.heap.size w w' := by
  have hsf := run_store_float Try.prog
  have HF := hideR hf
  clear hf
  go_enter Try.func61, Try.ntmps61
  go_wp2
  go_loopw [6] (fun kv wl => ∃ k x0 x1 x2 x3 x4 x5 x6 x7 x8 : Nat, k ≤ 3 ∧ kv = .int .i64 (k : Nat) ∧ wl.heap[w.heap.size + 1]? = some (.cells (nine x0 x1 x2 x3 x4 x5 x6 x7 x8) 50 (0, 0)) ∧ wl.heap[w.heap.size]? = some (.cells (nine 0 0 0 0 0 0 0 0 0) 50 (0, 0)) ∧ Made Rel k x0 x1 x2 x3 x4 x5 x6 x7 x8 ∧ Below w.heap.size w wl) (fun kv _ => 3 - (intOf kv).toNat)
  case atStart =>
    refine ⟨0, 0, 0, 0, 0, 0, 0, 0, 0, 0, by omega, rfl, ?_, ?_, ⟨fun h => absurd h (by omega), fun h => absurd h (by omega), fun h => absurd h (by omega)⟩, below_al2 w _ _⟩
    · exact (two_blocks (Below.refl _ _)).2.1
    · exact (two_blocks (Below.refl _ _)).1
  case round =>
    obtain ⟨k, x0, x1, x2, x3, x4, x5, x6, x7, x8, hk, rfl, h1, h0, hM, hB⟩ := hrel
    rcases (show k = 0 ∨ k = 1 ∨ k = 2 ∨ k = 3 by omega) with rfl | rfl | rfl | rfl
    · have hl1 : w.heap.size + 1 < wr.heap.size := (Array.getElem?_eq_some_iff.1 h1).1
      go_wp2_with fail
      refine (unhideR HF 0 (by omega) _ hB).mono ?_
      rintro e w2 ⟨r0, r1, r2, rfl, hR, k2⟩
      have b1 := (k2.block _ hl1).trans h1
      have b0 := (k2.block w.heap.size (by omega)).trans h0
      have hl2 : w.heap.size + 1 < w2.heap.size := Nat.lt_of_lt_of_le hl1 k2.size
      have HB := hideR (below_go hB k2)
      have HR := hideR hR
      have HM := hideR hM
      obtain ⟨⟨c0, c1, c2, c3, c4, c5, c6, c7, c8⟩, cf⟩ := nine_at b1
      have f0 := cf 0 (by omega)
      have f1 := cf 1 (by omega)
      have f2 := cf 2 (by omega)
      have B1 := hideR b1
      have B0 := hideR b0
      clear cf hB k2 h1 h0 hl1 hR hM b1 b0
      go_wp2
      have hR := unhideR HR
      have hM := unhideR HM
      exact ⟨⟨1, r0, r1, r2, x3, x4, x5, x6, x7, x8, by omega, rfl, made_step0 hl2 (unhideR B1), (made_other (by omega) (by omega)).trans (unhideR B0), ⟨fun _ => hR, fun h => absurd h (by omega), fun h => absurd h (by omega)⟩, made_below (unhideR HB) (by omega) (by omega)⟩, by simp [intOf]⟩
    · have hl1 : w.heap.size + 1 < wr.heap.size := (Array.getElem?_eq_some_iff.1 h1).1
      go_wp2_with fail
      refine (unhideR HF 1 (by omega) _ hB).mono ?_
      rintro e w2 ⟨r0, r1, r2, rfl, hR, k2⟩
      have b1 := (k2.block _ hl1).trans h1
      have b0 := (k2.block w.heap.size (by omega)).trans h0
      have hl2 : w.heap.size + 1 < w2.heap.size := Nat.lt_of_lt_of_le hl1 k2.size
      have HB := hideR (below_go hB k2)
      have HR := hideR hR
      have HM := hideR hM
      obtain ⟨⟨c0, c1, c2, c3, c4, c5, c6, c7, c8⟩, cf⟩ := nine_at b1
      have f0 := cf 3 (by omega)
      have f1 := cf 4 (by omega)
      have f2 := cf 5 (by omega)
      have B1 := hideR b1
      have B0 := hideR b0
      clear cf hB k2 h1 h0 hl1 hR hM b1 b0
      go_wp2
      have hR := unhideR HR
      have hM := unhideR HM
      exact ⟨⟨2, x0, x1, x2, r0, r1, r2, x6, x7, x8, by omega, rfl, made_step1 hl2 (unhideR B1), (made_other (by omega) (by omega)).trans (unhideR B0), ⟨fun _ => hM.a (by omega), fun _ => hR, fun h => absurd h (by omega)⟩, made_below (unhideR HB) (by omega) (by omega)⟩, by simp [intOf]⟩
    · have hl1 : w.heap.size + 1 < wr.heap.size := (Array.getElem?_eq_some_iff.1 h1).1
      go_wp2_with fail
      refine (unhideR HF 2 (by omega) _ hB).mono ?_
      rintro e w2 ⟨r0, r1, r2, rfl, hR, k2⟩
      have b1 := (k2.block _ hl1).trans h1
      have b0 := (k2.block w.heap.size (by omega)).trans h0
      have hl2 : w.heap.size + 1 < w2.heap.size := Nat.lt_of_lt_of_le hl1 k2.size
      have HB := hideR (below_go hB k2)
      have HR := hideR hR
      have HM := hideR hM
      obtain ⟨⟨c0, c1, c2, c3, c4, c5, c6, c7, c8⟩, cf⟩ := nine_at b1
      have f0 := cf 6 (by omega)
      have f1 := cf 7 (by omega)
      have f2 := cf 8 (by omega)
      have B1 := hideR b1
      have B0 := hideR b0
      clear cf hB k2 h1 h0 hl1 hR hM b1 b0
      go_wp2
      have hR := unhideR HR
      have hM := unhideR HM
      exact ⟨⟨3, x0, x1, x2, x3, x4, x5, r0, r1, r2, by omega, rfl, made_step2 hl2 (unhideR B1), (made_other (by omega) (by omega)).trans (unhideR B0), ⟨fun _ => hM.a (by omega), fun _ => hM.b (by omega), fun _ => hR⟩, made_below (unhideR HB) (by omega) (by omega)⟩, by simp [intOf]⟩
    · obtain ⟨⟨c0, c1, c2, c3, c4, c5, c6, c7, c8⟩, _⟩ := nine_at h1
      obtain ⟨⟨d0, d1, d2, d3, d4, d5, d6, d7, d8⟩, df⟩ := nine_at h0
      have f0 := df 0 (by omega)
      have f1 := df 1 (by omega)
      have f2 := df 2 (by omega)
      have f3 := df 3 (by omega)
      have f4 := df 4 (by omega)
      have f5 := df 5 (by omega)
      have f6 := df 6 (by omega)
      have f7 := df 7 (by omega)
      have f8 := df 8 (by omega)
      have HB := hideR hB
      have HM := hideR hM
      clear df h0 h1 hB hM
      go_wp2
      simp [bodyPost, results, Try.results61, go_sem, d0, d1, d2, d3, d4, d5, d6, d7, d8]
      exact ⟨x0, x1, x2, x3, x4, x5, x6, x7, x8, rfl, unhideR HM, below_nine (unhideR HB) (Nat.le_refl _) _ _ _ _ _ _ _ _ _⟩
set_option maxHeartbeats 8000000 in
theorem madeT_any (Rel : Nat → Nat → Nat → Nat → Prop) (pa : Addr) (w : World)
    (hf : ∀ i : Nat, i < 3 → ∀ v, Below w.heap.size w v → Calls Try.prog 64 #[.int .i64 (i : Int), .pointer (some pa)] v fun e v' => ∃ r0 r1 r2, e = .returned (.agg #[.float .f64 r0, .float .f64 r1, .float .f64 r2]) ∧ Rel i r0 r1 r2 ∧ Below v.heap.size v v') :
    Calls Try.prog 61 #[.func (.func 64) #[] #[.pointer (some pa)]] w fun e w' => ∃ x0 x1 x2 x3 x4 x5 x6 x7 x8, e = .returned (.agg (nine x0 x1 x2 x3 x4 x5 x6 x7 x8)) ∧ Made Rel 3 x0 x1 x2 x3 x4 x5 x6 x7 x8 ∧ Below w.heap.size w w' := by
  have hsf := run_store_float Try.prog
  have HF := hideR hf
  clear hf
  go_enter Try.func61, Try.ntmps61
  go_wp2
  go_loopw [6] (fun kv wl => ∃ k x0 x1 x2 x3 x4 x5 x6 x7 x8 : Nat, k ≤ 3 ∧ kv = .int .i64 (k : Nat) ∧ wl.heap[w.heap.size + 1]? = some (.cells (nine x0 x1 x2 x3 x4 x5 x6 x7 x8) 50 (0, 0)) ∧ wl.heap[w.heap.size]? = some (.cells (nine 0 0 0 0 0 0 0 0 0) 50 (0, 0)) ∧ Made Rel k x0 x1 x2 x3 x4 x5 x6 x7 x8 ∧ Below w.heap.size w wl) (fun kv _ => 3 - (intOf kv).toNat)
  case atStart =>
    refine ⟨0, 0, 0, 0, 0, 0, 0, 0, 0, 0, by omega, rfl, ?_, ?_, ⟨fun h => absurd h (by omega), fun h => absurd h (by omega), fun h => absurd h (by omega)⟩, below_al2 w _ _⟩
    · exact (two_blocks (Below.refl _ _)).2.1
    · exact (two_blocks (Below.refl _ _)).1
  case round =>
    obtain ⟨k, x0, x1, x2, x3, x4, x5, x6, x7, x8, hk, rfl, h1, h0, hM, hB⟩ := hrel
    rcases (show k = 0 ∨ k = 1 ∨ k = 2 ∨ k = 3 by omega) with rfl | rfl | rfl | rfl
    · have hl1 : w.heap.size + 1 < wr.heap.size := (Array.getElem?_eq_some_iff.1 h1).1
      go_wp2_with fail
      refine (unhideR HF 0 (by omega) _ hB).mono ?_
      rintro e w2 ⟨r0, r1, r2, rfl, hR, k2⟩
      have b1 := (k2.block _ hl1).trans h1
      have b0 := (k2.block w.heap.size (by omega)).trans h0
      have hl2 : w.heap.size + 1 < w2.heap.size := Nat.lt_of_lt_of_le hl1 k2.size
      have HB := hideR (below_go hB k2)
      have HR := hideR hR
      have HM := hideR hM
      obtain ⟨⟨c0, c1, c2, c3, c4, c5, c6, c7, c8⟩, cf⟩ := nine_at b1
      have f0 := cf 0 (by omega)
      have f1 := cf 1 (by omega)
      have f2 := cf 2 (by omega)
      have B1 := hideR b1
      have B0 := hideR b0
      clear cf hB k2 h1 h0 hl1 hR hM b1 b0
      go_wp2
      have hR := unhideR HR
      have hM := unhideR HM
      exact ⟨⟨1, r0, r1, r2, x3, x4, x5, x6, x7, x8, by omega, rfl, made_step0 hl2 (unhideR B1), (made_other (by omega) (by omega)).trans (unhideR B0), ⟨fun _ => hR, fun h => absurd h (by omega), fun h => absurd h (by omega)⟩, made_below (unhideR HB) (by omega) (by omega)⟩, by simp [intOf]⟩
    · have hl1 : w.heap.size + 1 < wr.heap.size := (Array.getElem?_eq_some_iff.1 h1).1
      go_wp2_with fail
      refine (unhideR HF 1 (by omega) _ hB).mono ?_
      rintro e w2 ⟨r0, r1, r2, rfl, hR, k2⟩
      have b1 := (k2.block _ hl1).trans h1
      have b0 := (k2.block w.heap.size (by omega)).trans h0
      have hl2 : w.heap.size + 1 < w2.heap.size := Nat.lt_of_lt_of_le hl1 k2.size
      have HB := hideR (below_go hB k2)
      have HR := hideR hR
      have HM := hideR hM
      obtain ⟨⟨c0, c1, c2, c3, c4, c5, c6, c7, c8⟩, cf⟩ := nine_at b1
      have f0 := cf 3 (by omega)
      have f1 := cf 4 (by omega)
      have f2 := cf 5 (by omega)
      have B1 := hideR b1
      have B0 := hideR b0
      clear cf hB k2 h1 h0 hl1 hR hM b1 b0
      go_wp2
      have hR := unhideR HR
      have hM := unhideR HM
      exact ⟨⟨2, x0, x1, x2, r0, r1, r2, x6, x7, x8, by omega, rfl, made_step1 hl2 (unhideR B1), (made_other (by omega) (by omega)).trans (unhideR B0), ⟨fun _ => hM.a (by omega), fun _ => hR, fun h => absurd h (by omega)⟩, made_below (unhideR HB) (by omega) (by omega)⟩, by simp [intOf]⟩
    · have hl1 : w.heap.size + 1 < wr.heap.size := (Array.getElem?_eq_some_iff.1 h1).1
      go_wp2_with fail
      refine (unhideR HF 2 (by omega) _ hB).mono ?_
      rintro e w2 ⟨r0, r1, r2, rfl, hR, k2⟩
      have b1 := (k2.block _ hl1).trans h1
      have b0 := (k2.block w.heap.size (by omega)).trans h0
      have hl2 : w.heap.size + 1 < w2.heap.size := Nat.lt_of_lt_of_le hl1 k2.size
      have HB := hideR (below_go hB k2)
      have HR := hideR hR
      have HM := hideR hM
      obtain ⟨⟨c0, c1, c2, c3, c4, c5, c6, c7, c8⟩, cf⟩ := nine_at b1
      have f0 := cf 6 (by omega)
      have f1 := cf 7 (by omega)
      have f2 := cf 8 (by omega)
      have B1 := hideR b1
      have B0 := hideR b0
      clear cf hB k2 h1 h0 hl1 hR hM b1 b0
      go_wp2
      have hR := unhideR HR
      have hM := unhideR HM
      exact ⟨⟨3, x0, x1, x2, x3, x4, x5, r0, r1, r2, by omega, rfl, made_step2 hl2 (unhideR B1), (made_other (by omega) (by omega)).trans (unhideR B0), ⟨fun _ => hM.a (by omega), fun _ => hM.b (by omega), fun _ => hR⟩, made_below (unhideR HB) (by omega) (by omega)⟩, by simp [intOf]⟩
    · obtain ⟨⟨c0, c1, c2, c3, c4, c5, c6, c7, c8⟩, _⟩ := nine_at h1
      obtain ⟨⟨d0, d1, d2, d3, d4, d5, d6, d7, d8⟩, df⟩ := nine_at h0
      have f0 := df 0 (by omega)
      have f1 := df 1 (by omega)
      have f2 := df 2 (by omega)
      have f3 := df 3 (by omega)
      have f4 := df 4 (by omega)
      have f5 := df 5 (by omega)
      have f6 := df 6 (by omega)
      have f7 := df 7 (by omega)
      have f8 := df 8 (by omega)
      have HB := hideR hB
      have HM := hideR hM
      clear df h0 h1 hB hM
      go_wp2
      simp [bodyPost, results, Try.results61, go_sem, d0, d1, d2, d3, d4, d5, d6, d7, d8]
      exact ⟨x0, x1, x2, x3, x4, x5, x6, x7, x8, rfl, unhideR HM, below_nine (unhideR HB) (Nat.le_refl _) _ _ _ _ _ _ _ _ _⟩
end Go.Proofs.Ytbobnmaeiohnnad
