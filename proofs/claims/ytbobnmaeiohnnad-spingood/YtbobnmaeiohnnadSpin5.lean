/-
  A rotation's matrix: the program's, by contracts.
-/
import Derived.Test.YtbobnmaeiohnnadSpin4
import Derived.Deep.RegionWith
import Derived.Deep.QuietTactic
namespace Go.Proofs.Ytbobnmaeiohnnad
open Go Go.RowKit

def mOne : Nat := 4607182418800017408
def mTwo : Nat := 4611686018427387904
def dgE (q r : Nat) : FE := .op .sub (.num 4607182418800017408) (.op .mul (.num 4611686018427387904) (.op .add (mE q q) (mE r r)))
def loE (p q w r : Nat) : FE := .op .mul (.num 4611686018427387904) (.op .sub (mE p q) (mE w r))
def upE (p r w q : Nat) : FE := .op .mul (.num 4611686018427387904) (.op .add (mE p r) (mE w q))
/-- row i of the matrix of (w, x, y, z). -/
def RowRel (w x y z : Nat) (i r0 r1 r2 : Nat) : Prop :=
  (i = 0 → Ev (dgE y z) r0 ∧ Ev (loE x y w z) r1 ∧ Ev (upE x z w y) r2) ∧ (i = 1 → Ev (upE y x w z) r0 ∧ Ev (dgE z x) r1 ∧ Ev (loE y z w x) r2) ∧ (i = 2 → Ev (loE z x w y) r0 ∧ Ev (upE z y w x) r1 ∧ Ev (dgE x y) r2)
theorem three_at {w : World} {b x0 x1 x2 : Nat} {ty : TypeId} (h : w.heap[b]? = some (.cells #[.float .f64 x0, .float .f64 x1, .float .f64 x2] ty)) :
    (w.cell? ⟨b, 0, none⟩ = some (.float .f64 x0) ∧ w.cell? ⟨b, 1, none⟩ = some (.float .f64 x1) ∧ w.cell? ⟨b, 2, none⟩ = some (.float .f64 x2)) ∧
    (w.frozen? ⟨b, 0, none⟩ = false ∧ w.frozen? ⟨b, 1, none⟩ = false ∧ w.frozen? ⟨b, 2, none⟩ = false) :=
  ⟨⟨(cells_at h 0 (by simp)).1, (cells_at h 1 (by simp)).1, (cells_at h 2 (by simp)).1⟩, (cells_at h 0 (by simp)).2, (cells_at h 1 (by simp)).2, (cells_at h 2 (by simp)).2⟩
theorem below_row {w : World} {o1 o2 : Obj} {i j k n1 n2 n3 : Nat} {x y z x' y' z' : Value} :
    Below w.heap.size w (((((((((((w.alloc o1).alloc o2).drewN n1).setCell ⟨w.heap.size + 1, i, none⟩ x).drewN n2).setCell ⟨w.heap.size + 1, j, none⟩ y).drewN n3).setCell ⟨w.heap.size + 1, k, none⟩ z).setCell ⟨w.heap.size, 0, none⟩ x').setCell ⟨w.heap.size, 1, none⟩ y').setCell ⟨w.heap.size, 2, none⟩ z') := by
  have h1 : w.heap.size ≤ w.heap.size + 1 := by omega
  exact ((((below_drewN ((below_drewN ((below_drewN (below_al2 w o1 o2) n1).setCell h1 x) n2).setCell h1 y) n3).setCell h1 z).setCell (Nat.le_refl _) x').setCell (Nat.le_refl _) y').setCell (Nat.le_refl _) z'
set_option maxHeartbeats 8000000 in
theorem matrow0 (bx ba w0 x y z : Nat) (w : World) (hx : w.heap[bx]? = some (.cells #[.float .f64 x, .float .f64 y, .float .f64 z] 80)) (ha : w.heap[ba]? = some (.cells #[.float .f64 w0, .float .f64 x, .float .f64 y, .float .f64 z] 33)) :
    Calls Try.prog 62 #[.int .i64 0, .pointer (some ⟨bx, 0, none⟩), .pointer (some ⟨ba, 0, none⟩)] w fun e v' => ∃ r0 r1 r2, e = .returned (.agg #[.float .f64 r0, .float .f64 r1, .float .f64 r2]) ∧ RowRel w0 x y z 0 r0 r1 r2 ∧ Below w.heap.size w v' := by
  have hsf := run_store_float Try.prog
  have lx : bx < w.heap.size := (Array.getElem?_eq_some_iff.1 hx).1
  have la : ba < w.heap.size := (Array.getElem?_eq_some_iff.1 ha).1
  obtain ⟨⟨c0, c1, c2⟩, _⟩ := three_at hx
  obtain ⟨⟨d0, d1, d2, d3⟩, _⟩ := four_at ha
  clear hx ha
  go_enter Try.func62, Try.ntmps62
  go_wp2_with fail
  go_region
  iterate 13
    go_wp2_with fail
    refine upon_float (by first | exact four_mul | exact four_add | exact four_sub) ?_
    intro r n hr
  go_wp2
  simp [bodyPost, results, Try.results62, go_sem]
  refine ⟨_, _, _, ⟨rfl, rfl, rfl⟩, ⟨fun _ => ⟨?_, ?_, ?_⟩, fun h => absurd h (by decide), fun h => absurd h (by decide)⟩, below_row⟩
  all_goals repeat' (first | exact Ev.num _ | refine Ev.op ?_ ?_ (by assumption))
set_option maxHeartbeats 8000000 in
theorem matrow1 (bx ba w0 x y z : Nat) (w : World) (hx : w.heap[bx]? = some (.cells #[.float .f64 x, .float .f64 y, .float .f64 z] 80)) (ha : w.heap[ba]? = some (.cells #[.float .f64 w0, .float .f64 x, .float .f64 y, .float .f64 z] 33)) :
    Calls Try.prog 62 #[.int .i64 1, .pointer (some ⟨bx, 0, none⟩), .pointer (some ⟨ba, 0, none⟩)] w fun e v' => ∃ r0 r1 r2, e = .returned (.agg #[.float .f64 r0, .float .f64 r1, .float .f64 r2]) ∧ RowRel w0 x y z 1 r0 r1 r2 ∧ Below w.heap.size w v' := by
  have hsf := run_store_float Try.prog
  have lx : bx < w.heap.size := (Array.getElem?_eq_some_iff.1 hx).1
  have la : ba < w.heap.size := (Array.getElem?_eq_some_iff.1 ha).1
  obtain ⟨⟨c0, c1, c2⟩, _⟩ := three_at hx
  obtain ⟨⟨d0, d1, d2, d3⟩, _⟩ := four_at ha
  clear hx ha
  go_enter Try.func62, Try.ntmps62
  go_wp2_with fail
  go_region
  iterate 13
    go_wp2_with fail
    refine upon_float (by first | exact four_mul | exact four_add | exact four_sub) ?_
    intro r n hr
  go_wp2
  simp [bodyPost, results, Try.results62, go_sem]
  refine ⟨_, _, _, ⟨rfl, rfl, rfl⟩, ⟨fun h => absurd h (by decide), fun _ => ⟨?_, ?_, ?_⟩, fun h => absurd h (by decide)⟩, below_row⟩
  all_goals repeat' (first | exact Ev.num _ | refine Ev.op ?_ ?_ (by assumption))
set_option maxHeartbeats 8000000 in
theorem matrow2 (bx ba w0 x y z : Nat) (w : World) (hx : w.heap[bx]? = some (.cells #[.float .f64 x, .float .f64 y, .float .f64 z] 80)) (ha : w.heap[ba]? = some (.cells #[.float .f64 w0, .float .f64 x, .float .f64 y, .float .f64 z] 33)) :
    Calls Try.prog 62 #[.int .i64 2, .pointer (some ⟨bx, 0, none⟩), .pointer (some ⟨ba, 0, none⟩)] w fun e v' => ∃ r0 r1 r2, e = .returned (.agg #[.float .f64 r0, .float .f64 r1, .float .f64 r2]) ∧ RowRel w0 x y z 2 r0 r1 r2 ∧ Below w.heap.size w v' := by
  have hsf := run_store_float Try.prog
  have lx : bx < w.heap.size := (Array.getElem?_eq_some_iff.1 hx).1
  have la : ba < w.heap.size := (Array.getElem?_eq_some_iff.1 ha).1
  obtain ⟨⟨c0, c1, c2⟩, _⟩ := three_at hx
  obtain ⟨⟨d0, d1, d2, d3⟩, _⟩ := four_at ha
  clear hx ha
  go_enter Try.func62, Try.ntmps62
  go_wp2_with fail
  go_region
  iterate 13
    go_wp2_with fail
    refine upon_float (by first | exact four_mul | exact four_add | exact four_sub) ?_
    intro r n hr
  go_wp2
  simp [bodyPost, results, Try.results62, go_sem]
  refine ⟨_, _, _, ⟨rfl, rfl, rfl⟩, ⟨fun h => absurd h (by decide), fun h => absurd h (by decide), fun _ => ⟨?_, ?_, ?_⟩⟩, below_row⟩
  all_goals repeat' (first | exact Ev.num _ | refine Ev.op ?_ ?_ (by assumption))
theorem three_blocks {w w1 : World} {A R X : Obj} (hB : Below (((w.alloc A).alloc R).alloc X).heap.size (((w.alloc A).alloc R).alloc X) w1) :
    w1.heap[w.heap.size]? = some A ∧ w1.heap[w.heap.size + 1]? = some R ∧ w1.heap[w.heap.size + 1 + 1]? = some X ∧ Below w.heap.size w w1 := by
  have e : ((w.alloc A).alloc R).heap.size = w.heap.size + 1 + 1 := by simp
  have h2 := two_blocks (Below.refl ((w.alloc A).alloc R).heap.size ((w.alloc A).alloc R))
  have hs : (((w.alloc A).alloc R).alloc X).heap.size = w.heap.size + 1 + 1 + 1 := by simp
  refine ⟨?_, ?_, ?_, below_go (below_al3 w A R X) hB⟩
  · rw [hB.block _ (by omega), alloc_block (by omega)]; exact h2.1
  · rw [hB.block _ (by omega), alloc_block (by omega)]; exact h2.2.1
  · rw [hB.block _ (by omega), ← e]; exact alloc_last _ _
set_option maxHeartbeats 8000000 in
theorem matrix_any (a b c d : Nat) (w : World) : Calls Try.prog 27 #[.agg #[.float .f64 a, .float .f64 b, .float .f64 c, .float .f64 d]] w fun e w' => ∃ x0 x1 x2 x3 x4 x5 x6 x7 x8, e = .returned (.agg (nine x0 x1 x2 x3 x4 x5 x6 x7 x8)) ∧ Made (RowRel a b c d) 3 x0 x1 x2 x3 x4 x5 x6 x7 x8 ∧ Below w.heap.size w w' := by
  have hsf := run_store_float Try.prog
  have hmf : ∀ (fn : Fn) (first cap : Array Value) (w : World), (Instr.makeFunc fn first cap).run Try.prog w = .ok (.func fn first cap) w := fun _ _ _ _ => rfl
  go_enter Try.func27, Try.ntmps27
  go_wp2_with fail
  refine (madeM_any (RowRel a b c d) _ _ _ ?_).mono ?_
  · intro i hi v hv
    obtain ⟨h0, _, h2, _⟩ := three_blocks hv
    rcases (show i = 0 ∨ i = 1 ∨ i = 2 by omega) with rfl | rfl | rfl
    · exact matrow0 _ _ a b c d v h2 h0
    · exact matrow1 _ _ a b c d v h2 h0
    · exact matrow2 _ _ a b c d v h2 h0
  rintro e w1 ⟨x0, x1, x2, x3, x4, x5, x6, x7, x8, rfl, hM, hB⟩
  obtain ⟨_, h1, _, hBw⟩ := three_blocks hB
  obtain ⟨⟨d0, d1, d2, d3, d4, d5, d6, d7, d8⟩, df⟩ := nine_at (x0 := 0) (x1 := 0) (x2 := 0) (x3 := 0) (x4 := 0) (x5 := 0) (x6 := 0) (x7 := 0) (x8 := 0) h1
  have f0 := df 0 (by omega)
  have f1 := df 1 (by omega)
  have f2 := df 2 (by omega)
  have f3 := df 3 (by omega)
  have f4 := df 4 (by omega)
  have f5 := df 5 (by omega)
  have f6 := df 6 (by omega)
  have f7 := df 7 (by omega)
  have f8 := df 8 (by omega)
  have HB := hideR hBw
  have HM := hideR hM
  clear df h1 hB hBw hM
  have e9 : nine x0 x1 x2 x3 x4 x5 x6 x7 x8 = #[.float .f64 x0, .float .f64 x1, .float .f64 x2, .float .f64 x3, .float .f64 x4, .float .f64 x5, .float .f64 x6, .float .f64 x7, .float .f64 x8] := rfl
  rw [e9]
  go_wp2
  simp [bodyPost, results, Try.results27, go_sem, d0, d1, d2, d3, d4, d5, d6, d7, d8]
  exact ⟨x0, x1, x2, x3, x4, x5, x6, x7, x8, rfl, unhideR HM, below_nine (unhideR HB) (by omega) _ _ _ _ _ _ _ _ _⟩
end Go.Proofs.Ytbobnmaeiohnnad
