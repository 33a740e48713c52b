/-
  Numbers with a point, structs of them, blocks: what walks want. (For the sky and what follows; the same words as in Spin1 to Spin9, by themselves.)
-/
import Derived.Test.YtfamndjiaebmbafDoorLensS
import Derived.Test.YtfamndjiaebmbafDoorLoose4
namespace Go.Proofs.YtfamndjiaebmbafDoor
open Go Go.RowKit

def mE (x y : Nat) : FE := .op .mul (.num x) (.num y)
/-- an operation on numbers with a point, where the walk stands before it: any answer, any draws. -/
theorem upon_float {P : Program} {o : Oper} {a : Act} {K : Act → World → Prop} {Q : Exit → Act → World → Prop} {op : BinOp} {t : TypeId} {x y : Nat} {w : World} (h4 : isFour op)
    (H : ∀ r n, FOp op x y r → K (a.put o.dst (.float .f64 r)) (w.drewN n)) :
    Oper.upon P o a K Q ((Sem.run P (binOp op t (.float .f64 x) (.float .f64 y)) w).andThen fun v w' => .ok (.value v) w') := by
  rw [run_float op t x y w h4]
  exact H _ _ (fnum_is op x y w)
theorem four_add : isFour .add := .inl rfl
theorem four_sub : isFour .sub := .inr (.inl rfl)
theorem four_mul : isFour .mul := .inr (.inr (.inl rfl))
theorem four_quo : isFour .quo := .inr (.inr (.inr rfl))
theorem run_store_float (P : Program) (w : World) (a : Addr) (x : Nat) (m : Mode) : (store a (.float .f64 x) m).run P w = stored P w a (.float .f64 x) m := run_store P w a _ m rfl
theorem below_four {w v : World} {b : Nat} (h : Below w.heap.size w v) (hb : w.heap.size ≤ b) (x0 x1 x2 x3 : Value) : Below w.heap.size w ((((v.setCell ⟨b, 0, none⟩ x0).setCell ⟨b, 1, none⟩ x1).setCell ⟨b, 2, none⟩ x2).setCell ⟨b, 3, none⟩ x3) :=
  (((h.setCell hb x0).setCell hb x1).setCell hb x2).setCell hb x3
theorem below_al3 (w : World) (o1 o2 o3 : Obj) : Below w.heap.size w (((w.alloc o1).alloc o2).alloc o3) := (((Below.refl w.heap.size w).alloc (Nat.le_refl _) o1).alloc (by simp) o2).alloc (by simp; omega) o3
theorem below_al2 (w : World) (o1 o2 : Obj) : Below w.heap.size w ((w.alloc o1).alloc o2) := ((Below.refl w.heap.size w).alloc (Nat.le_refl _) o1).alloc (by simp) o2
set_option maxHeartbeats 4000000 in
theorem less_any (s a b : Nat) (w : World) : Calls Tryd.prog 28 #[.float .f64 s, .float .f64 a, .float .f64 b] w fun e w' => ∃ r, e = .returned (.float .f64 r) ∧ (∃ p, FOp .mul a b p ∧ FOp .sub s p r) ∧ ∃ n, w' = w.drewN n := by
  go_enter Tryd.func28, Tryd.ntmps28
  go_wp2_with fail
  refine upon_float four_mul ?_
  intro p n hp
  go_wp2_with fail
  refine upon_float four_sub ?_
  intro r n2 hr
  go_wp2
  go_ret
  exact ⟨r, rfl, ⟨p, hp, hr⟩, _, rfl⟩
theorem below_go {w v u : World} (h : Below w.heap.size w v) (k : Below v.heap.size v u) : Below w.heap.size w u := h.trans (k.mono h.size)
theorem two_blocks {w w1 : World} {A R : Obj} (hB : Below ((w.alloc A).alloc R).heap.size ((w.alloc A).alloc R) w1) : w1.heap[w.heap.size]? = some A ∧ w1.heap[w.heap.size + 1]? = some R ∧ Below w.heap.size w w1 := by
  refine ⟨?_, ?_, below_go (below_al2 w A R) hB⟩
  · rw [hB.block _ (by simp; omega)]
    show ((w.heap.push A).push R)[w.heap.size]? = some A
    rw [Array.getElem?_push, if_neg (by simp), Array.getElem?_push_size]
  · rw [hB.block _ (by simp)]
    show ((w.heap.push A).push R)[w.heap.size + 1]? = some R
    have : w.heap.size + 1 = (w.heap.push A).size := by simp
    rw [this, Array.getElem?_push_size]
theorem cells_at {w : World} {b : Nat} {cs : Array Value} {ty : TypeId} (h : w.heap[b]? = some (.cells cs ty)) (i : Nat) (hi : i < cs.size) : w.cell? ⟨b, i, none⟩ = some (cs.getD i undef) ∧ w.frozen? ⟨b, i, none⟩ = false := by
  constructor
  · simp [World.cell?, h, hi]
  · simp [World.frozen?, h]
theorem four_at {w : World} {b x0 x1 x2 x3 : Nat} {ty : TypeId} (h : w.heap[b]? = some (.cells #[.float .f64 x0, .float .f64 x1, .float .f64 x2, .float .f64 x3] ty)) :
    (w.cell? ⟨b, 0, none⟩ = some (.float .f64 x0) ∧ w.cell? ⟨b, 1, none⟩ = some (.float .f64 x1) ∧ w.cell? ⟨b, 2, none⟩ = some (.float .f64 x2) ∧ w.cell? ⟨b, 3, none⟩ = some (.float .f64 x3)) ∧
    (w.frozen? ⟨b, 0, none⟩ = false ∧ w.frozen? ⟨b, 1, none⟩ = false ∧ w.frozen? ⟨b, 2, none⟩ = false ∧ w.frozen? ⟨b, 3, none⟩ = false) :=
  ⟨⟨(cells_at h 0 (by simp)).1, (cells_at h 1 (by simp)).1, (cells_at h 2 (by simp)).1, (cells_at h 3 (by simp)).1⟩, (cells_at h 0 (by simp)).2, (cells_at h 1 (by simp)).2, (cells_at h 2 (by simp)).2, (cells_at h 3 (by simp)).2⟩
theorem alloc_block {w : World} {o : Obj} {b : Nat} (h : b < w.heap.size) : (w.alloc o).heap[b]? = w.heap[b]? := by
  show (w.heap.push o)[b]? = _
  rw [Array.getElem?_push, if_neg (by omega)]
theorem alloc_last (w : World) (o : Obj) : (w.alloc o).heap[w.heap.size]? = some o := by
  show (w.heap.push o)[w.heap.size]? = _
  exact Array.getElem?_push_size
def nine (a b c d e f g h i : Nat) : Array Value := #[.float .f64 a, .float .f64 b, .float .f64 c, .float .f64 d, .float .f64 e, .float .f64 f, .float .f64 g, .float .f64 h, .float .f64 i]
theorem nine_at {w : World} {b : Nat} {t : TypeId} {x0 x1 x2 x3 x4 x5 x6 x7 x8 : Nat} (h : w.heap[b]? = some (.cells (nine x0 x1 x2 x3 x4 x5 x6 x7 x8) t (0, 0))) :
    (w.cell? ⟨b, 0, none⟩ = some (.float .f64 x0) ∧ w.cell? ⟨b, 1, none⟩ = some (.float .f64 x1) ∧ w.cell? ⟨b, 2, none⟩ = some (.float .f64 x2) ∧ w.cell? ⟨b, 3, none⟩ = some (.float .f64 x3) ∧ w.cell? ⟨b, 4, none⟩ = some (.float .f64 x4) ∧ w.cell? ⟨b, 5, none⟩ = some (.float .f64 x5) ∧ w.cell? ⟨b, 6, none⟩ = some (.float .f64 x6) ∧ w.cell? ⟨b, 7, none⟩ = some (.float .f64 x7) ∧ w.cell? ⟨b, 8, none⟩ = some (.float .f64 x8)) ∧
    ∀ i, i < 9 → w.frozen? ⟨b, i, none⟩ = false :=
  ⟨⟨(cells_at h 0 (by simp [nine])).1, (cells_at h 1 (by simp [nine])).1, (cells_at h 2 (by simp [nine])).1, (cells_at h 3 (by simp [nine])).1, (cells_at h 4 (by simp [nine])).1, (cells_at h 5 (by simp [nine])).1, (cells_at h 6 (by simp [nine])).1, (cells_at h 7 (by simp [nine])).1, (cells_at h 8 (by simp [nine])).1⟩, fun i hi => (cells_at h i (by simpa [nine] using hi)).2⟩
theorem three_at {w : World} {b x0 x1 x2 : Nat} {ty : TypeId} (h : w.heap[b]? = some (.cells #[.float .f64 x0, .float .f64 x1, .float .f64 x2] ty)) :
    (w.cell? ⟨b, 0, none⟩ = some (.float .f64 x0) ∧ w.cell? ⟨b, 1, none⟩ = some (.float .f64 x1) ∧ w.cell? ⟨b, 2, none⟩ = some (.float .f64 x2)) ∧
    (w.frozen? ⟨b, 0, none⟩ = false ∧ w.frozen? ⟨b, 1, none⟩ = false ∧ w.frozen? ⟨b, 2, none⟩ = false) :=
  ⟨⟨(cells_at h 0 (by simp)).1, (cells_at h 1 (by simp)).1, (cells_at h 2 (by simp)).1⟩, (cells_at h 0 (by simp)).2, (cells_at h 1 (by simp)).2, (cells_at h 2 (by simp)).2⟩
theorem three_blocks {w w1 : World} {A R X : Obj} (hB : Below (((w.alloc A).alloc R).alloc X).heap.size (((w.alloc A).alloc R).alloc X) w1) :
    w1.heap[w.heap.size]? = some A ∧ w1.heap[w.heap.size + 1]? = some R ∧ w1.heap[w.heap.size + 1 + 1]? = some X ∧ Below w.heap.size w w1 := by
  have e : ((w.alloc A).alloc R).heap.size = w.heap.size + 1 + 1 := by simp
  have h2 := two_blocks (Below.refl ((w.alloc A).alloc R).heap.size ((w.alloc A).alloc R))
  have hs : (((w.alloc A).alloc R).alloc X).heap.size = w.heap.size + 1 + 1 + 1 := by simp
  refine ⟨?_, ?_, ?_, below_go (below_al3 w A R X) hB⟩
  · rw [hB.block _ (by omega), alloc_block (by omega)]; exact h2.1
  · rw [hB.block _ (by omega), alloc_block (by omega)]; exact h2.2.1
  · rw [hB.block _ (by omega), ← e]; exact alloc_last _ _
def dtE (a b c x y z : Nat) : FE := .op .add (.op .add (mE a x) (mE b y)) (mE c z)
def VSet (e0 e1 e2 : FE) (v : Value) : Prop := ∃ p q r, v = .agg #[.float .f64 p, .float .f64 q, .float .f64 r] ∧ Ev e0 p ∧ Ev e1 q ∧ Ev e2 r
theorem vset_some (e0 e1 e2 : FE) : ∃ v, VSet e0 e1 e2 v := by
  obtain ⟨p, hp⟩ := ev_some e0
  obtain ⟨q, hq⟩ := ev_some e1
  obtain ⟨r, hr⟩ := ev_some e2
  exact ⟨_, p, q, r, rfl, hp, hq, hr⟩
theorem ev_m {x y r : Nat} (h : FOp .mul x y r) : Ev (mE x y) r := .op (.num _) (.num _) h
theorem keepB {w v : World} {b : Nat} {o : Obj} (h : w.heap[b]? = some o) (k : Below w.heap.size w v) : v.heap[b]? = some o := (k.block _ (Array.getElem?_eq_some_iff.1 h).1).trans h
theorem keepA {w : World} {b : Nat} {o o' : Obj} (h : w.heap[b]? = some o) : (w.alloc o').heap[b]? = some o := (alloc_block (Array.getElem?_eq_some_iff.1 h).1).trans h
theorem ltB {w : World} {b : Nat} {o : Obj} (h : w.heap[b]? = some o) : b < w.heap.size := (Array.getElem?_eq_some_iff.1 h).1
theorem dt_same {a b c a' b' c' x y z p q : Nat} (ha : FSame a a') (hb : FSame b b') (hc : FSame c c') (h : Ev (dtE a b c x y z) p) (k : Ev (dtE a' b' c' x y z) q) : FSame p q := by
  cases h with | op h1 h2 h3 =>
  cases h1 with | op h4 h5 h6 =>
  cases h2 with | op h7 h8 h9 =>
  cases h4 with | op i1 i2 i3 =>
  cases h5 with | op i4 i5 i6 =>
  cases k with | op k1 k2 k3 =>
  cases k1 with | op k4 k5 k6 =>
  cases k2 with | op k7 k8 k9 =>
  cases k4 with | op j1 j2 j3 =>
  cases k5 with | op j4 j5 j6 =>
  cases h7; cases h8; cases i1; cases i2; cases i4; cases i5; cases k7; cases k8; cases j1; cases j2; cases j4; cases j5
  exact h3.same k3 (h6.same k6 (i3.same j3 ha (.refl _)) (i6.same j6 hb (.refl _))) (h9.same k9 hc (.refl _))
/-- expressions that differ in numbers that are the same. -/
inductive Like : FE → FE → Prop where
  | num {x y : Nat} : FSame x y → Like (.num x) (.num y)
  | op {o : BinOp} {a b c d : FE} : Like a c → Like b d → Like (.op o a b) (.op o c d)
theorem Like.same {e f : FE} (h : Like e f) : ∀ {r s : Nat}, Ev e r → Ev f s → FSame r s := by
  induction h with
  | num h =>
    intro r s h1 h2
    cases h1
    cases h2
    exact h
  | op h1 h2 ih1 ih2 =>
    intro r s k1 k2
    cases k1 with | op a1 a2 a3 =>
    cases k2 with | op b1 b2 b3 =>
    exact a3.same b3 (ih1 a1 b1) (ih2 a2 b2)
theorem set4 {w : World} {b : Nat} {y0 y1 y2 y3 x0 x1 x2 x3 : Value} {t : TypeId} (h : w.heap[b]? = some (.cells #[y0, y1, y2, y3] t (0, 0))) :
    ((((w.setCell ⟨b, 0, none⟩ x0).setCell ⟨b, 1, none⟩ x1).setCell ⟨b, 2, none⟩ x2).setCell ⟨b, 3, none⟩ x3).heap[b]? = some (.cells #[x0, x1, x2, x3] t (0, 0)) := by
  rw [heap_setCell_same _ _ _ _ _ _ (heap_setCell_same _ _ _ _ _ _ (heap_setCell_same _ _ _ _ _ _ (heap_setCell_same _ _ _ _ _ _ h)))]
  simp
theorem set4_other {w : World} {b c : Nat} {x0 x1 x2 x3 : Value} (h : c ≠ b) : ((((w.setCell ⟨b, 0, none⟩ x0).setCell ⟨b, 1, none⟩ x1).setCell ⟨b, 2, none⟩ x2).setCell ⟨b, 3, none⟩ x3).heap[c]? = w.heap[c]? := by
  rw [heap_setCell_other _ _ _ _ h, heap_setCell_other _ _ _ _ h, heap_setCell_other _ _ _ _ h, heap_setCell_other _ _ _ _ h]
theorem set3 {w : World} {b : Nat} {y0 y1 y2 x0 x1 x2 : Value} {t : TypeId} (h : w.heap[b]? = some (.cells #[y0, y1, y2] t (0, 0))) :
    (((w.setCell ⟨b, 0, none⟩ x0).setCell ⟨b, 1, none⟩ x1).setCell ⟨b, 2, none⟩ x2).heap[b]? = some (.cells #[x0, x1, x2] t (0, 0)) := by
  rw [heap_setCell_same _ _ _ _ _ _ (heap_setCell_same _ _ _ _ _ _ (heap_setCell_same _ _ _ _ _ _ h))]
  simp
theorem set3_other {w : World} {b c : Nat} {x0 x1 x2 : Value} (h : c ≠ b) : (((w.setCell ⟨b, 0, none⟩ x0).setCell ⟨b, 1, none⟩ x1).setCell ⟨b, 2, none⟩ x2).heap[c]? = w.heap[c]? := by
  rw [heap_setCell_other _ _ _ _ h, heap_setCell_other _ _ _ _ h, heap_setCell_other _ _ _ _ h]
theorem below_three {w v : World} {b : Nat} (h : Below w.heap.size w v) (hb : w.heap.size ≤ b) (x0 x1 x2 : Value) : Below w.heap.size w (((v.setCell ⟨b, 0, none⟩ x0).setCell ⟨b, 1, none⟩ x1).setCell ⟨b, 2, none⟩ x2) :=
  ((h.setCell hb x0).setCell hb x1).setCell hb x2
theorem fop_some (op : BinOp) (x y : Nat) : ∃ r, FOp op x y r := by
  obtain ⟨r, h⟩ := ev_some (.op op (.num x) (.num y))
  cases h with | op a b c =>
  cases a
  cases b
  exact ⟨r, c⟩
theorem pair_at {w : World} {b : Nat} {x y : Int} {ty : TypeId} (h : w.heap[b]? = some (.cells #[.int .i64 x, .int .i64 y] ty)) :
    (w.cell? ⟨b, 0, none⟩ = some (.int .i64 x) ∧ w.cell? ⟨b, 1, none⟩ = some (.int .i64 y)) ∧ (w.frozen? ⟨b, 0, none⟩ = false ∧ w.frozen? ⟨b, 1, none⟩ = false) :=
  ⟨⟨(cells_at h 0 (by simp)).1, (cells_at h 1 (by simp)).1⟩, (cells_at h 0 (by simp)).2, (cells_at h 1 (by simp)).2⟩
end Go.Proofs.YtfamndjiaebmbafDoor
