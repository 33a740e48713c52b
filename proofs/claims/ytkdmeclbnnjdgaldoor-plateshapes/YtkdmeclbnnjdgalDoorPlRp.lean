/-
  The document's RankOf: what it keeps. Nothing of its text.
-/
import Derived.Test.YtkdmeclbnnjdgalDoorPlRw
import Derived.Test.YtkdmeclbnnjdgalDoorLooseA
namespace Go.Proofs.YtkdmeclbnnjdgalDoor
open Go Go.RowKit

theorem drewBl1 {B : Nat} {w u : World} (h : Below B w u) : Below B w u.drew := ⟨h.os, h.tape, h.output, h.size, h.block⟩
theorem set7_bl {B : Nat} {w u : World} (h : Below B w u) {k : Nat} (hk : B ≤ k) (a b c d e f g : Value) : Below B w (((((((u.setCell ⟨k, 0, none⟩ a).setCell ⟨k, 1, none⟩ b).setCell ⟨k, 2, none⟩ c).setCell ⟨k, 3, none⟩ d).setCell ⟨k, 4, none⟩ e).setCell ⟨k, 5, none⟩ f).setCell ⟨k, 6, none⟩ g) := ((((((h.setCell hk a).setCell hk b).setCell hk c).setCell hk d).setCell hk e).setCell hk f).setCell hk g
def rkB (p0 p1 p2 : Pt) : Bool := isPtB p0 && (isPtB p1 && (isPtB p2 && !decide (twc p0 p1 p2 = 0)))
/-- a side's square, and the number of the point across from it. -/
structure Rk where
  d : Int
  k : Nat
/-- the greater one of two neighbours comes up. -/
def upA (x : Rk × Rk × Rk) : Rk × Rk × Rk := if x.1.d < x.2.1.d then (x.2.1, x.1, x.2.2) else x
def upB (x : Rk × Rk × Rk) : Rk × Rk × Rk := if x.2.1.d < x.2.2.d then (x.1, x.2.2, x.2.1) else x
def inn (i : Nat) (x : Rk × Rk × Rk) : Rk × Rk × Rk := if i = 0 then upB (upA x) else if i = 1 then upB x else x
def out (n : Nat) (x : Rk × Rk × Rk) : Rk × Rk × Rk := if n = 0 then inn 0 (inn 0 x) else if n = 1 then inn 0 x else x
def rk0 (p0 p1 p2 : Pt) : Rk × Rk × Rk := (⟨btw p1 p2, 0⟩, ⟨btw p2 p0, 1⟩, ⟨btw p0 p1, 2⟩)
def ptK (p0 p1 p2 : Pt) (k : Nat) : Pt := if k = 0 then p0 else if k = 1 then p1 else p2
def rkF (p0 p1 p2 : Pt) (x0 x1 x2 : Rk) : Prop := out 0 (rk0 p0 p1 p2) = (x0, x1, x2)
def rkH (p0 p1 p2 : Pt) (x0 x1 x2 : Rk) : Int := if x0.d ≠ x1.d ∧ x1.d ≠ x2.d then (if twc (ptK p0 p1 p2 x0.k) (ptK p0 p1 p2 x1.k) (ptK p0 p1 p2 x2.k) < 0 then -1 else 1) else 0
def RkPost (p0 p1 p2 : Pt) (e : Ending) : Prop := (rkB p0 p1 p2 = false ∧ e = .returned (.tuple #[.agg #[.int .i64 0, .int .i64 0, .int .i64 0, .int .i64 0, .int .i64 0, .int .i64 0, .int .i64 0], .bool false])) ∨
  (rkB p0 p1 p2 = true ∧ ∃ x0 x1 x2 h, rkF p0 p1 p2 x0 x1 x2 ∧ h = rkH p0 p1 p2 x0 x1 x2 ∧ e = .returned (.tuple #[.agg #[.int .i64 x0.d, .int .i64 x1.d, .int .i64 x2.d, .int .i64 h, .int .i64 (x0.k : Nat), .int .i64 (x1.k : Nat), .int .i64 (x2.k : Nat)], .bool true]))
theorem rk_no (p0 p1 p2 : Pt) (h : rkB p0 p1 p2 = false) : RkPost p0 p1 p2 (.returned (.tuple #[.agg #[.int .i64 0, .int .i64 0, .int .i64 0, .int .i64 0, .int .i64 0, .int .i64 0, .int .i64 0], .bool false])) := .inl ⟨h, rfl⟩
theorem rk_yes (p0 p1 p2 : Pt) (h : rkB p0 p1 p2 = true) (x0 x1 x2 : Rk) (g : Int) (h1 : rkF p0 p1 p2 x0 x1 x2) (h2 : g = rkH p0 p1 p2 x0 x1 x2) : RkPost p0 p1 p2 (.returned (.tuple #[.agg #[.int .i64 x0.d, .int .i64 x1.d, .int .i64 x2.d, .int .i64 g, .int .i64 (x0.k : Nat), .int .i64 (x1.k : Nat), .int .i64 (x2.k : Nat)], .bool true])) := .inr ⟨h, x0, x1, x2, g, h1, h2, rfl⟩
theorem rkF_k {p0 p1 p2 : Pt} {x0 x1 x2 : Rk} (h : rkF p0 p1 p2 x0 x1 x2) : x0.k < 3 ∧ x1.k < 3 ∧ x2.k < 3 := by
  have up : ∀ x : Rk × Rk × Rk, x.1.k < 3 ∧ x.2.1.k < 3 ∧ x.2.2.k < 3 → (upA x).1.k < 3 ∧ (upA x).2.1.k < 3 ∧ (upA x).2.2.k < 3 := fun x q => by
    unfold upA
    split
    · exact ⟨q.2.1, q.1, q.2.2⟩
    · exact q
  have uq : ∀ x : Rk × Rk × Rk, x.1.k < 3 ∧ x.2.1.k < 3 ∧ x.2.2.k < 3 → (upB x).1.k < 3 ∧ (upB x).2.1.k < 3 ∧ (upB x).2.2.k < 3 := fun x q => by
    unfold upB
    split
    · exact ⟨q.1, q.2.2, q.2.1⟩
    · exact q
  have e := uq _ (up _ (uq _ (up (rk0 p0 p1 p2) ⟨show 0 < 3 by omega, show 1 < 3 by omega, show 2 < 3 by omega⟩)))
  have e2 : upB (upA (upB (upA (rk0 p0 p1 p2)))) = (x0, x1, x2) := h
  rw [e2] at e
  exact e
theorem Pt3.at_ {w : World} {b off : Nat} {p0 p1 p2 : Pt} (h : Pt3 w b off p0 p1 p2) {k : Nat} (hk : k < 3) : PtAt w b (off + k * 3) (ptK p0 p1 p2 k) := by
  rcases (show k = 0 ∨ k = 1 ∨ k = 2 by omega) with rfl | rfl | rfl
  · exact h.a0
  · exact h.a1
  · exact h.a2
/-- where the ranking has come. -/
structure RkW (w0 : World) (B K A F b off : Nat) (p0 p1 p2 : Pt) (x0 x1 x2 : Rk) (u : World) : Prop where
  z : u.heap[K]? = some (.cells #[.int .i64 0, .int .i64 0, .int .i64 0, .int .i64 0, .int .i64 0, .int .i64 0, .int .i64 0] 45)
  a : u.heap[A]? = some (.cells #[.int .i64 (x0.k : Nat), .int .i64 (x1.k : Nat), .int .i64 (x2.k : Nat)] 3)
  f : u.heap[F]? = some (.cells #[.int .i64 x0.d, .int .i64 x1.d, .int .i64 x2.d] 3)
  p : Pt3 u b off p0 p1 p2
  bl : Below B w0 u
  h : K ≠ A ∧ K ≠ F ∧ A ≠ F ∧ b ≠ A ∧ b ≠ F ∧ B ≤ A ∧ B ≤ F ∧ B ≤ K
theorem two_ne {v : World} {g b i j : Nat} {x y : Value} (h : b ≠ g) : ((v.setCell ⟨g, i, none⟩ x).setCell ⟨g, j, none⟩ y).heap[b]? = v.heap[b]? := by
  rw [Below.heap_setCell _ _ _ _ h, Below.heap_setCell _ _ _ _ h]
theorem two_cell {v : World} {g b i j k : Nat} {x y : Value} (h : b ≠ g) : ((v.setCell ⟨g, i, none⟩ x).setCell ⟨g, j, none⟩ y).cell? ⟨b, k, none⟩ = v.cell? ⟨b, k, none⟩ := World.cell?_of_block (a := ⟨b, k, none⟩) (two_ne h)
theorem Pt3.two {v : World} {g b off i j : Nat} {p0 p1 p2 : Pt} (x y : Value) (h : Pt3 v b off p0 p1 p2) (hb : b ≠ g) : Pt3 ((v.setCell ⟨g, i, none⟩ x).setCell ⟨g, j, none⟩ y) b off p0 p1 p2 :=
  ⟨⟨(two_cell hb).trans h.a0.c0, (two_cell hb).trans h.a0.c1, (two_cell hb).trans h.a0.c2⟩, ⟨(two_cell hb).trans h.a1.c0, (two_cell hb).trans h.a1.c1, (two_cell hb).trans h.a1.c2⟩, ⟨(two_cell hb).trans h.a2.c0, (two_cell hb).trans h.a2.c1, (two_cell hb).trans h.a2.c2⟩, by
    have := h.lt
    simpa [World.setCell] using this⟩
theorem two_bl {B : Nat} {w u : World} (h : Below B w u) {k i j : Nat} (hk : B ≤ k) (x y : Value) : Below B w ((u.setCell ⟨k, i, none⟩ x).setCell ⟨k, j, none⟩ y) := (h.setCell hk x).setCell hk y
section
variable {w0 : World} {B K A F b off : Nat} {p0 p1 p2 : Pt} {x0 x1 x2 : Rk} {u : World}
theorem RkW.drew (h : RkW w0 B K A F b off p0 p1 p2 x0 x1 x2 u) : RkW w0 B K A F b off p0 p1 p2 x0 x1 x2 u.drew := ⟨h.z, h.a, h.f, h.p.below (drewBl1 (Below.refl _ _)), drewBl1 h.bl, h.h⟩
theorem RkW.go {v : World} (h : RkW w0 B K A F b off p0 p1 p2 x0 x1 x2 u) (k : Below u.heap.size u v) : RkW w0 B K A F b off p0 p1 p2 x0 x1 x2 v := by
  have e := (Array.getElem?_eq_some_iff.1 h.z).1
  have e2 := h.h
  exact ⟨keepB h.z k, keepB h.a k, keepB h.f k, h.p.below k, h.bl.trans (k.mono (by omega)), h.h⟩
theorem RkW.lt (h : RkW w0 B K A F b off p0 p1 p2 x0 x1 x2 u) : A < u.heap.size ∧ F < u.heap.size ∧ K < u.heap.size ∧ b < u.heap.size ∧ B ≤ u.heap.size := by
  have e := (Array.getElem?_eq_some_iff.1 h.z).1
  have e1 := (Array.getElem?_eq_some_iff.1 h.a).1
  have e2 := (Array.getElem?_eq_some_iff.1 h.f).1
  have e3 := h.p.lt
  have e4 := h.h
  exact ⟨e1, e2, e, e3, by omega⟩
theorem one_cellN {v : World} {g b i k : Nat} {x : Value} (h : b ≠ g) : (v.setCell ⟨g, i, none⟩ x).cell? ⟨b, k, none⟩ = v.cell? ⟨b, k, none⟩ := World.cell?_of_block (a := ⟨b, k, none⟩) (Below.heap_setCell _ _ _ _ h)
theorem RkW.set (h : RkW w0 B K A F b off p0 p1 p2 x0 x1 x2 u) (G i : Nat) (x : Value) (hg : A < G ∧ F < G ∧ K < G ∧ b < G ∧ B ≤ G) : RkW w0 B K A F b off p0 p1 p2 x0 x1 x2 (u.setCell ⟨G, i, none⟩ x) := by
  obtain ⟨g1, g2, g3, g4, g5⟩ := hg
  have hb : b ≠ G := by omega
  refine ⟨(Below.heap_setCell _ _ _ _ (show K ≠ G by omega)).trans h.z, (Below.heap_setCell _ _ _ _ (show A ≠ G by omega)).trans h.a, (Below.heap_setCell _ _ _ _ (show F ≠ G by omega)).trans h.f, ?_, h.bl.setCell (p := ⟨G, i, none⟩) g5 x, h.h⟩
  exact ⟨⟨(one_cellN hb).trans h.p.a0.c0, (one_cellN hb).trans h.p.a0.c1, (one_cellN hb).trans h.p.a0.c2⟩, ⟨(one_cellN hb).trans h.p.a1.c0, (one_cellN hb).trans h.p.a1.c1, (one_cellN hb).trans h.p.a1.c2⟩, ⟨(one_cellN hb).trans h.p.a2.c0, (one_cellN hb).trans h.p.a2.c1, (one_cellN hb).trans h.p.a2.c2⟩, by
    have := h.p.lt
    simpa [World.setCell] using this⟩
theorem RkW.set7 (h : RkW w0 B K A F b off p0 p1 p2 x0 x1 x2 u) (G : Nat) (c0 c1 c2 c3 c4 c5 c6 : Value) (hg : A < G ∧ F < G ∧ K < G ∧ b < G ∧ B ≤ G) : RkW w0 B K A F b off p0 p1 p2 x0 x1 x2 (((((((u.setCell ⟨G, 0, none⟩ c0).setCell ⟨G, 1, none⟩ c1).setCell ⟨G, 2, none⟩ c2).setCell ⟨G, 3, none⟩ c3).setCell ⟨G, 4, none⟩ c4).setCell ⟨G, 5, none⟩ c5).setCell ⟨G, 6, none⟩ c6) :=
  ((((((h.set G 0 c0 hg).set G 1 c1 hg).set G 2 c2 hg).set G 3 c3 hg).set G 4 c4 hg).set G 5 c5 hg).set G 6 c6 hg
theorem set_all7 {v : World} {b : Nat} {a0 a1 a2 a3 a4 a5 a6 c0 c1 c2 c3 c4 c5 c6 : Value} {ty : TypeId} (h : v.heap[b]? = some (.cells #[a0, a1, a2, a3, a4, a5, a6] ty)) : (((((((v.setCell ⟨b, 0, none⟩ c0).setCell ⟨b, 1, none⟩ c1).setCell ⟨b, 2, none⟩ c2).setCell ⟨b, 3, none⟩ c3).setCell ⟨b, 4, none⟩ c4).setCell ⟨b, 5, none⟩ c5).setCell ⟨b, 6, none⟩ c6).heap[b]? = some (.cells #[c0, c1, c2, c3, c4, c5, c6] ty) := by
  simp [World.setCell, Array.getElem?_modify, h]
def MdP (v : Value) : Prop := ∃ b, v = .pointer (some ⟨b, 0, none⟩)
def R7At (N : Nat) (v : Value) (w : World) : Prop := ∀ b, v = .pointer (some ⟨b, 0, none⟩) → w.heap[b]? = some (.cells #[.int .i64 0, .int .i64 0, .int .i64 0, .int .i64 0, .int .i64 0, .int .i64 0, .int .i64 0] 45) ∧ N ≤ b
theorem r7_stb (N : Nat) (v : Value) : Stb (R7At N v) := fun _ _ h hb b e => ⟨keepB (h b e).1 hb, (h b e).2⟩
theorem set_r3 {v : World} {b : Nat} {a0 a1 a2 a3 a4 a5 a6 x : Value} {ty : TypeId} (h : v.heap[b]? = some (.cells #[a0, a1, a2, a3, a4, a5, a6] ty)) : (v.setCell ⟨b, 3, none⟩ x).heap[b]? = some (.cells #[a0, a1, a2, x, a4, a5, a6] ty) := by
  simp [World.setCell, Array.getElem?_modify, h]
theorem RkW.f01 (h : RkW w0 B K A F b off p0 p1 p2 x0 x1 x2 u) : RkW w0 B K A F b off p0 p1 p2 ⟨x1.d, x0.k⟩ ⟨x0.d, x1.k⟩ x2 ((u.setCell ⟨F, 0, none⟩ (.int .i64 x1.d)).setCell ⟨F, 1, none⟩ (.int .i64 x0.d)) := by
  obtain ⟨h1, h2, h3, h4, h5, h6, h7, h8⟩ := h.h
  exact ⟨(two_ne h2).trans h.z, (two_ne h3).trans h.a, by simp [World.setCell, Array.getElem?_modify, h.f], h.p.two _ _ h5, two_bl h.bl h7 _ _, h.h⟩
theorem RkW.f12 (h : RkW w0 B K A F b off p0 p1 p2 x0 x1 x2 u) : RkW w0 B K A F b off p0 p1 p2 x0 ⟨x2.d, x1.k⟩ ⟨x1.d, x2.k⟩ ((u.setCell ⟨F, 1, none⟩ (.int .i64 x2.d)).setCell ⟨F, 2, none⟩ (.int .i64 x1.d)) := by
  obtain ⟨h1, h2, h3, h4, h5, h6, h7, h8⟩ := h.h
  exact ⟨(two_ne h2).trans h.z, (two_ne h3).trans h.a, by simp [World.setCell, Array.getElem?_modify, h.f], h.p.two _ _ h5, two_bl h.bl h7 _ _, h.h⟩
theorem RkW.a01 (h : RkW w0 B K A F b off p0 p1 p2 x0 x1 x2 u) : RkW w0 B K A F b off p0 p1 p2 ⟨x0.d, x1.k⟩ ⟨x1.d, x0.k⟩ x2 ((u.setCell ⟨A, 0, none⟩ (.int .i64 (x1.k : Nat))).setCell ⟨A, 1, none⟩ (.int .i64 (x0.k : Nat))) := by
  obtain ⟨h1, h2, h3, h4, h5, h6, h7, h8⟩ := h.h
  exact ⟨(two_ne h1).trans h.z, by simp [World.setCell, Array.getElem?_modify, h.a], (two_ne (Ne.symm h3)).trans h.f, h.p.two _ _ h4, two_bl h.bl h6 _ _, h.h⟩
theorem RkW.a12 (h : RkW w0 B K A F b off p0 p1 p2 x0 x1 x2 u) : RkW w0 B K A F b off p0 p1 p2 x0 ⟨x1.d, x2.k⟩ ⟨x2.d, x1.k⟩ ((u.setCell ⟨A, 1, none⟩ (.int .i64 (x2.k : Nat))).setCell ⟨A, 2, none⟩ (.int .i64 (x1.k : Nat))) := by
  obtain ⟨h1, h2, h3, h4, h5, h6, h7, h8⟩ := h.h
  exact ⟨(two_ne h1).trans h.z, by simp [World.setCell, Array.getElem?_modify, h.a], (two_ne (Ne.symm h3)).trans h.f, h.p.two _ _ h4, two_bl h.bl h6 _ _, h.h⟩
end
theorem one_at3 {v : World} {b : Nat} {cs : Array Value} {ty : TypeId} (h : v.heap[b]? = some (.cells cs ty)) (i : Nat) (x : Value) : (v.setCell ⟨b, i, none⟩ x).drew.heap[b]? = some (.cells (cs.setIfInBounds i x) ty) := by
  show (v.setCell ⟨b, i, none⟩ x).heap[b]? = _
  simp [World.setCell, Array.getElem?_modify, h]
theorem all_at {v : World} {b : Nat} {cs : Array Value} {ty : TypeId} (h : v.heap[b]? = some (.cells cs ty)) (o : Obj) : (v.alloc o).drew.heap[b]? = some (.cells cs ty) := keepA h
theorem inn0_yes {x0 x1 x2 : Rk} (h : x0.d < x1.d) : inn 0 (x0, x1, x2) = inn 1 (x1, x0, x2) := by
  show upB (upA (x0, x1, x2)) = upB (x1, x0, x2)
  unfold upA
  rw [if_pos h]
theorem inn0_no {x0 x1 x2 : Rk} (h : ¬ x0.d < x1.d) : inn 0 (x0, x1, x2) = inn 1 (x0, x1, x2) := by
  show upB (upA (x0, x1, x2)) = upB (x0, x1, x2)
  unfold upA
  rw [if_neg h]
theorem inn1_yes {x0 x1 x2 : Rk} (h : x1.d < x2.d) : inn 1 (x0, x1, x2) = inn 2 (x0, x2, x1) := by
  show upB (x0, x1, x2) = (x0, x2, x1)
  unfold upB
  rw [if_pos h]
theorem inn1_no {x0 x1 x2 : Rk} (h : ¬ x1.d < x2.d) : inn 1 (x0, x1, x2) = inn 2 (x0, x1, x2) := by
  show upB (x0, x1, x2) = (x0, x1, x2)
  unfold upB
  rw [if_neg h]
end Go.Proofs.YtkdmeclbnnjdgalDoor
