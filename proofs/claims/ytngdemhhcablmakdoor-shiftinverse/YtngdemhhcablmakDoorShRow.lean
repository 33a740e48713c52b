/-
  Rows of complex numbers in memory: by their parts, and as such.
-/
import Derived.Test.YtngdemhhcablmakDoorShP
import Derived.OwnWalk
import Derived.Laws.Entries
import Derived.Laws.NewBlocks
namespace Go.Proofs.YtngdemhhcablmakDoor
open Go Go.RowKit

structure PrAt (w : World) (b o : Nat) (s : Nat × Nat) : Prop where
  c0 : w.cell? ⟨b, o, none⟩ = some (.float .f64 s.1)
  c1 : w.cell? ⟨b, o + 1, none⟩ = some (.float .f64 s.2)
theorem PrAt.below {w v : World} {b o B : Nat} {s : Nat × Nat} (h : PrAt w b o s) (k : Below B w v) (hb : b < B) : PrAt v b o s :=
  ⟨(k.cell hb).trans h.c0, (k.cell hb).trans h.c1⟩
structure PrCame (w : World) (ad : Option Addr) (L : List (Nat × Nat)) : Prop where
  at_ : ∀ k, k < L.length → ∃ b off, ad = some ⟨b, off, none⟩ ∧ b < w.heap.size ∧ PrAt w b (off + k * 2) (L.getD k (0, 0))
theorem PrCame.below {w v : World} {ad : Option Addr} {L : List (Nat × Nat)} (h : PrCame w ad L) (k : Below w.heap.size w v) : PrCame v ad L := ⟨fun j hj => by
  obtain ⟨b, off, e, hb, h1⟩ := h.at_ j hj
  exact ⟨b, off, e, Nat.lt_of_lt_of_le hb k.size, h1.below k hb⟩⟩
theorem PrCame.nil (w : World) (ad : Option Addr) : PrCame w ad [] := ⟨fun k hk => absurd hk (Nat.not_lt_zero k)⟩
def valPr (s : Nat × Nat) : List Value := [.float .f64 s.1, .float .f64 s.2]
def flatPr : List (Nat × Nat) → List Value
  | [] => []
  | s :: L => valPr s ++ flatPr L
theorem flatPr_append : ∀ (L M : List (Nat × Nat)), flatPr (L ++ M) = flatPr L ++ flatPr M
  | [], _ => rfl
  | q :: L, M => by
    show valPr q ++ flatPr (L ++ M) = (valPr q ++ flatPr L) ++ flatPr M
    rw [flatPr_append L M, List.append_assoc]
theorem flatPr_length : ∀ L : List (Nat × Nat), (flatPr L).length = L.length * 2
  | [] => rfl
  | q :: L => by
    show (valPr q ++ flatPr L).length = _
    rw [List.length_append, flatPr_length L, List.length_cons]
    simp [valPr]
    omega
theorem flatPr_at : ∀ (L : List (Nat × Nat)) (j i : Nat), j < L.length → i < 2 → (flatPr L)[j * 2 + i]? = (valPr (L.getD j (0, 0)))[i]?
  | [], j, i, h, _ => absurd h (Nat.not_lt_zero j)
  | q :: L, 0, i, _, hi => by
    show (valPr q ++ flatPr L)[0 * 2 + i]? = _
    rw [Nat.zero_mul, Nat.zero_add, List.getElem?_append_left (by simp [valPr]; omega)]
    rfl
  | q :: L, j + 1, i, h, hi => by
    show (valPr q ++ flatPr L)[(j + 1) * 2 + i]? = _
    rw [List.getElem?_append_right (by simp [valPr]; omega)]
    have e : (j + 1) * 2 + i - (valPr q).length = j * 2 + i := by simp [valPr]; omega
    rw [e, flatPr_at L j i (by simpa using h) hi]
    rfl
theorem flatPr_one (L : List (Nat × Nat)) : ∀ u ∈ flatPr L, u.oneCell' = true := by
  induction L with
  | nil => intro u hu; cases hu
  | cons q L ih =>
    intro u hu
    rcases List.mem_append.1 (show u ∈ valPr q ++ flatPr L from hu) with h | h
    · simp only [valPr, List.mem_cons, List.not_mem_nil, or_false] at h
      rcases h with rfl | rfl <;> rfl
    · exact ih u h
theorem Prat_of {w : World} {b o : Nat} {s : Nat × Nat} (h : ∀ i, i < 2 → w.cell? ⟨b, o + i, none⟩ = (valPr s)[i]?) : PrAt w b o s :=
  ⟨h 0 (by decide), h 1 (by decide)⟩
theorem PrAt.all {w : World} {b o : Nat} {s : Nat × Nat} (h : PrAt w b o s) : ∀ i, i < 2 → w.cell? ⟨b, o + i, none⟩ = (valPr s)[i]? := by
  intro i hi
  rcases (show i = 0 ∨ i = 1 by omega) with rfl | rfl
  · exact h.c0
  · exact h.c1
theorem Prcame_cells {w : World} {a0 : Addr} {L : List (Nat × Nat)} (h : PrCame w (some a0) L) : ∀ j u, (flatPr L)[j]? = some u → w.cell? (a0.add j) = some u := by
  intro j u hu
  have hj : j < L.length * 2 := by
    have := (List.getElem?_eq_some_iff.1 hu).1
    rwa [flatPr_length] at this
  obtain ⟨b, off, e, _, hat⟩ := h.at_ (j / 2) (by omega)
  cases e
  have e1 : j = j / 2 * 2 + j % 2 := by omega
  have h2 := hat.all (j % 2) (by omega)
  rw [← flatPr_at L (j / 2) (j % 2) (by omega) (by omega), ← e1, hu] at h2
  have e2 : off + j / 2 * 2 + j % 2 = off + j := by omega
  rw [add_pl2, ← e2]
  exact h2
theorem Prown {w : World} {B : Nat} {t : TypeId} {v : Value} {L : List (Nat × Nat)} (h : w.ownsRow B t 2 v L.length (flatPr L)) : ∃ ad cap, v = .slice ad L.length cap ∧ PrCame w ad L := by
  obtain ⟨_, h⟩ := h
  rcases h with ⟨h1, h2⟩ | ⟨g, cap, cur, rfl, hB, hg, hc, _, hs, ht⟩
  · have e : L = [] := List.length_eq_zero_iff.1 h2
    subst e
    exact ⟨none, 0, h1, PrCame.nil _ _⟩
  · refine ⟨_, cap, rfl, ⟨fun j hj => ⟨g, 0, rfl, (Array.getElem?_eq_some_iff.1 hg).1, ?_⟩⟩⟩
    refine Prat_of (fun i hi => ?_)
    rw [← flatPr_at L j i hj hi, ← ht, List.getElem?_take, if_pos (by omega)]
    simp only [World.cell?, hg]
    simp
def Przv : Value := .agg #[.float .f64 0, .float .f64 0]
theorem Prtake {L : List (Nat × Nat)} {k : Nat} (h : k < L.length) : L.take (k + 1) = L.take k ++ [L.getD k (0, 0)] := by
  rw [List.take_add_one, List.getElem?_eq_getElem h, List.getD_eq_getElem?_getD, List.getElem?_eq_getElem h]
  rfl
/-- a row of complex numbers that came in. -/
structure CxCame (w : World) (ad : Option Addr) (L : List (Nat × Nat)) : Prop where
  at_ : ∀ k, k < L.length → ∃ b off, ad = some ⟨b, off, none⟩ ∧ b < w.heap.size ∧ w.cell? ⟨b, off + k, none⟩ = some (.complex .f64 (L.getD k (0, 0)).1 (L.getD k (0, 0)).2)
theorem CxCame.below {w v : World} {ad : Option Addr} {L : List (Nat × Nat)} (h : CxCame w ad L) (k : Below w.heap.size w v) : CxCame v ad L := ⟨fun j hj => by
  obtain ⟨b, off, e, hb, h1⟩ := h.at_ j hj
  exact ⟨b, off, e, Nat.lt_of_lt_of_le hb k.size, (k.cell hb).trans h1⟩⟩
theorem CxCame.nil (w : World) (ad : Option Addr) : CxCame w ad [] := ⟨fun k hk => absurd hk (Nat.not_lt_zero k)⟩
def cxV (x : Nat × Nat) : Value := .complex .f64 x.1 x.2
/-- a row of complex numbers that was made. -/
def CxOwn (w : World) (B : Nat) (v : Value) (L : List (Nat × Nat)) : Prop := w.ownsRow B 41 1 v L.length (L.map cxV)
theorem CxOwn.below {w w' : World} {B : Nat} {v : Value} {L : List (Nat × Nat)} (h : CxOwn w B v L) (k : Below w.heap.size w w') : CxOwn w' B v L := own_below2 h k
theorem cx_nil (w : World) (B : Nat) : CxOwn w B (.slice none 0 0) [] := World.ownsRow_nil _ _ _ _
theorem CxOwn.came {w : World} {B : Nat} {v : Value} {L : List (Nat × Nat)} (h : CxOwn w B v L) : ∃ ad cap, v = .slice ad L.length cap ∧ CxCame w ad L := by
  unfold CxOwn at h
  rcases h.2 with ⟨h1, h2⟩ | ⟨g, cap, cur, rfl, hB, hg, hc, _, hs, ht⟩
  · have e : L = [] := List.length_eq_zero_iff.1 h2
    subst e
    exact ⟨none, 0, h1, CxCame.nil _ _⟩
  · refine ⟨_, cap, rfl, ⟨fun j hj => ⟨g, 0, rfl, (Array.getElem?_eq_some_iff.1 hg).1, ?_⟩⟩⟩
    have := h.cellAt j (by rw [Nat.mul_one]; exact hj)
    rw [Nat.zero_add, this, List.getElem?_map, List.getElem?_eq_getElem hj, List.getD_eq_getElem?_getD, List.getElem?_eq_getElem hj]
    rfl
end Go.Proofs.YtngdemhhcablmakDoor
