/-
  Rows of bodies that a call has made: by cells, and written.
-/
import Derived.Test.YtdngkmobkbiflagDoorBodE
import Derived.OwnWalk
import Derived.Laws.Entries
import Derived.Laws.NewBlocks
namespace Go.Proofs.YtdngkmobkbiflagDoor
open Go Go.RowKit

def bz : Value := .agg #[.int .i64 0, .int .i64 0, .int .i64 0, .int .i64 0, .int .i64 0, .int .i64 0, .int .i64 0]
theorem infoRB : (Tryd.prog.info? 44).map (fun i => (i.zero, i.size, i.bytes)) = some (some bz, 7, 56) := by kernel_rfl
def valB (s : Bd) : List Value := [.int .i64 s.at_.x, .int .i64 s.at_.y, .int .i64 s.at_.z, .int .i64 s.sp.x, .int .i64 s.sp.y, .int .i64 s.sp.z, .int .i64 s.m]
def flatB : List Bd → List Value
  | [] => []
  | s :: L => valB s ++ flatB L
theorem flatB_append : ∀ (L M : List Bd), flatB (L ++ M) = flatB L ++ flatB M
  | [], _ => rfl
  | q :: L, M => by
    show valB q ++ flatB (L ++ M) = (valB q ++ flatB L) ++ flatB M
    rw [flatB_append L M, List.append_assoc]
theorem flatB_length : ∀ L : List Bd, (flatB L).length = L.length * 7
  | [] => rfl
  | q :: L => by
    show (valB q ++ flatB L).length = _
    rw [List.length_append, flatB_length L, List.length_cons]
    simp [valB]
    omega
theorem flatB_at : ∀ (L : List Bd) (j i : Nat), j < L.length → i < 7 → (flatB L)[j * 7 + i]? = (valB (L.getD j bd0))[i]?
  | [], j, i, h, _ => absurd h (Nat.not_lt_zero j)
  | q :: L, 0, i, _, hi => by
    show (valB q ++ flatB L)[0 * 7 + i]? = _
    rw [Nat.zero_mul, Nat.zero_add, List.getElem?_append_left (by simp [valB]; omega)]
    rfl
  | q :: L, j + 1, i, h, hi => by
    show (valB q ++ flatB L)[(j + 1) * 7 + i]? = _
    rw [List.getElem?_append_right (by simp [valB]; omega)]
    have e : (j + 1) * 7 + i - (valB q).length = j * 7 + i := by simp [valB]; omega
    rw [e, flatB_at L j i (by simpa using h) hi]
    rfl
theorem flatB_one (L : List Bd) : ∀ u ∈ flatB L, u.oneCell' = true := by
  induction L with
  | nil => intro u hu; cases hu
  | cons q L ih =>
    intro u hu
    rcases List.mem_append.1 (show u ∈ valB q ++ flatB L from hu) with h | h
    · simp only [valB, List.mem_cons, List.not_mem_nil, or_false] at h
      rcases h with rfl | rfl | rfl | rfl | rfl | rfl | rfl <;> rfl
    · exact ih u h
theorem bat_of {w : World} {b o : Nat} {s : Bd} (h : ∀ i, i < 7 → w.cell? ⟨b, o + i, none⟩ = (valB s)[i]?) : BAt w b o s :=
  ⟨h 0 (by decide), h 1 (by decide), h 2 (by decide), h 3 (by decide), h 4 (by decide), h 5 (by decide), h 6 (by decide)⟩
theorem BAt.all {w : World} {b o : Nat} {s : Bd} (h : BAt w b o s) : ∀ i, i < 7 → w.cell? ⟨b, o + i, none⟩ = (valB s)[i]? := by
  intro i hi
  rcases (show i = 0 ∨ i = 1 ∨ i = 2 ∨ i = 3 ∨ i = 4 ∨ i = 5 ∨ i = 6 by omega) with rfl | rfl | rfl | rfl | rfl | rfl | rfl
  · exact h.ax
  · exact h.ay
  · exact h.az
  · exact h.sx
  · exact h.sy
  · exact h.sz
  · exact h.ms
/-- a block whose first bodies are told, and that may be written. -/
structure FOwn (w : World) (g n : Nat) (f : Nat → Bd) : Prop where
  at_ : ∀ j, j < n → BAt w g (j * 7) (f j)
  free : ∀ i, w.frozen? ⟨g, i, none⟩ = false
  lt : g < w.heap.size
theorem FOwn.below {w v : World} {g n B : Nat} {f : Nat → Bd} (h : FOwn w g n f) (k : Below B w v) (hb : g < B) : FOwn v g n f :=
  ⟨fun j hj => (h.at_ j hj).below k hb, fun i => (k.frozen (p := ⟨g, i, none⟩) hb).trans (h.free i), Nat.lt_of_lt_of_le h.lt k.size⟩
theorem FOwn.congr {w : World} {g n : Nat} {f f' : Nat → Bd} (h : FOwn w g n f) (k : ∀ j, j < n → f j = f' j) : FOwn w g n f' :=
  ⟨fun j hj => k j hj ▸ h.at_ j hj, h.free, h.lt⟩
/-- what a call hands back: nothing, or a block of its own. -/
def BOwn (w : World) (B : Nat) (v : Value) (L : List Bd) : Prop := (v = .slice none 0 0 ∧ L = []) ∨ ∃ g cap, v = .slice (some ⟨g, 0, none⟩) L.length cap ∧ B ≤ g ∧ FOwn w g L.length (fun j => L.getD j bd0)
theorem own_rowB {w : World} {B : Nat} {t : TypeId} {v : Value} {L : List Bd} (h : w.ownsRow B t 7 v L.length (flatB L)) : BOwn w B v L := by
  obtain ⟨_, h⟩ := h
  rcases h with ⟨h1, h2⟩ | ⟨g, cap, cur, rfl, hB, hg, hc, _, hs, ht⟩
  · exact .inl ⟨h1, List.length_eq_zero_iff.1 h2⟩
  · refine .inr ⟨g, cap, rfl, hB, ⟨fun j hj => ?_, fun i => ?_, (Array.getElem?_eq_some_iff.1 hg).1⟩⟩
    · refine bat_of (fun i hi => ?_)
      rw [← flatB_at L j i hj hi, ← ht, List.getElem?_take, if_pos (by omega)]
      simp only [World.cell?, hg]
      simp
    · simp [World.frozen?, hg]
theorem BOwn.came {w : World} {B : Nat} {v : Value} {L : List Bd} (h : BOwn w B v L) : ∃ ad cap, v = .slice ad L.length cap ∧ BCame w ad L := by
  rcases h with ⟨rfl, rfl⟩ | ⟨g, cap, rfl, _, h⟩
  · exact ⟨none, 0, rfl, ⟨fun k hk => absurd hk (Nat.not_lt_zero k)⟩⟩
  · refine ⟨_, cap, rfl, ⟨fun k hk => ⟨g, 0, rfl, h.lt, ?_⟩⟩⟩
    rw [Nat.zero_add]
    exact h.at_ k hk
theorem BOwn.below {w v : World} {B : Nat} {u : Value} {L : List Bd} (h : BOwn w B u L) (k : Below w.heap.size w v) : BOwn v B u L := by
  rcases h with h | ⟨g, cap, rfl, hB, h⟩
  · exact .inl h
  · exact .inr ⟨g, cap, rfl, hB, h.below k h.lt⟩
/-! a speed, or a place, is written -/
def set3c (w : World) (g o : Nat) (p : Cl) : World := ((w.setCell ⟨g, o, none⟩ (.int .i64 p.x)).setCell ⟨g, o + 1, none⟩ (.int .i64 p.y)).setCell ⟨g, o + 2, none⟩ (.int .i64 p.z)
theorem set3c_other {w : World} {g o i : Nat} (p : Cl) (h : i < o ∨ o + 3 ≤ i) : (set3c w g o p).cell? ⟨g, i, none⟩ = w.cell? ⟨g, i, none⟩ := by
  unfold set3c
  rw [World.cell?_setCell_other, World.cell?_setCell_other, World.cell?_setCell_other]
  all_goals
    intro e
    injection e with _ e2
    omega
theorem set3c_x {w : World} {g o : Nat} (p : Cl) {u : Value} (h : w.cell? ⟨g, o, none⟩ = some u) : (set3c w g o p).cell? ⟨g, o, none⟩ = some (.int .i64 p.x) := by
  unfold set3c
  rw [World.cell?_setCell_other, World.cell?_setCell_other]
  · exact World.cell?_setCell_same w _ _ h
  all_goals
    intro e
    injection e with _ e2
    omega
theorem set3c_y {w : World} {g o : Nat} (p : Cl) {u : Value} (h : w.cell? ⟨g, o + 1, none⟩ = some u) : (set3c w g o p).cell? ⟨g, o + 1, none⟩ = some (.int .i64 p.y) := by
  unfold set3c
  rw [World.cell?_setCell_other]
  · refine World.cell?_setCell_same _ _ _ (u := u) ?_
    rw [World.cell?_setCell_other]
    · exact h
    · intro e
      injection e with _ e2
      omega
  · intro e
    injection e with _ e2
    omega
theorem set3c_z {w : World} {g o : Nat} (p : Cl) {u : Value} (h : w.cell? ⟨g, o + 2, none⟩ = some u) : (set3c w g o p).cell? ⟨g, o + 2, none⟩ = some (.int .i64 p.z) := by
  unfold set3c
  refine World.cell?_setCell_same _ _ _ (u := u) ?_
  rw [World.cell?_setCell_other, World.cell?_setCell_other]
  · exact h
  all_goals
    intro e
    injection e with _ e2
    omega
theorem BAt.setSp {w : World} {g o : Nat} {s : Bd} (h : BAt w g o s) (p : Cl) : BAt (set3c w g (o + 3) p) g o { s with sp := p } :=
  ⟨(set3c_other p (by omega)).trans h.ax, (set3c_other p (by omega)).trans h.ay, (set3c_other p (by omega)).trans h.az, set3c_x p h.sx, set3c_y p h.sy, set3c_z p h.sz, (set3c_other p (by omega)).trans h.ms⟩
theorem BAt.setAt {w : World} {g o : Nat} {s : Bd} (h : BAt w g o s) (p : Cl) : BAt (set3c w g o p) g o { s with at_ := p } :=
  ⟨set3c_x p h.ax, set3c_y p h.ay, set3c_z p h.az, (set3c_other p (by omega)).trans h.sx, (set3c_other p (by omega)).trans h.sy, (set3c_other p (by omega)).trans h.sz, (set3c_other p (by omega)).trans h.ms⟩
theorem BAt.off {w : World} {g o o' : Nat} {s : Bd} (h : BAt w g o s) (p : Cl) (k : o + 7 ≤ o' ∨ o' + 3 ≤ o) : BAt (set3c w g o' p) g o s :=
  ⟨(set3c_other p (by omega)).trans h.ax, (set3c_other p (by omega)).trans h.ay, (set3c_other p (by omega)).trans h.az, (set3c_other p (by omega)).trans h.sx, (set3c_other p (by omega)).trans h.sy, (set3c_other p (by omega)).trans h.sz, (set3c_other p (by omega)).trans h.ms⟩
theorem set3c_free {w : World} {g o i : Nat} (p : Cl) : (set3c w g o p).frozen? ⟨g, i, none⟩ = w.frozen? ⟨g, i, none⟩ := by
  unfold set3c
  simp [go_sem]
theorem set3c_size {w : World} {g o : Nat} (p : Cl) : (set3c w g o p).heap.size = w.heap.size := by
  unfold set3c
  simp [World.setCell]
def updB (f : Nat → Bd) (k : Nat) (s : Bd) : Nat → Bd := fun j => if j = k then s else f j
theorem FOwn.setSp {w : World} {g n : Nat} {f : Nat → Bd} (h : FOwn w g n f) {k : Nat} (hk : k < n) (p : Cl) : FOwn (set3c w g (k * 7 + 3) p) g n (updB f k { f k with sp := p }) := by
  refine ⟨fun j hj => ?_, fun i => (set3c_free p).trans (h.free i), by rw [set3c_size]; exact h.lt⟩
  unfold updB
  by_cases e : j = k
  · subst e
    rw [if_pos rfl]
    exact (h.at_ j hj).setSp p
  · rw [if_neg e]
    exact (h.at_ j hj).off p (by omega)
theorem FOwn.setAt {w : World} {g n : Nat} {f : Nat → Bd} (h : FOwn w g n f) {k : Nat} (hk : k < n) (p : Cl) : FOwn (set3c w g (k * 7) p) g n (updB f k { f k with at_ := p }) := by
  refine ⟨fun j hj => ?_, fun i => (set3c_free p).trans (h.free i), by rw [set3c_size]; exact h.lt⟩
  unfold updB
  by_cases e : j = k
  · subst e
    rw [if_pos rfl]
    exact (h.at_ j hj).setAt p
  · rw [if_neg e]
    exact (h.at_ j hj).off p (by omega)
theorem below_set3c {w v : World} {B g o : Nat} (h : Below B w v) (hb : B ≤ g) (p : Cl) : Below B w (set3c v g o p) := by
  unfold set3c
  exact ((h.setCell hb _).setCell hb _).setCell hb _
end Go.Proofs.YtdngkmobkbiflagDoor
