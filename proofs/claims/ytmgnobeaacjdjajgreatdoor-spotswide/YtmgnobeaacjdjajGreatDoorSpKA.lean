/-
  Rows of whole numbers that grow, for the laws of stars. Spots in memory, brighter ones first. Nothing of the program's text. A row of whole numbers that is made and written; a row of truths that came in; a row's sum. The numbers of parts in memory. Lit pixels in memory, a spot's block, and how large its sums grow.
-/
import Derived.Test.YtmgnobeaacjdjajGreatDoorFrA
import Derived.Test.YtmgnobeaacjdjajGreatDoorPureA
import Derived.Test.YtmgnobeaacjdjajGreatDoorLooseA
import Derived.Laws.OwnMore
import Derived.OwnWalk
import Derived.Laws.Entries
import Derived.Laws.NewBlocks
import Derived.WalkSpells
import Derived.Laws.AppendOwnNone
namespace Go.Proofs.YtmgnobeaacjdjajGreatDoor
open Go Go.RowKit

def IOwn (w : World) (B : Nat) (v : Value) (C : List Int) : Prop := w.ownsRow B 3 1 v C.length (C.map (Value.int .i64))
theorem IOwn.below {w w' : World} {B : Nat} {v : Value} {C : List Int} (h : IOwn w B v C) (k : Below w.heap.size w w') : IOwn w' B v C := own_below2 h k
theorem IOwn.slice {w : World} {B : Nat} {v : Value} {C : List Int} (h : IOwn w B v C) : ∃ ad cap, v = .slice ad C.length cap := by
  rcases h.2 with ⟨h1, h2⟩ | ⟨g, cap, cur, e, _⟩
  · exact ⟨none, 0, by rw [h1, h2]⟩
  · exact ⟨_, cap, e⟩
theorem inil (w : World) (B : Nat) : IOwn w B (.slice none 0 0) [] := World.ownsRow_nil _ _ _ _
theorem IOwn.came {w : World} {B : Nat} {v : Value} {C : List Int} (h : IOwn w B v C) : ∃ ad cap, v = .slice ad C.length cap ∧ ICame w ad C := by
  obtain ⟨ad, cap, e, hc, _⟩ := own_ints h
  exact ⟨ad, cap, e, hc⟩
def SlOne (v : Value) : Prop := ∃ g : Nat, v = .slice (some ⟨g, 0, none⟩) 1 1
def OneI (c : Int) (v : Value) (w : World) : Prop := ∀ g : Nat, v = .slice (some ⟨g, 0, none⟩) 1 1 → w.heap[g]? = some (.cells #[.int .i64 c] 3)
theorem oneI_stb (c : Int) (v : Value) : Stb (OneI c v) := fun _ _ h k g e => keepB (h g e) k
theorem one_cell {w : World} {g : Nat} {c : Int} (h : w.heap[g]? = some (.cells #[.int .i64 c] 3)) : ∀ k u, ([.int .i64 c] : List Value)[k]? = some u → w.cell? ((⟨g, 0, none⟩ : Addr).add k) = some u := by
  intro k u hu
  rw [add_pl2, Nat.zero_add]
  rcases k with _ | k
  · rw [← hu]; exact one_at h
  · simp at hu
theorem int_one {c : Int} : ∀ u ∈ ([.int .i64 c] : List Value), u.oneCell' = true := by
  intro u hu
  rw [List.mem_singleton.1 hu]
  rfl
theorem own_plus {w : World} {B n : Nat} {v : Value} {C : List Int} {c : Int} (hn : C.length = n) (h : w.ownsRow B 3 1 v (n + 1) (C.map (Value.int .i64) ++ [.int .i64 c])) : IOwn w B v (C ++ [c]) := by
  unfold IOwn
  rw [List.length_append, List.map_append, hn]
  exact h
theorem below_goB2 {w v u : World} {B : Nat} (h : Below B w v) (hB : B ≤ v.heap.size) (k : Below v.heap.size v u) : Below B w u := h.trans (k.mono hB)
end Go.Proofs.YtmgnobeaacjdjajGreatDoor
namespace Go.Proofs.YtmgnobeaacjdjajGreatDoor
open Go Go.RowKit

/-- a spot of light: its box, its pixels, its light, its star. -/
structure Sta where
  le : Int
  tp : Int
  ri : Int
  lo : Int
  px : Int
  li : Int
  x : Int
  y : Int
  lt : Int
deriving DecidableEq, Inhabited
def sx0 : Sta := ⟨0, 0, 0, 0, 0, 0, 0, 0, 0⟩
structure SxAt (w : World) (b o : Nat) (s : Sta) : Prop where
  c0 : w.cell? ⟨b, o, none⟩ = some (.int .i64 s.le)
  c1 : w.cell? ⟨b, o + 1, none⟩ = some (.int .i64 s.tp)
  c2 : w.cell? ⟨b, o + 2, none⟩ = some (.int .i64 s.ri)
  c3 : w.cell? ⟨b, o + 3, none⟩ = some (.int .i64 s.lo)
  c4 : w.cell? ⟨b, o + 4, none⟩ = some (.int .i64 s.px)
  c5 : w.cell? ⟨b, o + 5, none⟩ = some (.int .i64 s.li)
  c6 : w.cell? ⟨b, o + 6, none⟩ = some (.int .i64 s.x)
  c7 : w.cell? ⟨b, o + 7, none⟩ = some (.int .i64 s.y)
  c8 : w.cell? ⟨b, o + 8, none⟩ = some (.int .i64 s.lt)
theorem SxAt.below {w v : World} {b o B : Nat} {s : Sta} (h : SxAt w b o s) (k : Below B w v) (hb : b < B) : SxAt v b o s :=
  ⟨(k.cell hb).trans h.c0, (k.cell hb).trans h.c1, (k.cell hb).trans h.c2, (k.cell hb).trans h.c3, (k.cell hb).trans h.c4, (k.cell hb).trans h.c5, (k.cell hb).trans h.c6, (k.cell hb).trans h.c7, (k.cell hb).trans h.c8⟩
structure SxCame (w : World) (ad : Option Addr) (L : List Sta) : Prop where
  at_ : ∀ k, k < L.length → ∃ b off, ad = some ⟨b, off, none⟩ ∧ b < w.heap.size ∧ SxAt w b (off + k * 9) (L.getD k sx0)
theorem SxCame.below {w v : World} {ad : Option Addr} {L : List Sta} (h : SxCame w ad L) (k : Below w.heap.size w v) : SxCame v ad L := ⟨fun j hj => by
  obtain ⟨b, off, e, hb, h1⟩ := h.at_ j hj
  exact ⟨b, off, e, Nat.lt_of_lt_of_le hb k.size, h1.below k hb⟩⟩
theorem SxCame.nil (w : World) (ad : Option Addr) : SxCame w ad [] := ⟨fun k hk => absurd hk (Nat.not_lt_zero k)⟩
def valSx (s : Sta) : List Value := [.int .i64 s.le, .int .i64 s.tp, .int .i64 s.ri, .int .i64 s.lo, .int .i64 s.px, .int .i64 s.li, .int .i64 s.x, .int .i64 s.y, .int .i64 s.lt]
def flatSx : List Sta → List Value
  | [] => []
  | s :: L => valSx s ++ flatSx L
theorem flatSx_append : ∀ (L M : List Sta), flatSx (L ++ M) = flatSx L ++ flatSx M
  | [], _ => rfl
  | q :: L, M => by
    show valSx q ++ flatSx (L ++ M) = (valSx q ++ flatSx L) ++ flatSx M
    rw [flatSx_append L M, List.append_assoc]
theorem flatSx_length : ∀ L : List Sta, (flatSx L).length = L.length * 9
  | [] => rfl
  | q :: L => by
    show (valSx q ++ flatSx L).length = _
    rw [List.length_append, flatSx_length L, List.length_cons]
    simp [valSx]
    omega
theorem flatSx_at : ∀ (L : List Sta) (j i : Nat), j < L.length → i < 9 → (flatSx L)[j * 9 + i]? = (valSx (L.getD j sx0))[i]?
  | [], j, i, h, _ => absurd h (Nat.not_lt_zero j)
  | q :: L, 0, i, _, hi => by
    show (valSx q ++ flatSx L)[0 * 9 + i]? = _
    rw [Nat.zero_mul, Nat.zero_add, List.getElem?_append_left (by simp [valSx]; omega)]
    rfl
  | q :: L, j + 1, i, h, hi => by
    show (valSx q ++ flatSx L)[(j + 1) * 9 + i]? = _
    rw [List.getElem?_append_right (by simp [valSx]; omega)]
    have e : (j + 1) * 9 + i - (valSx q).length = j * 9 + i := by simp [valSx]; omega
    rw [e, flatSx_at L j i (by simpa using h) hi]
    rfl
theorem flatSx_one (L : List Sta) : ∀ u ∈ flatSx L, u.oneCell' = true := by
  induction L with
  | nil => intro u hu; cases hu
  | cons q L ih =>
    intro u hu
    rcases List.mem_append.1 (show u ∈ valSx q ++ flatSx L from hu) with h | h
    · simp only [valSx, List.mem_cons, List.not_mem_nil, or_false] at h
      rcases h with rfl | rfl | rfl | rfl | rfl | rfl | rfl | rfl | rfl <;> rfl
    · exact ih u h
theorem Sxat_of {w : World} {b o : Nat} {s : Sta} (h : ∀ i, i < 9 → w.cell? ⟨b, o + i, none⟩ = (valSx s)[i]?) : SxAt w b o s :=
  ⟨h 0 (by decide), h 1 (by decide), h 2 (by decide), h 3 (by decide), h 4 (by decide), h 5 (by decide), h 6 (by decide), h 7 (by decide), h 8 (by decide)⟩
theorem SxAt.all {w : World} {b o : Nat} {s : Sta} (h : SxAt w b o s) : ∀ i, i < 9 → w.cell? ⟨b, o + i, none⟩ = (valSx s)[i]? := by
  intro i hi
  rcases (show i = 0 ∨ i = 1 ∨ i = 2 ∨ i = 3 ∨ i = 4 ∨ i = 5 ∨ i = 6 ∨ i = 7 ∨ i = 8 by omega) with rfl | rfl | rfl | rfl | rfl | rfl | rfl | rfl | rfl
  · exact h.c0
  · exact h.c1
  · exact h.c2
  · exact h.c3
  · exact h.c4
  · exact h.c5
  · exact h.c6
  · exact h.c7
  · exact h.c8
theorem Sxcame_cells {w : World} {a0 : Addr} {L : List Sta} (h : SxCame w (some a0) L) : ∀ j u, (flatSx L)[j]? = some u → w.cell? (a0.add j) = some u := by
  intro j u hu
  have hj : j < L.length * 9 := by
    have := (List.getElem?_eq_some_iff.1 hu).1
    rwa [flatSx_length] at this
  obtain ⟨b, off, e, _, hat⟩ := h.at_ (j / 9) (by omega)
  cases e
  have e1 : j = j / 9 * 9 + j % 9 := by omega
  have h2 := hat.all (j % 9) (by omega)
  rw [← flatSx_at L (j / 9) (j % 9) (by omega) (by omega), ← e1, hu] at h2
  have e2 : off + j / 9 * 9 + j % 9 = off + j := by omega
  rw [add_pl2, ← e2]
  exact h2
theorem Sxown {w : World} {B : Nat} {t : TypeId} {v : Value} {L : List Sta} (h : w.ownsRow B t 9 v L.length (flatSx L)) : ∃ ad cap, v = .slice ad L.length cap ∧ SxCame w ad L := by
  obtain ⟨_, h⟩ := h
  rcases h with ⟨h1, h2⟩ | ⟨g, cap, cur, rfl, hB, hg, hc, _, hs, ht⟩
  · have e : L = [] := List.length_eq_zero_iff.1 h2
    subst e
    exact ⟨none, 0, h1, SxCame.nil _ _⟩
  · refine ⟨_, cap, rfl, ⟨fun j hj => ⟨g, 0, rfl, (Array.getElem?_eq_some_iff.1 hg).1, ?_⟩⟩⟩
    refine Sxat_of (fun i hi => ?_)
    rw [← flatSx_at L j i hj hi, ← ht, List.getElem?_take, if_pos (by omega)]
    simp only [World.cell?, hg]
    simp
def Sxzv : Value := .agg #[.int .i64 0, .int .i64 0, .int .i64 0, .int .i64 0, .int .i64 0, .int .i64 0, .int .i64 0, .int .i64 0, .int .i64 0]
theorem Sxtake {L : List Sta} {k : Nat} (h : k < L.length) : L.take (k + 1) = L.take k ++ [L.getD k sx0] := by
  rw [List.take_add_one, List.getElem?_eq_getElem h, List.getD_eq_getElem?_getD, List.getElem?_eq_getElem h]
  rfl
def sxV (s : Sta) : Value := .agg #[.int .i64 s.le, .int .i64 s.tp, .int .i64 s.ri, .int .i64 s.lo, .int .i64 s.px, .int .i64 s.li, .int .i64 s.x, .int .i64 s.y, .int .i64 s.lt]
/-- behind all that are as bright. -/
def putX : List Sta → Sta → List Sta
  | [], e => [e]
  | x :: l, e => if e.li ≤ x.li then x :: putX l e else e :: x :: l
theorem putX_split : ∀ (L : List Sta) (e : Sta) (i : Nat), i ≤ L.length → (∀ j, j < i → e.li ≤ (L.getD j sx0).li) → (i < L.length → ¬ e.li ≤ (L.getD i sx0).li) → putX L e = L.take i ++ e :: L.drop i
  | [], _, i, hi, _, _ => by
    obtain rfl : i = 0 := by simpa using hi
    rfl
  | x :: l, e, 0, _, _, h => by
    have : ¬ e.li ≤ x.li := h (by simp)
    unfold putX
    rw [if_neg this]
    rfl
  | x :: l, e, i + 1, hi, h1, h2 => by
    have : e.li ≤ x.li := h1 0 (by omega)
    unfold putX
    rw [if_pos this, putX_split l e i (by simpa using hi) (fun j hj => h1 (j + 1) (by omega)) (fun k => h2 (by simpa using k))]
    rfl
theorem putX_length : ∀ (L : List Sta) (e : Sta), (putX L e).length = L.length + 1
  | [], _ => rfl
  | x :: l, e => by
    unfold putX
    split
    · rw [List.length_cons, putX_length l e, List.length_cons]
    · simp
/-- what is told of a part. -/
def starOf (s : Sp) : Sta := ⟨s.le, s.tp, s.ri, s.lo, s.px, s.li, s.sx.tdiv s.li, s.sy.tdiv s.li, s.li⟩
theorem putX_place (L : List Sp) (s : Sp) : putX (L.map starOf) (starOf s) = (placeV L s).map starOf := by
  induction L with
  | nil => rfl
  | cons a L ih =>
    have e : (starOf s).li = s.li ∧ (starOf a).li = a.li := ⟨rfl, rfl⟩
    rw [List.map_cons]
    unfold putX
    rw [e.1, e.2]
    by_cases c : s.li ≤ a.li
    · have q : placeV (a :: L) s = a :: placeV L s := by
        unfold placeV
        rw [List.takeWhile_cons_of_pos (by simpa using c), List.dropWhile_cons_of_pos (by simpa using c)]
        rfl
      rw [if_pos c, ih, q, List.map_cons]
    · have q : placeV (a :: L) s = s :: a :: L := by
        unfold placeV
        rw [List.takeWhile_cons_of_neg (by simpa using c), List.dropWhile_cons_of_neg (by simpa using c)]
        rfl
      rw [if_neg c, q]
      rfl
theorem nine_at9 {w : World} {b : Nat} {x : Sta} {ty : TypeId} (h : w.heap[b]? = some (.cells #[.int .i64 x.le, .int .i64 x.tp, .int .i64 x.ri, .int .i64 x.lo, .int .i64 x.px, .int .i64 x.li, .int .i64 x.x, .int .i64 x.y, .int .i64 x.lt] ty)) : SxAt w b 0 x :=
  ⟨(cells_at h 0 (by simp)).1, (cells_at h 1 (by simp)).1, (cells_at h 2 (by simp)).1, (cells_at h 3 (by simp)).1, (cells_at h 4 (by simp)).1, (cells_at h 5 (by simp)).1, (cells_at h 6 (by simp)).1, (cells_at h 7 (by simp)).1, (cells_at h 8 (by simp)).1⟩
theorem nine_new {w : World} {b : Nat} {x : Sta} {ty : TypeId} (h : w.heap[b]? = some (.cells #[.int .i64 x.le, .int .i64 x.tp, .int .i64 x.ri, .int .i64 x.lo, .int .i64 x.px, .int .i64 x.li, .int .i64 x.x, .int .i64 x.y, .int .i64 x.lt] ty)) : ∀ j u, (valSx x)[j]? = some u → w.cell? ((⟨b, 0, none⟩ : Addr).add j) = some u := by
  intro m u hm
  have hm0 : m < 9 := by
    have h := (List.getElem?_eq_some_iff.1 hm).1
    simpa [valSx] using h
  rw [add_pl2, (nine_at9 h).all m hm0, hm]
theorem drop_cellsX {w : World} {b off : Nat} {L : List Sta} (h : SxCame w (some ⟨b, off, none⟩) L) (i : Nat) (hi : i ≤ L.length) : ∀ j u, (flatSx (L.drop i))[j]? = some u → w.cell? ((⟨b, off + i * 9, none⟩ : Addr).add j) = some u := by
  intro j u hu
  have e : (flatSx L)[i * 9 + j]? = some u := by
    rw [← List.take_append_drop i L, flatSx_append, List.getElem?_append_right (by rw [flatSx_length, List.length_take, Nat.min_eq_left hi]; omega), flatSx_length, List.length_take, Nat.min_eq_left hi, Nat.add_sub_cancel_left]
    exact hu
  have k := Sxcame_cells h _ u e
  rw [add_pl2] at k ⊢
  rw [Nat.add_assoc]
  exact k
theorem Sxown2 {w : World} {B : Nat} {t : TypeId} {v : Value} {L : List Sta} (h : w.ownsRow B t 9 v L.length (flatSx L)) : ∃ ad cap, v = .slice ad L.length cap ∧ SxCame w ad L ∧ L.length ≤ cap := by
  have h' := h
  obtain ⟨_, h⟩ := h
  rcases h with ⟨h1, h2⟩ | ⟨g, cap, cur, rfl, hB, hg, hc, hx⟩
  · have e : L = [] := List.length_eq_zero_iff.1 h2
    subst e
    exact ⟨none, 0, h1, SxCame.nil _ _, Nat.le_refl _⟩
  · obtain ⟨ad, cap2, e2, hcm⟩ := Sxown h'
    cases e2
    exact ⟨_, _, rfl, hcm, hc⟩
/-- a slice of spots: none, or some. -/
inductive SxSl (w : World) : Value → List Sta → Prop where
  | nil : SxSl w (.slice none 0 0) []
  | row {b off cap : Nat} {L : List Sta} : SxCame w (some ⟨b, off, none⟩) L → L.length ≤ cap → SxSl w (.slice (some ⟨b, off, none⟩) L.length cap) L
theorem SxSl.below {w u : World} {v : Value} {L : List Sta} (h : SxSl w v L) (k : Below w.heap.size w u) : SxSl u v L := by
  cases h with
  | nil => exact .nil
  | row h hc => exact .row (h.below k) hc
theorem SxSl.cut {w : World} {v : Value} {L : List Sta} (h : SxSl w v L) : ∃ ad cap, v = .slice ad L.length cap ∧ SxCame w ad L := by
  cases h with
  | nil => exact ⟨none, 0, rfl, SxCame.nil _ _⟩
  | row h hc => exact ⟨_, _, rfl, h⟩
theorem SxCame.sl {w : World} {ad : Option Addr} {cap : Nat} {L : List Sta} (h : SxCame w ad L) (hn : L ≠ []) (hc : L.length ≤ cap) : SxSl w (.slice ad L.length cap) L := by
  obtain ⟨b, off, e, _, _⟩ := h.at_ 0 (List.length_pos_iff.2 hn)
  subst e
  exact .row h hc
end Go.Proofs.YtmgnobeaacjdjajGreatDoor
namespace Go.Proofs.YtmgnobeaacjdjajGreatDoor
open Go Go.RowKit

theorem make_zeroS {w : World} {n : Nat} (B : Nat) (hB : B ≤ w.heap.size) (hn : n ≤ 65536) : ∃ w', (Instr.makeSlice 29 (.int .i64 (n : Int)) (.int .i64 (n : Int))).run Tryz.prog w = .ok (.slice (some ⟨w.heap.size, 0, none⟩) n n) w' ∧ IOwn w' B (.slice (some ⟨w.heap.size, 0, none⟩) n n) (List.replicate n 0) ∧ Below w.heap.size w w' := by
  obtain ⟨i0, hi0, hz0, hz1, hz2⟩ := info_parts infoI
  obtain ⟨w', h1, h2, h3⟩ := run_make_full (P := Tryz.prog) w B 29 3 i0 (.int .i64 0) 1 (by kernel_rfl) hi0 hz0 hz1 .i64 .i64 n (by rw [hz2]; omega) (by simp [maxLen]; omega) hB
  refine ⟨w', h1, ?_, (Below.refl _ _).grown h3 (Nat.le_refl _) (fun k hk => by cases hk)⟩
  unfold IOwn
  have e : (madeCells (Value.cells (.int .i64 0)) (n * 1)).toList = (List.replicate n (0 : Int)).map (Value.int .i64) := by
    rw [Nat.mul_one, show (Value.cells (.int .i64 0)) = #[.int .i64 0] from rfl, toList_madeCells_one, List.map_replicate]
  rw [← e, List.length_replicate]
  exact h2
theorem IOwn.has {w : World} {B g n c : Nat} {C : List Int} (h : IOwn w B (.slice (some ⟨g, 0, none⟩) n c) C) (hn : C.length = n) {k : Nat} (hk : k < n) : w.cell? ⟨g, k, none⟩ = some (.int .i64 (C.getD k 0)) ∧ w.frozen? ⟨g, k, none⟩ = false := by
  unfold IOwn at h
  rw [hn] at h
  refine ⟨?_, h.frozenAt k⟩
  rw [h.cellAt k (by rw [Nat.mul_one]; exact hk), List.getElem?_map, List.getElem?_eq_getElem (by omega), List.getD_eq_getElem?_getD, List.getElem?_eq_getElem (by omega)]
  rfl
theorem IOwn.put {w : World} {B g n c : Nat} {C : List Int} (h : IOwn w B (.slice (some ⟨g, 0, none⟩) n c) C) (hn : C.length = n) (k : Nat) (x : Int) : IOwn (w.setCell ⟨g, k, none⟩ (.int .i64 x)) B (.slice (some ⟨g, 0, none⟩) n c) (C.set k x) := by
  unfold IOwn at h ⊢
  rw [hn] at h
  rw [List.length_set, hn, List.map_set]
  exact (h.stored k (.int .i64 x)).1
theorem IOwn.low {w : World} {B g n c : Nat} {C : List Int} (h : IOwn w B (.slice (some ⟨g, 0, none⟩) n c) C) : B ≤ g := own_at2 h g rfl
theorem IOwn.row {w : World} {B g n c : Nat} {C : List Int} (h : IOwn w B (.slice (some ⟨g, 0, none⟩) n c) C) : ICame w (some ⟨g, 0, none⟩) C := by
  obtain ⟨ad, cap, e, hc, _⟩ := own_ints h
  injection e with e
  subst e
  exact hc
/-- truths in memory. -/
structure LCame (w : World) (ad : Option Addr) (L : List Bool) : Prop where
  at_ : ∀ k, k < L.length → ∃ b off, ad = some ⟨b, off, none⟩ ∧ b < w.heap.size ∧ w.cell? ⟨b, off + k, none⟩ = some (.bool (L.getD k false))
theorem LCame.below {w v : World} {ad : Option Addr} {L : List Bool} (h : LCame w ad L) (k : Below w.heap.size w v) : LCame v ad L := ⟨fun j hj => by
  obtain ⟨b, off, e, hb, h1⟩ := h.at_ j hj
  exact ⟨b, off, e, Nat.lt_of_lt_of_le hb k.size, (k.cell (p := ⟨b, off + j, none⟩) hb).trans h1⟩⟩
def sumL (C : List Int) : Nat := (C.map Int.toNat).sum
def cellsSum : List Value → Nat
  | [] => 0
  | v :: r => (intOf v).toNat + cellsSum r
def rowSum (w : World) (g : Nat) : Nat := match w.heap[g]? with
  | some (.cells cs _ _) => cellsSum cs.toList
  | _ => 0
theorem cells_sum (C : List Int) : cellsSum (C.map (Value.int .i64)) = sumL C := by
  induction C with
  | nil => rfl
  | cons c C ih =>
    unfold sumL at *
    rw [List.map_cons, List.map_cons, List.sum_cons, ← ih]
    rfl
theorem IOwn.sum {w : World} {B g n : Nat} {C : List Int} (h : IOwn w B (.slice (some ⟨g, 0, none⟩) n n) C) (hn : C.length = n) : rowSum w g = sumL C := by
  unfold IOwn at h
  rw [hn] at h
  rcases h.2 with ⟨h1, _⟩ | ⟨g', c, cur, h1, _, hh, _, _, hs, ht⟩
  · cases h1
  · injection h1 with h1 h2 h3
    injection h1 with h1
    injection h1 with h1
    subst h1
    subst h3
    unfold rowSum
    rw [hh]
    show cellsSum cur.toList = _
    rw [List.take_of_length_le (by rw [Array.length_toList, hs]; exact Nat.le_refl _)] at ht
    rw [ht, cells_sum]
theorem sum_set {C : List Int} {i : Nat} {x : Int} (hi : i < C.length) (h0 : 0 ≤ x) (hx : x < C.getD i 0) : sumL (C.set i x) < sumL C := by
  induction C generalizing i with
  | nil => exact absurd hi (Nat.not_lt_zero i)
  | cons c C ih =>
    cases i with
    | zero =>
      have : x < c := hx
      unfold sumL
      simp only [List.set_cons_zero, List.map_cons, List.sum_cons]
      omega
    | succ i =>
      have := ih (i := i) (by simpa using hi) (by simpa using hx)
      unfold sumL at *
      simp only [List.set_cons_succ, List.map_cons, List.sum_cons]
      omega
end Go.Proofs.YtmgnobeaacjdjajGreatDoor
namespace Go.Proofs.YtmgnobeaacjdjajGreatDoor
open Go Go.RowKit

structure LbS (w : World) (g n : Nat) (C : List Int) (u : World) : Prop where
  own : IOwn u g (.slice (some ⟨g, 0, none⟩) n n) C
  len : C.length = n
  bel : Below g w u
theorem LbS.put {w u : World} {g n : Nat} {C : List Int} (h : LbS w g n C u) (k : Nat) (x : Int) : LbS w g n (C.set k x) (u.setCell ⟨g, k, none⟩ (.int .i64 x)) :=
  ⟨h.own.put h.len k x, by rw [List.length_set]; exact h.len, h.bel.setCell (Nat.le_refl g) _⟩
def oneB : Value → Nat
  | .bool true => 1
  | _ => 0
def LbPost (L : List Bool) (W : Nat) (w : World) (e : Ending) (w' : World) : Prop := ∃ (ad : Option Addr) (cap : Nat) (l : List Int) (parts : Nat), e = .returned (.tuple #[.slice ad L.length cap, .int .i64 (parts : Nat)]) ∧ IsLabels L W l parts ∧ parts ≤ L.length ∧ ICame w' ad l ∧ Below w.heap.size w w'
end Go.Proofs.YtmgnobeaacjdjajGreatDoor
namespace Go.Proofs.YtmgnobeaacjdjajGreatDoor
open Go Go.RowKit

theorem infoBo : (Tryz.prog.info? 4).map (fun i => (i.zero, i.size, i.bytes)) = some (some (.bool false), 1, 1) := by kernel_rfl
/-- a row of truths that is written. -/
structure LOwn (w : World) (g n : Nat) (C : List Bool) (u : World) : Prop where
  own : u.ownsRow g 4 1 (.slice (some ⟨g, 0, none⟩) n n) n (C.map Value.bool)
  len : C.length = n
  bel : Below g w u
theorem make_bools {w : World} {n : Nat} (hn : n ≤ 65536) : ∃ w', (Instr.makeSlice 90 (.int .i64 (n : Int)) (.int .i64 (n : Int))).run Tryz.prog w = .ok (.slice (some ⟨w.heap.size, 0, none⟩) n n) w' ∧ LOwn w w.heap.size n (List.replicate n false) w' := by
  obtain ⟨i0, hi0, hz0, hz1, hz2⟩ := info_parts infoBo
  obtain ⟨w', h1, h2, h3⟩ := run_make_full (P := Tryz.prog) w w.heap.size 90 4 i0 (.bool false) 1 (by kernel_rfl) hi0 hz0 hz1 .i64 .i64 n (by rw [hz2]; omega) (by simp [maxLen]; omega) (Nat.le_refl _)
  refine ⟨w', h1, ?_, by simp, (Below.refl _ _).grown h3 (Nat.le_refl _) (fun k hk => by cases hk)⟩
  have e : (madeCells (Value.cells (.bool false)) (n * 1)).toList = (List.replicate n false).map Value.bool := by
    rw [Nat.mul_one, show (Value.cells (.bool false)) = #[.bool false] from rfl, toList_madeCells_one, List.map_replicate]
  rw [← e]
  exact h2
theorem LOwn.has {w u : World} {g n : Nat} {C : List Bool} (h : LOwn w g n C u) {k : Nat} (hk : k < n) : u.cell? ⟨g, k, none⟩ = some (.bool (C.getD k false)) ∧ u.frozen? ⟨g, k, none⟩ = false := by
  refine ⟨?_, h.own.frozenAt k⟩
  have := h.len
  rw [h.own.cellAt k (by rw [Nat.mul_one]; exact hk), List.getElem?_map, List.getElem?_eq_getElem (by omega), List.getD_eq_getElem?_getD, List.getElem?_eq_getElem (by omega)]
  rfl
theorem LOwn.put {w u : World} {g n : Nat} {C : List Bool} (h : LOwn w g n C u) (k : Nat) (x : Bool) : LOwn w g n (C.set k x) (u.setCell ⟨g, k, none⟩ (.bool x)) := by
  refine ⟨?_, by rw [List.length_set]; exact h.len, h.bel.setCell (Nat.le_refl g) _⟩
  rw [List.map_set]
  exact (h.own.stored k (.bool x)).1
theorem LOwn.low {w u : World} {g n : Nat} {C : List Bool} (h : LOwn w g n C u) (_ : 0 < n) : g < u.heap.size := by
  rcases h.own.2 with ⟨h1, _⟩ | ⟨g', c, cur, h1, _, hh, _⟩
  · cases h1
  · injection h1 with h1 _ _
    injection h1 with h1
    injection h1 with h1
    subst h1
    exact (Array.getElem?_eq_some_iff.1 hh).1
theorem LOwn.came {w u : World} {g n : Nat} {C : List Bool} (h : LOwn w g n C u) : LCame u (some ⟨g, 0, none⟩) C := ⟨fun k hk => by
  rw [h.len] at hk
  exact ⟨g, 0, rfl, h.low (by omega), by rw [Nat.zero_add]; exact (h.has hk).1⟩⟩
/-- told up to a place. -/
def LitTo (L : List Bool) (i : Nat) (C : List Bool) : Prop := C.length = L.length ∧ ∀ j, j < i → C.getD j false = L.getD j false
theorem lit0 (L : List Bool) : LitTo L 0 (List.replicate L.length false) := ⟨by simp, fun j h => absurd h (Nat.not_lt_zero j)⟩
theorem LitTo.put {L C : List Bool} {i : Nat} (h : LitTo L i C) (hi : i < L.length) : LitTo L (i + 1) (C.set i (L.getD i false)) := ⟨by rw [List.length_set]; exact h.1, fun j hj => by
  have hC := h.1
  by_cases e : i = j
  · subst e
    simp [List.getD, show i < C.length by omega]
  · rw [List.getD_eq_getElem?_getD, List.getElem?_set_ne e, ← List.getD_eq_getElem?_getD]
    exact h.2 j (by omega)⟩
theorem LitTo.done {L C : List Bool} (h : LitTo L L.length C) : C = L := by
  refine List.ext_getElem h.1 (fun i h1 h2 => ?_)
  have := h.2 i h2
  simpa [List.getD, List.getElem?_eq_getElem h1, List.getElem?_eq_getElem h2] using this
theorem lit_at {p : Pic} {t i : Nat} {o : Int} (h : i < p.high.toNat * p.wide.toNat) : (litV p t o).getD i false = decide (o < (overV p t).getD i 0) := by
  unfold litV
  have hl : i < (overV p t).length := by rw [over_len]; exact h
  simp [List.getD, List.getElem?_eq_getElem hl]
theorem lit_len (p : Pic) (t : Nat) (o : Int) : (litV p t o).length = p.high.toNat * p.wide.toNat := by unfold litV; rw [List.length_map, over_len]
/-- how large the sums are behind i pixels. -/
structure SpB (s : Sp) (i : Nat) : Prop where
  p0 : 0 ≤ s.px
  p1 : s.px ≤ i
  l0 : s.px ≤ s.li
  l1 : s.li ≤ 65535 * (i : Int)
  x0 : 0 ≤ s.sx
  x1 : s.sx ≤ 17179869184 * (i : Int)
  y0 : 0 ≤ s.sy
  y1 : s.sy ≤ 17179869184 * (i : Int)
theorem prod_in {x v : Int} (h0 : 0 ≤ x) (h1 : x ≤ 255) (v0 : 1 ≤ v) (v1 : v ≤ 65535) : 0 ≤ (1024 * x + 512) * v ∧ (1024 * x + 512) * v ≤ 17179869184 := by
  constructor
  · exact Int.mul_nonneg (by omega) (by omega)
  · have := Int.mul_le_mul (show 1024 * x + 512 ≤ 261632 by omega) v1 (by omega) (by omega)
    omega
theorem SpB.next {s : Sp} {i : Nat} (h : SpB s i) : SpB s (i + 1) := by
  obtain ⟨h1, h2, h3, h4, h5, h6, h7, h8⟩ := h
  exact ⟨h1, by omega, h3, by omega, h5, by omega, h7, by omega⟩
theorem SpB.step {W : Nat} {ov : List Int} {s : Sp} {i : Nat} (h : SpB s i) (hx : i % W ≤ 255) (hy : i / W ≤ 255) (v0 : 1 ≤ ov.getD i 0) (v1 : ov.getD i 0 ≤ 65535) : SpB (spStep W ov s i) (i + 1) := by
  obtain ⟨h1, h2, h3, h4, h5, h6, h7, h8⟩ := h
  have a := prod_in (x := ((i % W : Nat) : Int)) (Int.natCast_nonneg _) (Int.ofNat_le.2 hx) v0 v1
  have b := prod_in (x := ((i / W : Nat) : Int)) (Int.natCast_nonneg _) (Int.ofNat_le.2 hy) v0 v1
  unfold spStep
  exact ⟨by show 0 ≤ s.px + 1; omega, by show s.px + 1 ≤ _; omega, by show s.px + 1 ≤ s.li + ov.getD i 0; omega, by show s.li + ov.getD i 0 ≤ _; omega, by show 0 ≤ s.sx + _; omega, by show s.sx + _ ≤ _; omega, by show 0 ≤ s.sy + _; omega, by show s.sy + _ ≤ _; omega⟩
theorem spN_bound {lab ov : List Int} {W H k n : Nat} (hp : ∀ i, i < n → i % W ≤ 255 ∧ i / W ≤ 255) (hv : ∀ i, i < n → lab.getD i 0 = (k : Int) → 1 ≤ ov.getD i 0 ∧ ov.getD i 0 ≤ 65535) : ∀ i, i ≤ n → SpB (spN lab ov W H k i) i
  | 0, _ => ⟨Int.le_refl _, Int.le_refl _, Int.le_refl _, Int.le_refl _, Int.le_refl _, Int.le_refl _, Int.le_refl _, Int.le_refl _⟩
  | i + 1, hi => by
    have ih := spN_bound (H := H) hp hv i (by omega)
    rw [spN_next]
    by_cases e : lab.getD i 0 = (k : Int)
    · rw [if_pos e]
      exact ih.step (hp i (by omega)).1 (hp i (by omega)).2 (hv i (by omega) e).1 (hv i (by omega) e).2
    · rw [if_neg e]
      exact ih.next
theorem over_hi {p : Pic} (h : PicOk p) {t i : Nat} (ht : 1 ≤ t) (hi : i < p.high.toNat * p.wide.toNat) : (overV p t).getD i 0 ≤ 65535 := by
  rw [over_at hi]
  have w1 := h.w1
  have hW : 0 < p.wide.toNat := by omega
  have hx : i % p.wide.toNat < p.wide.toNat := Nat.mod_lt _ hW
  have hy : i / p.wide.toNat < p.high.toNat := Nat.div_lt_of_lt_mul (by rw [Nat.mul_comm]; exact hi)
  have g := (med_count h (t := t) (cdiv_in ht hy) (cdiv_in ht hx) ht).1
  have hl : i < p.L.length := by
    have := h.len
    have h1 := h.h1
    have e : p.wide * p.high = ((p.high.toNat * p.wide.toNat : Nat) : Int) := by
      rw [Int.natCast_mul, Int.toNat_of_nonneg (by omega), Int.toNat_of_nonneg (by omega), Int.mul_comm]
    omega
  have c := (h.each i hl).2
  unfold gAt
  omega
end Go.Proofs.YtmgnobeaacjdjajGreatDoor
