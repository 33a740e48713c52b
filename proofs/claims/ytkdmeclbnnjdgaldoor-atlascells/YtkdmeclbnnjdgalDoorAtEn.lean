/-
  Entries of an atlas in memory. Nothing of the program's text.
-/
import Derived.Test.YtkdmeclbnnjdgalDoorAtIn
import Derived.Test.YtkdmeclbnnjdgalDoorAtP
namespace Go.Proofs.YtkdmeclbnnjdgalDoor
open Go Go.RowKit

/-- an entry: a name, a direction, a light. -/
structure En where
  nm : ByteArray
  d : Dr
  li : Int
def en0 : En := ⟨ByteArray.empty, dr0, 0⟩
structure EnAt (w : World) (b o : Nat) (s : En) : Prop where
  c0 : w.cell? ⟨b, o, none⟩ = some (.string s.nm)
  c1 : w.cell? ⟨b, o + 1, none⟩ = some (.int .i64 s.d.x)
  c2 : w.cell? ⟨b, o + 2, none⟩ = some (.int .i64 s.d.y)
  c3 : w.cell? ⟨b, o + 3, none⟩ = some (.int .i64 s.d.z)
  c4 : w.cell? ⟨b, o + 4, none⟩ = some (.int .i64 s.li)
theorem EnAt.below {w v : World} {b o B : Nat} {s : En} (h : EnAt w b o s) (k : Below B w v) (hb : b < B) : EnAt v b o s :=
  ⟨(k.cell hb).trans h.c0, (k.cell hb).trans h.c1, (k.cell hb).trans h.c2, (k.cell hb).trans h.c3, (k.cell hb).trans h.c4⟩
structure EnCame (w : World) (ad : Option Addr) (L : List En) : Prop where
  at_ : ∀ k, k < L.length → ∃ b off, ad = some ⟨b, off, none⟩ ∧ b < w.heap.size ∧ EnAt w b (off + k * 5) (L.getD k en0)
theorem EnCame.below {w v : World} {ad : Option Addr} {L : List En} (h : EnCame w ad L) (k : Below w.heap.size w v) : EnCame v ad L := ⟨fun j hj => by
  obtain ⟨b, off, e, hb, h1⟩ := h.at_ j hj
  exact ⟨b, off, e, Nat.lt_of_lt_of_le hb k.size, h1.below k hb⟩⟩
theorem EnCame.nil (w : World) (ad : Option Addr) : EnCame w ad [] := ⟨fun k hk => absurd hk (Nat.not_lt_zero k)⟩
def valEn (s : En) : List Value := [.string s.nm, .int .i64 s.d.x, .int .i64 s.d.y, .int .i64 s.d.z, .int .i64 s.li]
def flatEn : List En → List Value
  | [] => []
  | s :: L => valEn s ++ flatEn L
theorem flatEn_append : ∀ (L M : List En), flatEn (L ++ M) = flatEn L ++ flatEn M
  | [], _ => rfl
  | q :: L, M => by
    show valEn q ++ flatEn (L ++ M) = (valEn q ++ flatEn L) ++ flatEn M
    rw [flatEn_append L M, List.append_assoc]
theorem flatEn_length : ∀ L : List En, (flatEn L).length = L.length * 5
  | [] => rfl
  | q :: L => by
    show (valEn q ++ flatEn L).length = _
    rw [List.length_append, flatEn_length L, List.length_cons]
    simp [valEn]
    omega
theorem flatEn_at : ∀ (L : List En) (j i : Nat), j < L.length → i < 5 → (flatEn L)[j * 5 + i]? = (valEn (L.getD j en0))[i]?
  | [], j, i, h, _ => absurd h (Nat.not_lt_zero j)
  | q :: L, 0, i, _, hi => by
    show (valEn q ++ flatEn L)[0 * 5 + i]? = _
    rw [Nat.zero_mul, Nat.zero_add, List.getElem?_append_left (by simp [valEn]; omega)]
    rfl
  | q :: L, j + 1, i, h, hi => by
    show (valEn q ++ flatEn L)[(j + 1) * 5 + i]? = _
    rw [List.getElem?_append_right (by simp [valEn]; omega)]
    have e : (j + 1) * 5 + i - (valEn q).length = j * 5 + i := by simp [valEn]; omega
    rw [e, flatEn_at L j i (by simpa using h) hi]
    rfl
theorem Enat_of {w : World} {b o : Nat} {s : En} (h : ∀ i, i < 5 → w.cell? ⟨b, o + i, none⟩ = (valEn s)[i]?) : EnAt w b o s :=
  ⟨h 0 (by decide), h 1 (by decide), h 2 (by decide), h 3 (by decide), h 4 (by decide)⟩
theorem Enown {w : World} {B : Nat} {t : TypeId} {v : Value} {L : List En} (h : w.ownsRow B t 5 v L.length (flatEn L)) : ∃ ad cap, v = .slice ad L.length cap ∧ EnCame w ad L := by
  obtain ⟨_, h⟩ := h
  rcases h with ⟨h1, h2⟩ | ⟨g, cap, cur, rfl, hB, hg, hc, _, hs, ht⟩
  · have e : L = [] := List.length_eq_zero_iff.1 h2
    subst e
    exact ⟨none, 0, h1, EnCame.nil _ _⟩
  · refine ⟨_, cap, rfl, ⟨fun j hj => ⟨g, 0, rfl, (Array.getElem?_eq_some_iff.1 hg).1, ?_⟩⟩⟩
    refine Enat_of (fun i hi => ?_)
    rw [← flatEn_at L j i hj hi, ← ht, List.getElem?_take, if_pos (by omega)]
    simp only [World.cell?, hg]
    simp
/-- a row of names that is owned, as one that came in. -/
theorem own_str {w : World} {B : Nat} {v : Value} {L : List ByteArray} (h : w.ownsRow B 9 1 v L.length (L.map Value.string)) : ∃ ad cap, v = .slice ad L.length cap ∧ SCm w ad L ∧ L.length ≤ cap ∧ ((ad = none ∧ L.length = 0 ∧ cap = 0) ∨ ∃ g, ad = some ⟨g, 0, none⟩) := by
  rcases h.2 with ⟨h1, h2⟩ | ⟨g, cap, cur, e, hB, hg, hc, hcap, hs, ht⟩
  · have e : L = [] := List.length_eq_zero_iff.1 h2
    subst e
    exact ⟨none, 0, h1, ⟨fun k hk => absurd hk (Nat.not_lt_zero k)⟩, by simp, .inl ⟨rfl, rfl, rfl⟩⟩
  · subst e
    refine ⟨_, cap, rfl, ⟨fun k hk => ⟨g, 0, rfl, (Array.getElem?_eq_some_iff.1 hg).1, ?_⟩⟩, by omega, .inr ⟨g, rfl⟩⟩
    have q : (L.map Value.string)[k]? = some (.string (L.getD k ByteArray.empty)) := by
      rw [List.getElem?_map, List.getElem?_eq_getElem hk, List.getD_eq_getElem?_getD, List.getElem?_eq_getElem hk]
      rfl
    rw [← ht, List.getElem?_take, if_pos (by omega)] at q
    rw [Nat.zero_add]
    simp only [World.cell?, hg]
    simpa using q
/-- an atlas of the document's: its level, its row. -/
structure AtB (w : World) (g : Nat) (lv : Int) (ad : Option Addr) (cap : Nat) (L : List En) : Prop where
  b : w.heap[g]? = some (.cells #[.int .i64 lv, .slice ad L.length cap] 101)
  e : EnCame w ad L
theorem AtB.below {w v : World} {g : Nat} {lv : Int} {ad : Option Addr} {cap : Nat} {L : List En} (h : AtB w g lv ad cap L) (k : Below w.heap.size w v) : AtB v g lv ad cap L := ⟨keepB h.b k, h.e.below k⟩
end Go.Proofs.YtkdmeclbnnjdgalDoor
