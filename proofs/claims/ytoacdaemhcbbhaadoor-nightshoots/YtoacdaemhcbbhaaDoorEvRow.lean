/-
  Rows of spans, and of events, in memory.
-/
import Derived.Test.YtoacdaemhcbbhaaDoorKitA
import Derived.Test.YtoacdaemhcbbhaaDoorEvEv
import Derived.OwnWalk
import Derived.Laws.Entries
import Derived.Laws.NewBlocks
namespace Go.Proofs.YtoacdaemhcbbhaaDoor
open Go Go.RowKit

theorem add_pl2 (b off j : Nat) : (⟨b, off, none⟩ : Addr).add j = ⟨b, off + j, none⟩ := by simp [Addr.add]
theorem own_below2 {w w' : World} {B n s : Nat} {e : TypeId} {v : Value} {xs : List Value} (h : w.ownsRow B e s v n xs) (hb : Below w.heap.size w w') : w'.ownsRow B e s v n xs := by
  obtain ⟨h1, h2⟩ := h
  refine ⟨h1, ?_⟩
  rcases h2 with h2 | ⟨g, cap, cur, hv, hg, hh, r⟩
  · exact Or.inl h2
  · exact Or.inr ⟨g, cap, cur, hv, hg, by rw [hb.block g (Array.getElem?_eq_some_iff.1 hh).1]; exact hh, r⟩
theorem own_at2 {w : World} {B n s : Nat} {e : TypeId} {v : Value} {xs : List Value} (h : w.ownsRow B e s v n xs) : ∀ g, v.ownBlock = some g → B ≤ g := by
  intro g hg
  rcases h.2 with ⟨h2, _⟩ | ⟨g', cap, cur, hv, hB, hh, _⟩
  · subst h2; cases hg
  · subst hv
    have e : g' = g := by simpa [Value.ownBlock] using hg
    subst e
    exact hB
/-- a span. -/
structure Spn where
  f : Int
  t : Int
deriving DecidableEq, Inhabited
def sp0 : Spn := ⟨0, 0⟩
structure SpAt (w : World) (b o : Nat) (s : Spn) : Prop where
  c0 : w.cell? ⟨b, o, none⟩ = some (.int .i64 s.f)
  c1 : w.cell? ⟨b, o + 1, none⟩ = some (.int .i64 s.t)
theorem SpAt.below {w v : World} {b o B : Nat} {s : Spn} (h : SpAt w b o s) (k : Below B w v) (hb : b < B) : SpAt v b o s :=
  ⟨(k.cell hb).trans h.c0, (k.cell hb).trans h.c1⟩
structure SpCame (w : World) (ad : Option Addr) (L : List Spn) : Prop where
  at_ : ∀ k, k < L.length → ∃ b off, ad = some ⟨b, off, none⟩ ∧ b < w.heap.size ∧ SpAt w b (off + k * 2) (L.getD k sp0)
theorem SpCame.below {w v : World} {ad : Option Addr} {L : List Spn} (h : SpCame w ad L) (k : Below w.heap.size w v) : SpCame v ad L := ⟨fun j hj => by
  obtain ⟨b, off, e, hb, h1⟩ := h.at_ j hj
  exact ⟨b, off, e, Nat.lt_of_lt_of_le hb k.size, h1.below k hb⟩⟩
theorem SpCame.nil (w : World) (ad : Option Addr) : SpCame w ad [] := ⟨fun k hk => absurd hk (Nat.not_lt_zero k)⟩
def valSp (s : Spn) : List Value := [.int .i64 s.f, .int .i64 s.t]
def flatSp : List Spn → List Value
  | [] => []
  | s :: L => valSp s ++ flatSp L
theorem flatSp_append : ∀ (L M : List Spn), flatSp (L ++ M) = flatSp L ++ flatSp M
  | [], _ => rfl
  | q :: L, M => by
    show valSp q ++ flatSp (L ++ M) = (valSp q ++ flatSp L) ++ flatSp M
    rw [flatSp_append L M, List.append_assoc]
theorem flatSp_length : ∀ L : List Spn, (flatSp L).length = L.length * 2
  | [] => rfl
  | q :: L => by
    show (valSp q ++ flatSp L).length = _
    rw [List.length_append, flatSp_length L, List.length_cons]
    simp [valSp]
    omega
theorem flatSp_at : ∀ (L : List Spn) (j i : Nat), j < L.length → i < 2 → (flatSp L)[j * 2 + i]? = (valSp (L.getD j sp0))[i]?
  | [], j, i, h, _ => absurd h (Nat.not_lt_zero j)
  | q :: L, 0, i, _, hi => by
    show (valSp q ++ flatSp L)[0 * 2 + i]? = _
    rw [Nat.zero_mul, Nat.zero_add, List.getElem?_append_left (by simp [valSp]; omega)]
    rfl
  | q :: L, j + 1, i, h, hi => by
    show (valSp q ++ flatSp L)[(j + 1) * 2 + i]? = _
    rw [List.getElem?_append_right (by simp [valSp]; omega)]
    have e : (j + 1) * 2 + i - (valSp q).length = j * 2 + i := by simp [valSp]; omega
    rw [e, flatSp_at L j i (by simpa using h) hi]
    rfl
theorem flatSp_one (L : List Spn) : ∀ u ∈ flatSp L, u.oneCell' = true := by
  induction L with
  | nil => intro u hu; cases hu
  | cons q L ih =>
    intro u hu
    rcases List.mem_append.1 (show u ∈ valSp q ++ flatSp L from hu) with h | h
    · simp only [valSp, List.mem_cons, List.not_mem_nil, or_false] at h
      rcases h with rfl | rfl <;> rfl
    · exact ih u h
theorem Spat_of {w : World} {b o : Nat} {s : Spn} (h : ∀ i, i < 2 → w.cell? ⟨b, o + i, none⟩ = (valSp s)[i]?) : SpAt w b o s :=
  ⟨h 0 (by decide), h 1 (by decide)⟩
theorem SpAt.all {w : World} {b o : Nat} {s : Spn} (h : SpAt w b o s) : ∀ i, i < 2 → w.cell? ⟨b, o + i, none⟩ = (valSp s)[i]? := by
  intro i hi
  rcases (show i = 0 ∨ i = 1 by omega) with rfl | rfl
  · exact h.c0
  · exact h.c1
theorem Spcame_cells {w : World} {a0 : Addr} {L : List Spn} (h : SpCame w (some a0) L) : ∀ j u, (flatSp L)[j]? = some u → w.cell? (a0.add j) = some u := by
  intro j u hu
  have hj : j < L.length * 2 := by
    have := (List.getElem?_eq_some_iff.1 hu).1
    rwa [flatSp_length] at this
  obtain ⟨b, off, e, _, hat⟩ := h.at_ (j / 2) (by omega)
  cases e
  have e1 : j = j / 2 * 2 + j % 2 := by omega
  have h2 := hat.all (j % 2) (by omega)
  rw [← flatSp_at L (j / 2) (j % 2) (by omega) (by omega), ← e1, hu] at h2
  have e2 : off + j / 2 * 2 + j % 2 = off + j := by omega
  rw [add_pl2, ← e2]
  exact h2
theorem Spown {w : World} {B : Nat} {t : TypeId} {v : Value} {L : List Spn} (h : w.ownsRow B t 2 v L.length (flatSp L)) : ∃ ad cap, v = .slice ad L.length cap ∧ SpCame w ad L := by
  obtain ⟨_, h⟩ := h
  rcases h with ⟨h1, h2⟩ | ⟨g, cap, cur, rfl, hB, hg, hc, _, hs, ht⟩
  · have e : L = [] := List.length_eq_zero_iff.1 h2
    subst e
    exact ⟨none, 0, h1, SpCame.nil _ _⟩
  · refine ⟨_, cap, rfl, ⟨fun j hj => ⟨g, 0, rfl, (Array.getElem?_eq_some_iff.1 hg).1, ?_⟩⟩⟩
    refine Spat_of (fun i hi => ?_)
    rw [← flatSp_at L j i hj hi, ← ht, List.getElem?_take, if_pos (by omega)]
    simp only [World.cell?, hg]
    simp
def Spzv : Value := .agg #[.int .i64 0, .int .i64 0]
theorem Sptake {L : List Spn} {k : Nat} (h : k < L.length) : L.take (k + 1) = L.take k ++ [L.getD k sp0] := by
  rw [List.take_add_one, List.getElem?_eq_getElem h, List.getD_eq_getElem?_getD, List.getElem?_eq_getElem h]
  rfl
structure EvAt (w : World) (b o : Nat) (s : Evt) : Prop where
  c0 : w.cell? ⟨b, o, none⟩ = some (.int .i64 s.k)
  c1 : w.cell? ⟨b, o + 1, none⟩ = some (.int .i64 s.at_)
  c2 : w.cell? ⟨b, o + 2, none⟩ = some (.int .i64 s.ix)
theorem EvAt.below {w v : World} {b o B : Nat} {s : Evt} (h : EvAt w b o s) (k : Below B w v) (hb : b < B) : EvAt v b o s :=
  ⟨(k.cell hb).trans h.c0, (k.cell hb).trans h.c1, (k.cell hb).trans h.c2⟩
structure EvCame (w : World) (ad : Option Addr) (L : List Evt) : Prop where
  at_ : ∀ k, k < L.length → ∃ b off, ad = some ⟨b, off, none⟩ ∧ b < w.heap.size ∧ EvAt w b (off + k * 3) (L.getD k ev0)
theorem EvCame.below {w v : World} {ad : Option Addr} {L : List Evt} (h : EvCame w ad L) (k : Below w.heap.size w v) : EvCame v ad L := ⟨fun j hj => by
  obtain ⟨b, off, e, hb, h1⟩ := h.at_ j hj
  exact ⟨b, off, e, Nat.lt_of_lt_of_le hb k.size, h1.below k hb⟩⟩
theorem EvCame.nil (w : World) (ad : Option Addr) : EvCame w ad [] := ⟨fun k hk => absurd hk (Nat.not_lt_zero k)⟩
def valEv (s : Evt) : List Value := [.int .i64 s.k, .int .i64 s.at_, .int .i64 s.ix]
def flatEv : List Evt → List Value
  | [] => []
  | s :: L => valEv s ++ flatEv L
theorem flatEv_append : ∀ (L M : List Evt), flatEv (L ++ M) = flatEv L ++ flatEv M
  | [], _ => rfl
  | q :: L, M => by
    show valEv q ++ flatEv (L ++ M) = (valEv q ++ flatEv L) ++ flatEv M
    rw [flatEv_append L M, List.append_assoc]
theorem flatEv_length : ∀ L : List Evt, (flatEv L).length = L.length * 3
  | [] => rfl
  | q :: L => by
    show (valEv q ++ flatEv L).length = _
    rw [List.length_append, flatEv_length L, List.length_cons]
    simp [valEv]
    omega
theorem flatEv_at : ∀ (L : List Evt) (j i : Nat), j < L.length → i < 3 → (flatEv L)[j * 3 + i]? = (valEv (L.getD j ev0))[i]?
  | [], j, i, h, _ => absurd h (Nat.not_lt_zero j)
  | q :: L, 0, i, _, hi => by
    show (valEv q ++ flatEv L)[0 * 3 + i]? = _
    rw [Nat.zero_mul, Nat.zero_add, List.getElem?_append_left (by simp [valEv]; omega)]
    rfl
  | q :: L, j + 1, i, h, hi => by
    show (valEv q ++ flatEv L)[(j + 1) * 3 + i]? = _
    rw [List.getElem?_append_right (by simp [valEv]; omega)]
    have e : (j + 1) * 3 + i - (valEv q).length = j * 3 + i := by simp [valEv]; omega
    rw [e, flatEv_at L j i (by simpa using h) hi]
    rfl
theorem flatEv_one (L : List Evt) : ∀ u ∈ flatEv L, u.oneCell' = true := by
  induction L with
  | nil => intro u hu; cases hu
  | cons q L ih =>
    intro u hu
    rcases List.mem_append.1 (show u ∈ valEv q ++ flatEv L from hu) with h | h
    · simp only [valEv, List.mem_cons, List.not_mem_nil, or_false] at h
      rcases h with rfl | rfl | rfl <;> rfl
    · exact ih u h
theorem Evat_of {w : World} {b o : Nat} {s : Evt} (h : ∀ i, i < 3 → w.cell? ⟨b, o + i, none⟩ = (valEv s)[i]?) : EvAt w b o s :=
  ⟨h 0 (by decide), h 1 (by decide), h 2 (by decide)⟩
theorem EvAt.all {w : World} {b o : Nat} {s : Evt} (h : EvAt w b o s) : ∀ i, i < 3 → w.cell? ⟨b, o + i, none⟩ = (valEv s)[i]? := by
  intro i hi
  rcases (show i = 0 ∨ i = 1 ∨ i = 2 by omega) with rfl | rfl | rfl
  · exact h.c0
  · exact h.c1
  · exact h.c2
theorem Evcame_cells {w : World} {a0 : Addr} {L : List Evt} (h : EvCame w (some a0) L) : ∀ j u, (flatEv L)[j]? = some u → w.cell? (a0.add j) = some u := by
  intro j u hu
  have hj : j < L.length * 3 := by
    have := (List.getElem?_eq_some_iff.1 hu).1
    rwa [flatEv_length] at this
  obtain ⟨b, off, e, _, hat⟩ := h.at_ (j / 3) (by omega)
  cases e
  have e1 : j = j / 3 * 3 + j % 3 := by omega
  have h2 := hat.all (j % 3) (by omega)
  rw [← flatEv_at L (j / 3) (j % 3) (by omega) (by omega), ← e1, hu] at h2
  have e2 : off + j / 3 * 3 + j % 3 = off + j := by omega
  rw [add_pl2, ← e2]
  exact h2
theorem Evown {w : World} {B : Nat} {t : TypeId} {v : Value} {L : List Evt} (h : w.ownsRow B t 3 v L.length (flatEv L)) : ∃ ad cap, v = .slice ad L.length cap ∧ EvCame w ad L := by
  obtain ⟨_, h⟩ := h
  rcases h with ⟨h1, h2⟩ | ⟨g, cap, cur, rfl, hB, hg, hc, _, hs, ht⟩
  · have e : L = [] := List.length_eq_zero_iff.1 h2
    subst e
    exact ⟨none, 0, h1, EvCame.nil _ _⟩
  · refine ⟨_, cap, rfl, ⟨fun j hj => ⟨g, 0, rfl, (Array.getElem?_eq_some_iff.1 hg).1, ?_⟩⟩⟩
    refine Evat_of (fun i hi => ?_)
    rw [← flatEv_at L j i hj hi, ← ht, List.getElem?_take, if_pos (by omega)]
    simp only [World.cell?, hg]
    simp
def Evzv : Value := .agg #[.int .i64 0, .int .i64 0, .int .i64 0]
theorem Evtake {L : List Evt} {k : Nat} (h : k < L.length) : L.take (k + 1) = L.take k ++ [L.getD k ev0] := by
  rw [List.take_add_one, List.getElem?_eq_getElem h, List.getD_eq_getElem?_getD, List.getElem?_eq_getElem h]
  rfl
end Go.Proofs.YtoacdaemhcbbhaaDoor
