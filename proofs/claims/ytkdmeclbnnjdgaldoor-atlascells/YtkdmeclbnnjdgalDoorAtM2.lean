/-
  The program's atlas in memory.
-/
import Derived.Test.YtkdmeclbnnjdgalDoorAtM1
namespace Go.Proofs.YtkdmeclbnnjdgalDoor
open Go Go.RowKit
open Go.Maps (Keyed)
open Go.MapKept (Stamped)
open Go.ChangeMaps (setBlock heap_setBlock_same heap_setBlock_other)

/-- the numbers of those, of the first i, of which p is so. -/
def ixL (L : List En) (p : En → Bool) : Nat → List Int
  | 0 => []
  | i + 1 => if p (L.getD i en0) then ixL L p i ++ [(i : Int)] else ixL L p i
theorem ixL_len (L : List En) (p : En → Bool) : ∀ i, (ixL L p i).length ≤ i
  | 0 => Nat.le_refl _
  | i + 1 => by
    have := ixL_len L p i
    show (if p (L.getD i en0) then ixL L p i ++ [(i : Int)] else ixL L p i).length ≤ i + 1
    split
    · rw [List.length_append]; simp; omega
    · omega
theorem ixL_mem {L : List En} {p : En → Bool} : ∀ {i : Nat} {z : Int}, z ∈ ixL L p i ↔ ∃ k : Nat, z = k ∧ k < i ∧ p (L.getD k en0) = true
  | 0, z => by
    refine ⟨(fun h => by cases h), ?_⟩
    rintro ⟨k, _, h, _⟩
    exact absurd h (Nat.not_lt_zero k)
  | i + 1, z => by
    have ih := @ixL_mem L p i z
    show z ∈ (if p (L.getD i en0) then ixL L p i ++ [(i : Int)] else ixL L p i) ↔ _
    split
    · rename_i hp
      rw [List.mem_append, ih, List.mem_singleton]
      constructor
      · rintro (⟨k, h1, h2, h3⟩ | h)
        · exact ⟨k, h1, by omega, h3⟩
        · exact ⟨i, h, by omega, hp⟩
      · rintro ⟨k, h1, h2, h3⟩
        by_cases e : k = i
        · subst e
          exact .inr h1
        · exact .inl ⟨k, h1, by omega, h3⟩
    · rename_i hp
      rw [ih]
      constructor
      · rintro ⟨k, h1, h2, h3⟩
        exact ⟨k, h1, by omega, h3⟩
      · rintro ⟨k, h1, h2, h3⟩
        by_cases e : k = i
        · subst e
          exact absurd h3 hp
        · exact ⟨k, h1, by omega, h3⟩
theorem ixL_app {L : List En} {e : En} {p : En → Bool} : ∀ {i : Nat}, i ≤ L.length → ixL (L ++ [e]) p i = ixL L p i
  | 0, _ => rfl
  | i + 1, h => by
    have ih := @ixL_app L e p i (by omega)
    have hg : (L ++ [e]).getD i en0 = L.getD i en0 := by
      rw [List.getD_eq_getElem?_getD, List.getD_eq_getElem?_getD, List.getElem?_append_left (by omega)]
    show (if p ((L ++ [e]).getD i en0) then ixL (L ++ [e]) p i ++ [(i : Int)] else ixL (L ++ [e]) p i) = (if p (L.getD i en0) then ixL L p i ++ [(i : Int)] else ixL L p i)
    rw [ih, hg]
def cellB (lv : Int) (s : Sq) (e : En) : Bool := decide (0 ≤ s.l ∧ s.l ≤ lv) && sqEq (sqV e.d s.l.toNat) s
/-- by each cell of a level up to the atlas' one, whose they are. -/
def GOf (lv : Int) (L : List En) (s : Sq) : List Int := ixL L (cellB lv s) L.length
theorem GOf_app (lv : Int) (L : List En) (e : En) (s : Sq) : GOf lv (L ++ [e]) s = if cellB lv s e then GOf lv L s ++ [(L.length : Int)] else GOf lv L s := by
  unfold GOf
  rw [List.length_append, List.length_singleton]
  show (if cellB lv s ((L ++ [e]).getD L.length en0) then ixL (L ++ [e]) (cellB lv s) L.length ++ [(L.length : Int)] else ixL (L ++ [e]) (cellB lv s) L.length) = _
  have hg : (L ++ [e]).getD L.length en0 = e := by
    rw [List.getD_eq_getElem?_getD, List.getElem?_append_right (Nat.le_refl _)]
    simp
  rw [hg, ixL_app (Nat.le_refl _)]
/-- a star: what is kept of an entry. -/
def valSt (s : En) : List Value := [.string s.nm, .int .i64 s.d.x, .int .i64 s.d.y, .int .i64 s.d.z]
def flatSt : List En → List Value
  | [] => []
  | s :: l => valSt s ++ flatSt l
theorem flatSt_append : ∀ (L M : List En), flatSt (L ++ M) = flatSt L ++ flatSt M
  | [], M => rfl
  | s :: l, M => by
    show valSt s ++ flatSt (l ++ M) = (valSt s ++ flatSt l) ++ flatSt M
    rw [flatSt_append l M, List.append_assoc]
theorem flatSt_length : ∀ L : List En, (flatSt L).length = L.length * 4
  | [] => rfl
  | s :: l => by
    show (valSt s ++ flatSt l).length = (l.length + 1) * 4
    rw [List.length_append, flatSt_length l]
    show 4 + l.length * 4 = _
    omega
theorem flatSt_at : ∀ (L : List En) (j i : Nat), j < L.length → i < 4 → (flatSt L)[j * 4 + i]? = (valSt (L.getD j en0))[i]?
  | [], j, _, h, _ => absurd h (Nat.not_lt_zero j)
  | s :: l, 0, i, _, hi => by
    show (valSt s ++ flatSt l)[0 * 4 + i]? = (valSt s)[i]?
    rw [Nat.zero_mul, Nat.zero_add, List.getElem?_append_left (by show i < 4; exact hi)]
  | s :: l, j + 1, i, h, hi => by
    have ih := flatSt_at l j i (by simpa using h) hi
    show (valSt s ++ flatSt l)[(j + 1) * 4 + i]? = _
    rw [List.getElem?_append_right (by show 4 ≤ _; omega)]
    have e : (j + 1) * 4 + i - (valSt s).length = j * 4 + i := by show (j + 1) * 4 + i - 4 = _; omega
    rw [e, ih]
    rfl
/-- a star in memory. -/
structure StAt (w : World) (b o : Nat) (s : En) : Prop where
  c0 : w.cell? ⟨b, o, none⟩ = some (.string s.nm)
  c1 : w.cell? ⟨b, o + 1, none⟩ = some (.int .i64 s.d.x)
  c2 : w.cell? ⟨b, o + 2, none⟩ = some (.int .i64 s.d.y)
  c3 : w.cell? ⟨b, o + 3, none⟩ = some (.int .i64 s.d.z)
/-- the row of stars. -/
structure SRow (w : World) (base : Nat) (v : Value) (L : List En) : Prop where
  own : w.ownsRow base 112 4 v L.length (flatSt L)
theorem SRow.at {w : World} {base : Nat} {v : Value} {L : List En} (h : SRow w base v L) : ∃ ad cap, v = .slice ad L.length cap ∧ L.length ≤ cap ∧ ∀ k, k < L.length → ∃ b, ad = some ⟨b, 0, none⟩ ∧ base ≤ b ∧ b < w.heap.size ∧ StAt w b (k * 4) (L.getD k en0) := by
  rcases h.own.2 with ⟨e, h0⟩ | ⟨g, cap, cur, e, hB, hh, hn, hc, hsz, ht⟩
  · exact ⟨none, 0, by rw [e, h0], by omega, fun k hk => absurd hk (by omega)⟩
  · refine ⟨some ⟨g, 0, none⟩, cap, e, hn, fun k hk => ⟨g, rfl, hB, ltB hh, ?_⟩⟩
    have hc : ∀ i, i < 4 → w.cell? ⟨g, k * 4 + i, none⟩ = (valSt (L.getD k en0))[i]? := by
      intro i hi
      have h1 := flatSt_at L k i hk hi
      have hlt : k * 4 + i < L.length * 4 := by omega
      rw [← ht, List.getElem?_take, if_pos hlt, Array.getElem?_toList] at h1
      rw [← h1]
      have hv : (valSt (L.getD k en0))[i]? ≠ none := by
        have : i = 0 ∨ i = 1 ∨ i = 2 ∨ i = 3 := by omega
        rcases this with rfl | rfl | rfl | rfl <;> simp [valSt]
      simp [World.cell?, hh]
    exact ⟨(hc 0 (by omega)).trans rfl, (hc 1 (by omega)).trans rfl, (hc 2 (by omega)).trans rfl, (hc 3 (by omega)).trans rfl⟩
/-- the names. -/
structure NMap (w : World) (b : Nat) (L : List En) : Prop where
  ex : ∃ D : DataW Unit, w.ownsMap Tryd.prog 9 Go.unitElem b L.length D ∧ ∀ s : ByteArray, s.size ≤ maxLen → Maps.has D (.string s.data.toList) = decide (∃ e ∈ L, e.nm = s)
/-- the atlas behind a pointer. -/
structure ARepX (w : World) (p : Nat) (lv : Int) (L : List En) (sn : Int) (sv : Value) (bn bc : Nat) (es : Array MapEntry) (clock : Nat) : Prop where
  lvl : 0 ≤ lv ∧ lv ≤ 12
  hp : w.heap[p]? = some (.cells #[.int .i64 lv, sv, .map (some bn), .map (some bc), .int .i64 sn] 110)
  st : SRow w (p + 1) sv L
  nm : NMap w bn L
  cl : CMap w bc (p + 1) es clock (GOf lv L)
  bnp : bn < p
  bcp : bc < p
  bnc : bn ≠ bc
  dir : ∀ e ∈ L, dirB e.d = true
  siz : ∀ e ∈ L, e.nm.size ≤ 40
def ownO (p bn bc : Nat) (sv : Value) (es : Array MapEntry) (k : Nat) : Prop := k = p ∨ k = bn ∨ k = bc ∨ sv.ownBlock = some k ∨ ∃ x ∈ es.toList, x.val.ownBlock = some k
def ARep (w : World) (p : Nat) (lv : Int) (L : List En) (O : Nat → Prop) (sn : Int) : Prop := ∃ sv bn bc es clock, ARepX w p lv L sn sv bn bc es clock ∧ ∀ k, O k ↔ ownO p bn bc sv es k
theorem row_block {w : World} {base n s : Nat} {e : TypeId} {v : Value} {xs : List Value} (h : w.ownsRow base e s v n xs) {k : Nat} (hk : v.ownBlock = some k) : base ≤ k ∧ ∃ cur, w.heap[k]? = some (.cells cur e (0, 0)) := by
  rcases h.2 with ⟨e1, _⟩ | ⟨g, cap, cur, e1, hB, hh, _⟩
  · rw [e1] at hk; cases hk
  · rw [e1] at hk
    injection hk with hk
    simp only at hk
    subst hk
    exact ⟨hB, cur, hh⟩
theorem row_keep {w w' : World} {base n s : Nat} {e : TypeId} {v : Value} {xs : List Value} (h : w.ownsRow base e s v n xs) (hk : ∀ k, v.ownBlock = some k → w'.heap[k]? = w.heap[k]?) : w'.ownsRow base e s v n xs := by
  refine ⟨h.1, ?_⟩
  rcases h.2 with q | ⟨g, cap, cur, e1, hB, hh, r⟩
  · exact .inl q
  · exact .inr ⟨g, cap, cur, e1, hB, (hk g (by rw [e1]; rfl)).trans hh, r⟩
theorem ARepX.owned {w : World} {p : Nat} {lv : Int} {L : List En} {sn : Int} {sv : Value} {bn bc : Nat} {es : Array MapEntry} {clock : Nat} (h : ARepX w p lv L sn sv bn bc es clock) {k : Nat} (hk : ownO p bn bc sv es k) : ∃ o, w.heap[k]? = some o ∧ ∀ cs f, o ≠ .cells cs 92 f := by
  rcases hk with rfl | rfl | rfl | hk | ⟨x, hx, hk⟩
  · exact ⟨_, h.hp, fun cs f e => by injection e with _ e; exact absurd e (by decide)⟩
  · obtain ⟨D, ⟨es', c', hb, _⟩, _⟩ := h.nm.ex
    exact ⟨_, hb, fun cs f e => by cases e⟩
  · exact ⟨_, h.cl.hb, fun cs f e => by cases e⟩
  · obtain ⟨_, cur, hh⟩ := row_block h.st.own hk
    exact ⟨_, hh, fun cs f e => by injection e with _ e; exact absurd e (by decide)⟩
  · obtain ⟨s, hs, e, hr⟩ := h.cl.rd x hx
    obtain ⟨_, cur, hh⟩ := row_block hr hk
    exact ⟨_, hh, fun cs f e => by injection e with _ e; exact absurd e (by decide)⟩
theorem ARepX.kept {w w' : World} {p : Nat} {lv : Int} {L : List En} {sn : Int} {sv : Value} {bn bc : Nat} {es : Array MapEntry} {clock : Nat} (h : ARepX w p lv L sn sv bn bc es clock) (hk : ∀ k, ownO p bn bc sv es k → w'.heap[k]? = w.heap[k]?) : ARepX w' p lv L sn sv bn bc es clock := by
  refine ⟨h.lvl, (hk p (.inl rfl)).trans h.hp, ⟨row_keep h.st.own (fun k q => hk k (.inr (.inr (.inr (.inl q)))))⟩, ?_, ?_, h.bnp, h.bcp, h.bnc, h.dir, h.siz⟩
  · obtain ⟨D, ⟨es', c', hb, F, r⟩, hd⟩ := h.nm.ex
    exact ⟨D, ⟨es', c', (hk bn (.inr (.inl rfl))).trans hb, F, r⟩, hd⟩
  · refine ⟨(hk bc (.inr (.inr (.inl rfl)))).trans h.cl.hb, h.cl.st, fun x hx => ?_, h.cl.no, h.cl.ap⟩
    obtain ⟨s, hs, e, hr⟩ := h.cl.rd x hx
    exact ⟨s, hs, e, row_keep hr (fun k q => hk k (.inr (.inr (.inr (.inr ⟨x, hx, q⟩)))))⟩
theorem arep_low {w : World} {p : Nat} {lv : Int} {L : List En} {O : Nat → Prop} {sn : Int} (h : ARep w p lv L O sn) : ∀ k, O k → k < w.heap.size := by
  obtain ⟨sv, bn, bc, es, clock, hx, hO⟩ := h
  intro k hk
  obtain ⟨o, ho, _⟩ := hx.owned ((hO k).1 hk)
  exact ltB ho
theorem arep_keep {w w' : World} {p : Nat} {lv : Int} {L : List En} {O : Nat → Prop} {sn : Int} (h : ARep w p lv L O sn) (hk : ∀ k, O k → w'.heap[k]? = w.heap[k]?) : ARep w' p lv L O sn := by
  obtain ⟨sv, bn, bc, es, clock, hx, hO⟩ := h
  exact ⟨sv, bn, bc, es, clock, hx.kept (fun k q => hk k ((hO k).2 q)), hO⟩
theorem arep_typ {w : World} {p : Nat} {lv : Int} {L : List En} {O : Nat → Prop} {sn : Int} (h : ARep w p lv L O sn) : ∀ k, O k → ∀ cs f, w.heap[k]? ≠ some (.cells cs 92 f) := by
  obtain ⟨sv, bn, bc, es, clock, hx, hO⟩ := h
  intro k hk cs f e
  obtain ⟨o, ho, hn⟩ := hx.owned ((hO k).1 hk)
  rw [ho] at e
  injection e with e
  exact hn cs f e
end Go.Proofs.YtkdmeclbnnjdgalDoor
