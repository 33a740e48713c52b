/-
  Slots of a plan in memory, turned round: the program's slices.Reverse, by contract.
-/
import Derived.Test.YtoacdaemhcbbhaaDoorNgG3
import Derived.Test.YtoacdaemhcbbhaaDoorRevL
namespace Go.Proofs.YtoacdaemhcbbhaaDoor
open Go Go.RowKit Go.Sort Go.Shelf

/-- a slot: a name and an instant. -/
structure Slt where
  nm : ByteArray
  fr : Int
  deriving Inhabited
def sl0 : Slt := ⟨ByteArray.empty, 0⟩
def valSl (r : Slt) : List Value := [.string r.nm, .int .i64 r.fr]
def flatSl : List Slt → List Value
  | [] => []
  | s :: L => valSl s ++ flatSl L
theorem flatSl_append : ∀ (L M : List Slt), flatSl (L ++ M) = flatSl L ++ flatSl M
  | [], _ => rfl
  | q :: L, M => by
    show valSl q ++ flatSl (L ++ M) = (valSl q ++ flatSl L) ++ flatSl M
    rw [flatSl_append L M, List.append_assoc]
theorem flatSl_at : ∀ (L : List Slt) (j i : Nat), j < L.length → i < 2 → (flatSl L)[j * 2 + i]? = (valSl (L.getD j sl0))[i]?
  | [], j, _, h, _ => absurd h (Nat.not_lt_zero j)
  | q :: L, 0, i, _, hi => by
    show (valSl q ++ flatSl L)[0 * 2 + i]? = _
    rw [Nat.zero_mul, Nat.zero_add, List.getElem?_append_left (by simp [valSl]; omega)]
    rfl
  | q :: L, j + 1, i, h, hi => by
    have e : (j + 1) * 2 + i = (valSl q).length + (j * 2 + i) := by simp [valSl]; omega
    show (valSl q ++ flatSl L)[(j + 1) * 2 + i]? = _
    rw [e, List.getElem?_append_right (by omega), Nat.add_sub_cancel_left, flatSl_at L j i (by simpa using h) hi]
    rfl
/-- N slots in block g. -/
structure SlR (w : World) (g N : Nat) (f : Nat → Slt) : Prop where
  cell : ∀ i, i < N → ∀ o, o < 2 → w.cell? ⟨g, i * 2 + o, none⟩ = (valSl (f i))[o]?
  fz : ∀ o, w.frozen? ⟨g, o, none⟩ = false
  lt : g < w.heap.size
theorem SlR.below {w v : World} {g N : Nat} {f : Nat → Slt} (h : SlR w g N f) (b : Below w.heap.size w v) : SlR v g N f :=
  ⟨fun i hi o ho => (b.cell (p := ⟨g, i * 2 + o, none⟩) h.lt).trans (h.cell i hi o ho), fun o => (b.frozen (p := ⟨g, o, none⟩) h.lt).trans (h.fz o), Nat.lt_of_lt_of_le h.lt b.size⟩
theorem SlR.congr {w : World} {g N : Nat} {f f' : Nat → Slt} (h : SlR w g N f) (e : ∀ i, i < N → f i = f' i) : SlR w g N f' := ⟨fun i hi o ho => by rw [← e i hi]; exact h.cell i hi o ho, h.fz, h.lt⟩
def updL (f : Nat → Slt) (i : Nat) (r : Slt) : Nat → Slt := fun j => if j = i then r else f j
theorem SlR.put {w : World} {g N : Nat} {f : Nat → Slt} (h : SlR w g N f) {i : Nat} (hi : i < N) (r : Slt) : SlR (w.setCells g (i * 2) (valSl r)) g N (updL f i r) := by
  have hs : ∀ j, j < (valSl r).length → (w.cell? ⟨g, i * 2 + j, none⟩).isSome = true := fun j hj => by
    have hj : j < 2 := hj
    rw [h.cell i hi j hj]
    rcases (show j = 0 ∨ j = 1 by omega) with q | q <;> rw [q] <;> rfl
  refine ⟨fun k hk o ho => ?_, fun o => by rw [World.frozen?_setCells]; exact h.fz o, ?_⟩
  · unfold updL
    by_cases e : k = i
    · subst e
      rw [if_pos rfl]
      have hl : o < (valSl r).length := ho
      rw [World.cell?_setCells_in g (valSl r) (k * 2) w hs o hl, List.getElem?_eq_getElem hl]
    · rw [if_neg e, World.cell?_setCells_out g (valSl r) (i * 2) w ⟨g, k * 2 + o, none⟩ (fun _ _ => ?_)]
      · exact h.cell k hk o ho
      · show k * 2 + o < i * 2 ∨ i * 2 + 2 ≤ k * 2 + o
        omega
  · rw [size_setCellsG]
    exact h.lt
theorem sl_own {w : World} {B : Nat} {t : TypeId} {v : Value} {L : List Slt} (h : w.ownsRow B t 2 v L.length (flatSl L)) : (v = .slice none 0 0 ∧ L = []) ∨ ∃ g cap, v = .slice (some ⟨g, 0, none⟩) L.length cap ∧ B ≤ g ∧ SlR w g L.length (fun i => L.getD i sl0) := by
  rcases h.2 with ⟨h1, h2⟩ | ⟨g, cap, cur, e, hB, hg, hc, _, hs, ht⟩
  · exact .inl ⟨h1, List.length_eq_zero_iff.1 h2⟩
  · refine .inr ⟨g, cap, e, hB, ⟨fun i hi o ho => ?_, fun o => by simp [World.frozen?, hg], ltB hg⟩⟩
    have q := flatSl_at L i o hi ho
    rw [← ht, List.getElem?_take, if_pos (by omega)] at q
    simp only [World.cell?, hg]
    simpa using q
structure SlCame (w : World) (ad : Option Addr) (L : List Slt) : Prop where
  at_ : ∀ k, k < L.length → ∃ b, ad = some ⟨b, 0, none⟩ ∧ b < w.heap.size ∧ w.cell? ⟨b, k * 2, none⟩ = some (.string (L.getD k sl0).nm) ∧ w.cell? ⟨b, k * 2 + 1, none⟩ = some (.int .i64 (L.getD k sl0).fr)
theorem SlCame.below {w v : World} {ad : Option Addr} {L : List Slt} (h : SlCame w ad L) (k : Below w.heap.size w v) : SlCame v ad L := ⟨fun j hj => by
  obtain ⟨b, e, hb, h1, h2⟩ := h.at_ j hj
  exact ⟨b, e, Nat.lt_of_lt_of_le hb k.size, (k.cell (p := ⟨b, j * 2, none⟩) hb).trans h1, (k.cell (p := ⟨b, j * 2 + 1, none⟩) hb).trans h2⟩⟩
theorem gotSl (L : List Slt) {t : Nat} (h : t < L.length) : L.toArray[t]! = L.getD t sl0 := by
  rw [List.getD_eq_getElem?_getD, List.getElem?_eq_getElem h]
  simp [h]
theorem SlR.holds {w : World} {g : Nat} {L : List Slt} (h : SlR w g L.length (fun i => L.getD i sl0)) : HoldsK valSl 2 w g 0 L.toArray := by
  intro j hj
  rw [size_flatK] at hj
  simp only [List.size_toArray] at hj
  have ht : j / 2 < L.length := by omega
  have hi : j % 2 < 2 := Nat.mod_lt _ (by decide)
  refine ⟨?_, h.fz _⟩
  rw [get_flatK _ _ _ _ (by simpa using hj), gotSl L ht]
  have hc := h.cell (j / 2) ht (j % 2) hi
  rw [show j / 2 * 2 + j % 2 = 0 + j by omega] at hc
  rw [hc]
  generalize L.getD (j / 2) sl0 = s
  rcases (show j % 2 = 0 ∨ j % 2 = 1 by omega) with q | q <;> rw [q] <;> rfl
theorem cameSl {w : World} {g : Nat} {L : List Slt} (h : HoldsK valSl 2 w g 0 L.toArray) (hg : g < w.heap.size) : SlCame w (some ⟨g, 0, none⟩) L := by
  have key : ∀ k i, k < L.length → i < 2 → w.cell? ⟨g, 0 + (k * 2 + i), none⟩ = (valSl (L.getD k sl0))[i]? := fun k i hk hi => by
    have hj : k * 2 + i < (flatK valSl 2 L.toArray).size := by
      rw [size_flatK]
      simp only [List.size_toArray]
      omega
    have := (h (k * 2 + i) hj).1
    rw [size_flatK] at hj
    rw [get_flatK _ _ _ _ hj, show (k * 2 + i) / 2 = k by omega, show (k * 2 + i) % 2 = i by omega, gotSl L hk] at this
    rw [this]
    generalize L.getD k sl0 = s
    rcases (show i = 0 ∨ i = 1 by omega) with q | q <;> rw [q] <;> rfl
  refine ⟨fun k hk => ⟨g, rfl, hg, ?_, ?_⟩⟩
  · have := key k 0 hk (by decide)
    rw [Nat.zero_add, Nat.add_zero] at this
    exact this
  · have := key k 1 hk (by decide)
    rw [Nat.zero_add] at this
    exact this
theorem valSl_one (x : Slt) : ∀ v ∈ valSl x, v.oneCell' = true := by
  intro v hv
  simp only [valSl, List.mem_cons, List.not_mem_nil, or_false] at hv
  rcases hv with rfl | rfl <;> rfl
theorem prev_any {w : World} {B : Nat} {v : Value} {L : List Slt} (h : w.ownsRow B 37 2 v L.length (flatSl L)) (hN : L.length ≤ 4000) :
    Calls Tryd.prog 48 #[v] w fun e w' => e = .returned (.tuple #[]) ∧ (∃ ad cap, v = .slice ad L.length cap ∧ SlCame w' ad L.reverse) ∧ Below B w w' := by
  rcases sl_own h with ⟨rfl, rfl⟩ | ⟨g, cap, rfl, hB, hS⟩
  · have hcon := AnyQ.slices_Reverse_empty Tryd.revSl none 0 w
    change Calls Tryd.prog 48 _ _ _ at hcon
    refine hcon.mono ?_
    rintro e w' ⟨rfl, rfl⟩
    exact ⟨rfl, ⟨none, 0, rfl, ⟨fun k hk => absurd hk (Nat.not_lt_zero k)⟩⟩, Below.refl _ _⟩
  · have hH := hS.holds
    have hcon := AnyQ.slices_Reverse Tryd.revSl 2 Tryd.isAgg37 Tryd.sizeOf37 valSl (fun _ => rfl) valSl_one g 0 cap L.toArray w hH (by simp; omega)
    change Calls Tryd.prog 48 _ _ _ at hcon
    simp only [List.size_toArray] at hcon
    refine hcon.mono ?_
    rintro e w' ⟨rfl, n, hw⟩
    have hb : Below B w w' := by
      rw [hw]
      refine ⟨rfl, rfl, rfl, ?_, fun k hk => ?_⟩
      · simp [putRowK]
      · simp only [putRowK, putRow, mapBlock, heap_ahead]
        rw [Array.getElem?_modify, if_neg (by omega)]
    refine ⟨rfl, ⟨_, cap, rfl, ?_⟩, hb⟩
    refine cameSl (L := L.reverse) ?_ (Nat.lt_of_lt_of_le hS.lt hb.size)
    rw [hw, show L.reverse.toArray = L.toArray.reverse by simp]
    exact holdsK_putRowK valSl 2 _ _ _ L.toArray _ (holdsK_ahead valSl 2 _ _ _ _ _ hH) (by simp)
end Go.Proofs.YtoacdaemhcbbhaaDoor
