/-
  The program's spread of a number from a pixel to all of its part, by contract.
-/
import Derived.Test.YtgmaganajfcpbaiDoorSpKb
import Derived.Test.YtgmaganajfcpbaiDoorDQ0
namespace Go.Proofs.YtgmaganajfcpbaiDoor
open Go Go.RowKit

def natI (S : List Nat) : List Int := S.map (fun k : Nat => (k : Int))
theorem natI_len (S : List Nat) : (natI S).length = S.length := by unfold natI; rw [List.length_map]
theorem own_other {w : World} {B g k n s : Nat} {e : TypeId} {v x : Value} {xs : List Value} (h : w.ownsRow B e s v n xs) (hg : g < B) : (w.setCell ⟨g, k, none⟩ x).ownsRow B e s v n xs := by
  obtain ⟨h1, h2⟩ := h
  refine ⟨h1, ?_⟩
  rcases h2 with h2 | ⟨g', cap, cur, hv, hb, hh, r⟩
  · exact Or.inl h2
  · exact Or.inr ⟨g', cap, cur, hv, hb, by rw [heap_setCell_other _ _ _ _ (by show g' ≠ g; omega)]; exact hh, r⟩
theorem own_apart {w w' : World} {B g n s : Nat} {e : TypeId} {c : Nat} {xs : List Value} (h : w.ownsRow B e s (.slice (some ⟨g, 0, none⟩) n c) n xs) (k : w'.heap[g]? = w.heap[g]?) : w'.ownsRow B e s (.slice (some ⟨g, 0, none⟩) n c) n xs := by
  obtain ⟨h1, h2⟩ := h
  refine ⟨h1, ?_⟩
  rcases h2 with ⟨h2, _⟩ | ⟨g', cap, cur, hv, hb, hh, r⟩
  · cases h2
  · injection hv with e1 e2 e3
    injection e1 with e1
    injection e1 with e1
    subst e1
    subst e3
    exact Or.inr ⟨g, c, cur, rfl, hb, by rw [k]; exact hh, r⟩
/-- the last one of a row. -/
theorem IOwn.last {u : World} {B : Nat} {v : Value} {l : List Int} {c : Int} (h : IOwn u B v (l ++ [c])) : ∃ b cap, v = .slice (some ⟨b, 0, none⟩) (l.length + 1) cap ∧ l.length + 1 ≤ cap ∧ u.cell? ⟨b, l.length, none⟩ = some (.int .i64 c) ∧ IOwn u B (.slice (some ⟨b, 0, none⟩) l.length cap) l := by
  have h' := h
  unfold IOwn at h
  rcases h.2 with ⟨_, h2⟩ | ⟨g, cap, cur, hv, hb, hh, hc, hm, hs, ht⟩
  · simp at h2
  · rw [List.length_append, List.length_singleton] at hv hc ht
    refine ⟨g, cap, hv, hc, ?_, ?_⟩
    · subst hv
      have := (IOwn.has (n := l.length + 1) h' (by simp) (k := l.length) (by omega)).1
      rw [this]
      simp [List.getD]
    · unfold IOwn
      refine ⟨by simp, Or.inr ⟨g, cap, cur, rfl, hb, hh, by omega, hm, hs, ?_⟩⟩
      have e : cur.toList.take (l.length * 1) = (cur.toList.take ((l.length + 1) * 1)).take l.length := by
        rw [List.take_take]
        congr 1
        omega
      rw [e, ht, List.map_append, List.take_append_of_le_length (by simp), List.take_of_length_le (by simp)]
def cellsZero : List Value → Nat
  | [] => 0
  | v :: r => (if intOf v = 0 then 1 else 0) + cellsZero r
def rowZeros (w : World) (g : Nat) : Nat := match w.heap[g]? with
  | some (.cells cs _ _) => cellsZero cs.toList
  | _ => 0
theorem cells_zero (C : List Int) : cellsZero (C.map (Value.int .i64)) = zeros C := by
  unfold zeros
  induction C with
  | nil => rfl
  | cons c C ih =>
    rw [List.map_cons, List.countP_cons, ← ih]
    show (if intOf (.int .i64 c) = 0 then 1 else 0) + _ = _
    rw [show intOf (.int .i64 c) = c from rfl, Nat.add_comm]
    by_cases e : c = 0 <;> simp [e]
theorem IOwn.zero {w : World} {B g n : Nat} {C : List Int} (h : IOwn w B (.slice (some ⟨g, 0, none⟩) n n) C) (hn : C.length = n) : rowZeros w g = zeros C := by
  unfold IOwn at h
  rw [hn] at h
  rcases h.2 with ⟨h1, _⟩ | ⟨g', c, cur, h1, _, hh, _, _, hs, ht⟩
  · cases h1
  · injection h1 with h1 h2 h3
    injection h1 with h1
    injection h1 with h1
    subst h1
    subst h3
    unfold rowZeros
    rw [hh]
    show cellsZero cur.toList = _
    rw [List.take_of_length_le (by rw [Array.length_toList, hs]; exact Nat.le_refl _)] at ht
    rw [ht, cells_zero]
/-- the numbers in block g, those that wait from B on. -/
structure WtS (w : World) (g n B : Nat) (D : List Int) (wv : Value) (S : List Nat) (u : World) : Prop where
  own : IOwn u g (.slice (some ⟨g, 0, none⟩) n n) D
  len : D.length = n
  row : IOwn u B wv (natI S)
  bel : Below g w u
  siz : B ≤ u.heap.size
theorem WtS.put {w u : World} {g n B k : Nat} {D : List Int} {wv : Value} {S : List Nat} (h : WtS w g n B D wv S u) (hg : g < B) (x : Int) : WtS w g n B (D.set k x) wv S (u.setCell ⟨g, k, none⟩ (.int .i64 x)) :=
  ⟨h.own.put h.len k x, by rw [List.length_set]; exact h.len, own_other h.row hg, h.bel.setCell (Nat.le_refl g) _, by simpa using h.siz⟩
def lenOf : Value → Nat
  | .slice _ n _ => n
  | _ => 0
def SprPost (L : List Bool) (W i : Nat) (num : Int) (C : List Int) (w : World) (g n : Nat) (e : Ending) (w' : World) : Prop := e = .returned (.tuple #[]) ∧ ∃ D, Spread L W i num C D ∧ IOwn w' g (.slice (some ⟨g, 0, none⟩) n n) D ∧ D.length = n ∧ Below g w w'
end Go.Proofs.YtgmaganajfcpbaiDoor
