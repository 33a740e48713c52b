/-
  Rows of whole numbers that grow, for the laws of stars.
-/
import Derived.Test.YtgmaganajfcpbaiDoorFrSm0
import Derived.Test.YtgmaganajfcpbaiDoorFrMed
import Derived.Test.YtgmaganajfcpbaiDoorSpS
import Derived.Test.YtgmaganajfcpbaiDoorLoose9
import Derived.Laws.OwnMore
namespace Go.Proofs.YtgmaganajfcpbaiDoor
open Go Go.RowKit

def IOwn (w : World) (B : Nat) (v : Value) (C : List Int) : Prop := w.ownsRow B 3 1 v C.length (C.map (Value.int .i64))
theorem IOwn.below {w w' : World} {B : Nat} {v : Value} {C : List Int} (h : IOwn w B v C) (k : Below w.heap.size w w') : IOwn w' B v C := own_below2 h k
theorem IOwn.slice {w : World} {B : Nat} {v : Value} {C : List Int} (h : IOwn w B v C) : ∃ ad cap, v = .slice ad C.length cap := by
  rcases h.2 with ⟨h1, h2⟩ | ⟨g, cap, cur, e, _⟩
  · exact ⟨none, 0, by rw [h1, h2]⟩
  · exact ⟨_, cap, e⟩
theorem inil (w : World) (B : Nat) : IOwn w B (.slice none 0 0) [] := World.ownsRow_nil _ _ _ _
theorem IOwn.came {w : World} {B : Nat} {v : Value} {C : List Int} (h : IOwn w B v C) : ∃ ad cap, v = .slice ad C.length cap ∧ ICame w ad C := by
  obtain ⟨ad, cap, e, hc, _⟩ := own_ints h
  exact ⟨ad, cap, e, hc⟩
def SlOne (v : Value) : Prop := ∃ g : Nat, v = .slice (some ⟨g, 0, none⟩) 1 1
def OneI (c : Int) (v : Value) (w : World) : Prop := ∀ g : Nat, v = .slice (some ⟨g, 0, none⟩) 1 1 → w.heap[g]? = some (.cells #[.int .i64 c] 3)
theorem oneI_stb (c : Int) (v : Value) : Stb (OneI c v) := fun _ _ h k g e => keepB (h g e) k
theorem one_cell {w : World} {g : Nat} {c : Int} (h : w.heap[g]? = some (.cells #[.int .i64 c] 3)) : ∀ k u, ([.int .i64 c] : List Value)[k]? = some u → w.cell? ((⟨g, 0, none⟩ : Addr).add k) = some u := by
  intro k u hu
  rw [add_pl2, Nat.zero_add]
  rcases k with _ | k
  · rw [← hu]; exact one_at h
  · simp at hu
theorem int_one {c : Int} : ∀ u ∈ ([.int .i64 c] : List Value), u.oneCell' = true := by
  intro u hu
  rw [List.mem_singleton.1 hu]
  rfl
theorem own_plus {w : World} {B n : Nat} {v : Value} {C : List Int} {c : Int} (hn : C.length = n) (h : w.ownsRow B 3 1 v (n + 1) (C.map (Value.int .i64) ++ [.int .i64 c])) : IOwn w B v (C ++ [c]) := by
  unfold IOwn
  rw [List.length_append, List.map_append, hn]
  exact h
theorem below_goB2 {w v u : World} {B : Nat} (h : Below B w v) (hB : B ≤ v.heap.size) (k : Below v.heap.size v u) : Below B w u := h.trans (k.mono hB)
end Go.Proofs.YtgmaganajfcpbaiDoor
