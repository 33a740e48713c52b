/-
  Rows of whole numbers by their block's type; the law's look whether a picture is small.
-/
import Derived.Test.YtgmaganajfcpbaiDoorFrArg0
import Derived.Test.YtgmaganajfcpbaiDoorFrLwA
namespace Go.Proofs.YtgmaganajfcpbaiDoor
open Go Go.RowKit

/-- whole numbers in a row of whole numbers. -/
structure ITyped (w : World) (ad : Option Addr) (L : List Int) : Prop where
  row : ICame w ad L
  ty : ∀ a0, ad = some a0 → ∃ cs fr, w.heap[a0.block]? = some (.cells cs 3 fr)
theorem ITyped.below {w v : World} {ad : Option Addr} {L : List Int} (h : ITyped w ad L) (k : Below w.heap.size w v) : ITyped v ad L :=
  ⟨h.row.below k, fun a0 e => by
    obtain ⟨cs, fr, h1⟩ := h.ty a0 e
    exact ⟨cs, fr, keepB h1 k⟩⟩
theorem ITyped.ne {w : World} {ad : Option Addr} {L : List Int} (h : ITyped w ad L) {b : Nat} {cs : Array Value} {ty : TypeId} {fr : Nat × Nat} (hb : w.heap[b]? = some (.cells cs ty fr)) (ht : ty ≠ 3) : ∀ a0, ad = some a0 → a0.block ≠ b := by
  intro a0 e e2
  obtain ⟨cs', fr', h1⟩ := h.ty a0 e
  rw [e2, hb] at h1
  injection h1 with h1
  injection h1 with _ h2 _
  exact ht h2
theorem ICame.other {w : World} {ad : Option Addr} {L : List Int} {g : Nat} {i : Nat} {x : Value} (h : ICame w ad L) (hg : ∀ a0, ad = some a0 → a0.block ≠ g) : ICame (w.setCell ⟨g, i, none⟩ x) ad L := ⟨fun k hk => by
  obtain ⟨b, off, e, hb, hc⟩ := h.at_ k hk
  refine ⟨b, off, e, by simpa [World.setCell] using hb, ?_⟩
  have hn := hg _ e
  rw [World.cell?_setCell_other]
  · exact hc
  · intro q
    injection q with q1
    exact hn q1.symm⟩
theorem pic_open {w : World} {g : Nat} {x0 x1 x2 : Value} {ty : TypeId} (h : w.heap[g]? = some (.cells #[x0, x1, x2] ty)) : w.frozen? ⟨g, 0, none⟩ = false ∧ w.frozen? ⟨g, 1, none⟩ = false ∧ w.frozen? ⟨g, 2, none⟩ = false :=
  ⟨(cells_at h 0 (by simp)).2, (cells_at h 1 (by simp)).2, (cells_at h 2 (by simp)).2⟩
theorem err_cell {a : Nat → Addr} {E : Int} {x : Value} (h : ErrIs a E x) : x.oneCell' = true := by
  rcases h with ⟨_, rfl⟩ | ⟨_, _, _, rfl⟩ <;> rfl
end Go.Proofs.YtgmaganajfcpbaiDoor
