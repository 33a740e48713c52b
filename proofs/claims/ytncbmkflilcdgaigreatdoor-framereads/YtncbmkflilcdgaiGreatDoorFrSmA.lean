/-
  Rows of whole numbers by their block's type; the law's look whether a picture is small. Rows of whole numbers by their block's type; the law's look whether a picture is small.
-/
import Derived.Test.YtncbmkflilcdgaiGreatDoorFrArg0
import Derived.Test.YtncbmkflilcdgaiGreatDoorFrLw0
namespace Go.Proofs.YtncbmkflilcdgaiGreatDoor
open Go Go.RowKit

/-- whole numbers in a row of whole numbers. -/
structure ITyped (w : World) (ad : Option Addr) (L : List Int) : Prop where
  row : ICame w ad L
  ty : ∀ a0, ad = some a0 → ∃ cs fr, w.heap[a0.block]? = some (.cells cs 3 fr)
theorem ITyped.below {w v : World} {ad : Option Addr} {L : List Int} (h : ITyped w ad L) (k : Below w.heap.size w v) : ITyped v ad L :=
  ⟨h.row.below k, fun a0 e => by
    obtain ⟨cs, fr, h1⟩ := h.ty a0 e
    exact ⟨cs, fr, keepB h1 k⟩⟩
theorem ITyped.ne {w : World} {ad : Option Addr} {L : List Int} (h : ITyped w ad L) {b : Nat} {cs : Array Value} {ty : TypeId} {fr : Nat × Nat} (hb : w.heap[b]? = some (.cells cs ty fr)) (ht : ty ≠ 3) : ∀ a0, ad = some a0 → a0.block ≠ b := by
  intro a0 e e2
  obtain ⟨cs', fr', h1⟩ := h.ty a0 e
  rw [e2, hb] at h1
  injection h1 with h1
  injection h1 with _ h2 _
  exact ht h2
theorem ICame.other {w : World} {ad : Option Addr} {L : List Int} {g : Nat} {i : Nat} {x : Value} (h : ICame w ad L) (hg : ∀ a0, ad = some a0 → a0.block ≠ g) : ICame (w.setCell ⟨g, i, none⟩ x) ad L := ⟨fun k hk => by
  obtain ⟨b, off, e, hb, hc⟩ := h.at_ k hk
  refine ⟨b, off, e, by simpa [World.setCell] using hb, ?_⟩
  have hn := hg _ e
  rw [World.cell?_setCell_other]
  · exact hc
  · intro q
    injection q with q1
    exact hn q1.symm⟩
theorem pic_open {w : World} {g : Nat} {x0 x1 x2 : Value} {ty : TypeId} (h : w.heap[g]? = some (.cells #[x0, x1, x2] ty)) : w.frozen? ⟨g, 0, none⟩ = false ∧ w.frozen? ⟨g, 1, none⟩ = false ∧ w.frozen? ⟨g, 2, none⟩ = false :=
  ⟨(cells_at h 0 (by simp)).2, (cells_at h 1 (by simp)).2, (cells_at h 2 (by simp)).2⟩
theorem err_cell {a : Nat → Addr} {E : Int} {x : Value} (h : ErrIs a E x) : x.oneCell' = true := by
  rcases h with ⟨_, rfl⟩ | ⟨_, _, _, rfl⟩ <;> rfl
end Go.Proofs.YtncbmkflilcdgaiGreatDoor
namespace Go.Proofs.YtncbmkflilcdgaiGreatDoor
open Go Go.RowKit

/-- whole numbers in a row of whole numbers. -/
def SmP (w : World) (o : Option Pic) (e : Ending) (w' : World) : Prop := ∃ q : Bool, e = .returned (.bool q) ∧ (q = true → ∃ p, o = some p ∧ p.L.length ≤ 700) ∧ w = w'
theorem small_any {w : World} {v : Value} {o : Option Pic} (h : PicArg w v o) : Calls Tryz.prog 6 #[v] w (SmP w o) := by
  cases h with
  | none =>
    have HF : HeldR (SmP w none (.returned (.bool false)) w) := ⟨false, rfl, (fun e => Bool.noConfusion e), rfl⟩
    go_enter Tryz.func6, Tryz.ntmps6
    go_wp2
    go_ret
    exact unhideR HF
  | @some b o cap ad p h hl =>
    have c2 := h.c2
    have HF : HeldR (SmP w (Option.some p) (.returned (.bool (decide ((p.L.length : Int) ≤ 700)))) w) := ⟨_, rfl, fun e => ⟨p, rfl, by have := of_decide_eq_true e; omega⟩, rfl⟩
    clear h
    go_enter Tryz.func6, Tryz.ntmps6
    go_wp2
    go_ret
    exact unhideR HF
theorem picArg_is {w : World} {v : Value} {p : Pic} (h : PicArg w v (some p)) : ∃ (b o cap : Nat) (ad : Option Addr), v = .pointer (some ⟨b, o, none⟩) ∧ PicAt w b o ad cap p ∧ p.L.length * 8 ≤ 140737488355328 := by
  cases h with
  | some h hl => exact ⟨_, _, _, _, rfl, h, hl⟩
theorem PicArg.below {w u : World} {v : Value} {o : Option Pic} (h : PicArg w v o) (k : Below w.heap.size w u) : PicArg u v o := by
  cases h with
  | none => exact .none
  | some h hl => exact .some (h.below k) hl
end Go.Proofs.YtncbmkflilcdgaiGreatDoor
