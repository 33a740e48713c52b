/-
  Numbers with a point where the walk stands before an operation; rows of them that came in.
-/
import Derived.Test.YtngdemhhcablmakDoorFloatEv
import Derived.Test.YtngdemhhcablmakDoorKitA
namespace Go.Proofs.YtngdemhhcablmakDoor
open Go Go.RowKit

/-- an operation on numbers with a point, where the walk stands before it: any answer, any draws. -/
theorem upon_flt {P : Program} {o : Oper} {a : Act} {K : Act → World → Prop} {Q : Exit → Act → World → Prop} {op : BinOp} {t : TypeId} {x y : Nat} {w : World} (h4 : isFour op)
    (H : ∀ r n, FOp op x y r → K (a.put o.dst (.float .f64 r)) (w.drewN n)) :
    Oper.upon P o a K Q ((Sem.run P (binOp op t (.float .f64 x) (.float .f64 y)) w).andThen fun v w' => .ok (.value v) w') := by
  rw [run_float op t x y w h4]
  exact H _ _ (fnum_is op x y w)
theorem fl_add : isFour .add := .inl rfl
theorem fl_sub : isFour .sub := .inr (.inl rfl)
theorem fl_mul : isFour .mul := .inr (.inr (.inl rfl))
theorem fl_quo : isFour .quo := .inr (.inr (.inr rfl))
/-- a row of numbers with a point that came in. -/
structure FCame (w : World) (ad : Option Addr) (L : List Nat) : Prop where
  at_ : ∀ k, k < L.length → ∃ b off, ad = some ⟨b, off, none⟩ ∧ b < w.heap.size ∧ w.cell? ⟨b, off + k, none⟩ = some (.float .f64 (L.getD k 0))
theorem FCame.below {w v : World} {ad : Option Addr} {L : List Nat} (h : FCame w ad L) (k : Below w.heap.size w v) : FCame v ad L := ⟨fun j hj => by
  obtain ⟨b, off, e, hb, h1⟩ := h.at_ j hj
  exact ⟨b, off, e, Nat.lt_of_lt_of_le hb k.size, (k.cell hb).trans h1⟩⟩
theorem FCame.nil (w : World) (ad : Option Addr) : FCame w ad [] := ⟨fun k hk => absurd hk (Nat.not_lt_zero k)⟩
end Go.Proofs.YtngdemhhcablmakDoor
