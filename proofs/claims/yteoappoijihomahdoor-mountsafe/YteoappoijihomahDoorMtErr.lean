/-
  Where the errors that a mount tells lie.
-/
import Derived.Test.YteoappoijihomahDoorMtC
namespace Go.Proofs.YteoappoijihomahDoor
open Go Go.RowKit

theorem low_of {w : World} {g : Nat} {v : Value} (h : w.cell? ⟨g, 0, none⟩ = some v) : g < w.heap.size := by
  rcases Nat.lt_or_ge g w.heap.size with l | l
  · exact l
  · simp [World.cell?, Array.getElem?_eq_none l] at h
structure Errs5 (w : World) (a : Nat → Addr) : Prop where
  e1 : w.cell? ⟨1, 0, none⟩ = some (.iface 205 (.pointer (some (a 1))))
  e4 : w.cell? ⟨0, 0, none⟩ = some (.iface 205 (.pointer (some (a 4))))
  e5 : w.cell? ⟨6, 0, none⟩ = some (.iface 205 (.pointer (some (a 5))))
  e6 : w.cell? ⟨2, 0, none⟩ = some (.iface 205 (.pointer (some (a 6))))
  e9 : w.cell? ⟨9, 0, none⟩ = some (.iface 205 (.pointer (some (a 9))))
  b1 : 1 < w.heap.size
  b4 : 0 < w.heap.size
  b5 : 6 < w.heap.size
  b6 : 2 < w.heap.size
  b9 : 9 < w.heap.size
theorem Errs5.below {w u : World} {a : Nat → Addr} (h : Errs5 w a) (k : Below w.heap.size w u) : Errs5 u a :=
  ⟨(k.cell (p := ⟨1, 0, none⟩) h.b1).trans h.e1, (k.cell (p := ⟨0, 0, none⟩) h.b4).trans h.e4, (k.cell (p := ⟨6, 0, none⟩) h.b5).trans h.e5, (k.cell (p := ⟨2, 0, none⟩) h.b6).trans h.e6, (k.cell (p := ⟨9, 0, none⟩) h.b9).trans h.e9, Nat.lt_of_lt_of_le h.b1 k.size, Nat.lt_of_lt_of_le h.b4 k.size, Nat.lt_of_lt_of_le h.b5 k.size, Nat.lt_of_lt_of_le h.b6 k.size, Nat.lt_of_lt_of_le h.b9 k.size⟩
theorem Errs5.of {w : World} {a : Nat → Addr} (h : Sents w a) : Errs5 w a :=
  ⟨h.g1, h.g4, h.g5, h.g6, h.g9, low_of h.g1, low_of h.g4, low_of h.g5, low_of h.g6, low_of h.g9⟩
/-- what is kept, and tells more, serves as well. -/
theorem MtProg.of {S S' : World → Prop} {a : Nat → Addr} {Rep : World → Nat → Mt → Prop} (h : MtProg S a Rep) (hs : ∀ w, S' w → S w) (hk : ∀ {w v : World}, S' w → Below w.heap.size w v → S' v) : MtProg S' a Rep :=
  ⟨hk, h.low, h.keep, fun x y p w q => h.new x y p w (hs w q), fun r f q k => h.tick r f q (hs _ k), fun c r f k => h.take c r f (hs _ k), h.at_, h.state⟩
theorem MtProg.sents {a : Nat → Addr} {Rep : World → Nat → Mt → Prop} (h : MtProg (fun w => Errs5 w a) a Rep) : MtProg (fun w => Sents w a) a Rep :=
  h.of (fun _ q => Errs5.of q) (fun q k => q.below k (Nat.le_refl _))
end Go.Proofs.YteoappoijihomahDoor
