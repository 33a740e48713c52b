/-
  Where the errors of a bound, of a wrong shape, of a limit lie.
-/
import Derived.Test.YtkdmeclbnnjdgalDoorKitA
namespace Go.Proofs.YtkdmeclbnnjdgalDoor
open Go Go.RowKit

structure Errs (w : World) (a : Nat → Addr) : Prop where
  e1 : w.cell? ⟨1, 0, none⟩ = some (.iface 207 (.pointer (some (a 1))))
  e4 : w.cell? ⟨0, 0, none⟩ = some (.iface 207 (.pointer (some (a 4))))
  e5 : w.cell? ⟨5, 0, none⟩ = some (.iface 207 (.pointer (some (a 5))))
  b1 : 1 < w.heap.size
  b4 : 0 < w.heap.size
  b5 : 5 < w.heap.size
theorem Errs.below {w u : World} {a : Nat → Addr} (h : Errs w a) (k : Below w.heap.size w u) : Errs u a :=
  ⟨(k.cell (p := ⟨1, 0, none⟩) h.b1).trans h.e1, (k.cell (p := ⟨0, 0, none⟩) h.b4).trans h.e4, (k.cell (p := ⟨5, 0, none⟩) h.b5).trans h.e5, Nat.lt_of_lt_of_le h.b1 k.size, Nat.lt_of_lt_of_le h.b4 k.size, Nat.lt_of_lt_of_le h.b5 k.size⟩
end Go.Proofs.YtkdmeclbnnjdgalDoor
