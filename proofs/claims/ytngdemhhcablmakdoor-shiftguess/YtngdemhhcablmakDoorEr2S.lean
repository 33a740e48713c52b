/-
  The errors of a bound and of a wrong shape among all.
-/
import Derived.Test.YtngdemhhcablmakDoorKitA
import Derived.Test.YtngdemhhcablmakDoorSenA
namespace Go.Proofs.YtngdemhhcablmakDoor
open Go Go.RowKit

theorem Sents.er2 {w : World} {a : Nat → Addr} (h : Sents w a) : Er2 w a := ⟨h.g1, h.g4, by have := h.big; omega, by have := h.big; omega⟩
end Go.Proofs.YtngdemhhcablmakDoor
