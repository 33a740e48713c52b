/-
  What an error is; worlds that drew.
-/
import Derived.Test.YtngdemhhcablmakDoorKitA
namespace Go.Proofs.YtngdemhhcablmakDoor
open Go Go.RowKit

theorem errIs_ne {a : Nat → Addr} {E : Int} {x : Value} (h : ErrIs a E x) (h0 : E ≠ 0) : ∃ k : Nat, x = .iface 120 (.pointer (some (a k))) := by
  rcases h with ⟨q, _⟩ | ⟨k, _, _, e⟩
  · exact absurd q h0
  · exact ⟨k, e⟩
theorem errIs_0 {a : Nat → Addr} {x : Value} (h : ErrIs a 0 x) : x = .nilIface := by
  rcases h with ⟨_, e⟩ | ⟨k, _, q, _⟩
  · exact e
  · omega
theorem drew_below (w : World) (q : Nat) {W : World} (h : Below W.heap.size W w) : Below W.heap.size W (w.drewN q) := ⟨h.os, h.tape, h.output, h.size, h.block⟩
end Go.Proofs.YtngdemhhcablmakDoor
