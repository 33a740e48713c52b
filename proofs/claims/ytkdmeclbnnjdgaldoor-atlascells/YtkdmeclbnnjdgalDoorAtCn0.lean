/-
  Rows of names.
-/
import Derived.Test.YtkdmeclbnnjdgalDoorAtEn
import Derived.Test.YtkdmeclbnnjdgalDoorLooseA
namespace Go.Proofs.YtkdmeclbnnjdgalDoor
open Go Go.RowKit

theorem own_belowC {w w' : World} {B n s : Nat} {e : TypeId} {v : Value} {xs : List Value} (h : w.ownsRow B e s v n xs) (hb : Below w.heap.size w w') : w'.ownsRow B e s v n xs := own_below2 h hb
theorem insV_len (L : List ByteArray) (s : ByteArray) : (insV L s).length = L.length + 1 := by
  have h : (L.takeWhile (fun a => lessB a s) ++ L.dropWhile (fun a => lessB a s)).length = L.length := by rw [List.takeWhile_append_dropWhile]
  rw [List.length_append] at h
  unfold insV
  rw [List.length_append, List.length_cons]
  omega
/-- a row of names that is owned. -/
def NmOwn (w : World) (v : Value) (L : List ByteArray) : Prop := ∃ B, w.ownsRow B 9 1 v L.length (L.map Value.string)
theorem own_below2N {w w' : World} {v : Value} {L : List ByteArray} (h : NmOwn w v L) (k : Below w.heap.size w w') : NmOwn w' v L := by
  obtain ⟨B, h⟩ := h
  exact ⟨B, own_below2 h k⟩
end Go.Proofs.YtkdmeclbnnjdgalDoor
