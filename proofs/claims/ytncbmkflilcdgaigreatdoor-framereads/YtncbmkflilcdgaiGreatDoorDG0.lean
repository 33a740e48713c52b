/-
  What lies in memory of the library's variables, beside the errors.
-/
import Derived.Test.YtncbmkflilcdgaiGreatDoorCodK4
import Derived.Test.YtncbmkflilcdgaiGreatDoorShelf
import Derived.Lib.LaidTab
namespace Go.Proofs.YtncbmkflilcdgaiGreatDoor
open Go Go.RowKit

structure SentsF (w : World) (a : Nat → Addr) : Prop where
  s : Sents w a
  tab : Lib.TabIs Tryz.prog w "internal/strconv.uint64pow10" .u64 Lib.pow10Tab
  syn : ∃ tp p, w.var? Tryz.prog "strconv.ErrSyntax" = some #[.iface tp p]
  rng : ∃ tp p, w.var? Tryz.prog "strconv.ErrRange" = some #[.iface tp p]
  big : 11 < w.heap.size ∧ 14 < w.heap.size ∧ 15 < w.heap.size
theorem var_below {w w' : World} {B g : Nat} {n : String} {x : Array Value} (e : Tryz.prog.globalNamed n = some g) (h : w.var? Tryz.prog n = some x) (b : Below B w w') (hB : g < B) : w'.var? Tryz.prog n = some x := by
  unfold World.var? at h ⊢
  rw [e] at h ⊢
  simp only [Option.bind_some] at h ⊢
  rw [b.block g hB]
  exact h
theorem SentsF.below {w w' : World} {a : Nat → Addr} (h : SentsF w a) (b : Below w.heap.size w w') : SentsF w' a := by
  obtain ⟨tp, p, h1⟩ := h.syn
  obtain ⟨tq, q, h2⟩ := h.rng
  exact ⟨h.s.below b (Nat.le_refl _), var_below (by kernel_rfl) h.tab b h.big.1, ⟨tp, p, var_below (by kernel_rfl) h1 b h.big.2.1⟩, ⟨tq, q, var_below (by kernel_rfl) h2 b h.big.2.2⟩,
    Nat.lt_of_lt_of_le h.big.1 b.size, Nat.lt_of_lt_of_le h.big.2.1 b.size, Nat.lt_of_lt_of_le h.big.2.2 b.size⟩
end Go.Proofs.YtncbmkflilcdgaiGreatDoor
