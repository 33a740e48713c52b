/-
  The law's question whether two faults agree, by its contract.
-/
import Derived.Test.YtekbhjacgdncbacDoorReadR
import Derived.Test.YtekbhjacgdncbacDoorFault
namespace Go.Proofs.YtekbhjacgdncbacDoor
open Go.RowKit Go.Lib

theorem in_heap {W : World} {x i : Nat} {v : Value} (hx : W.cell? ⟨x, i, none⟩ = some v) : x < W.heap.size := by
  rcases Nat.lt_or_ge x W.heap.size with l | l
  · exact l
  · simp [World.cell?, Array.getElem?_eq_none l] at hx
theorem new_cellS {w : World} {m i : Nat} {c : Array Value} {t : TypeId} (h : m = w.heap.size) : (w.alloc (.cells c t)).cell? ⟨m, i, none⟩ = c[i]? := by
  rw [World.cell?_alloc_at _ _ _ _ h]
theorem faulted_nil (w : World) : Calls Tryd.prog 7 #[.nilIface, .agg #[.int .i64 0, .int .i64 (-1)]] w fun e w' => e = .returned (.bool true) ∧ Below w.heap.size w w' := by
  go_enter Tryd.func7, Tryd.ntmps7
  go_wp2_with fail
  refine (code_nil _).mono ?_
  rintro e w1 ⟨rfl, rfl⟩
  go_wp2
  go_ret
  exact ⟨rfl, (Below.refl _ _).alloc (Nat.le_refl _) _⟩

theorem faulted_bad {w : World} {a : Nat → Addr} (h : Sents w a) (fb p : Nat) (h0 : w.cell? ⟨fb, 0, none⟩ = some (.int .i64 p)) (h1 : w.cell? ⟨fb, 1, none⟩ = some (.iface 83 (.pointer (some (a 0))))) :
    Calls Tryd.prog 7 #[.iface 43 (.pointer (some ⟨fb, 0, none⟩)), .agg #[.int .i64 1, .int .i64 p]] w fun e w' => e = .returned (.bool true) ∧ Below w.heap.size w w' := by
  have lf := in_heap h0
  have hb : Below w.heap.size w (w.alloc (.cells #[.int .i64 1, .int .i64 p] 29)) := (Below.refl _ _).alloc (Nat.le_refl _) _
  have n0 : (w.alloc (.cells #[.int .i64 1, .int .i64 p] 29)).cell? ⟨w.heap.size, 0, none⟩ = some (.int .i64 1) := new_cellS rfl
  have n1 : (w.alloc (.cells #[.int .i64 1, .int .i64 p] 29)).cell? ⟨w.heap.size, 1, none⟩ = some (.int .i64 p) := new_cellS rfl
  have sz : w.heap.size < (w.alloc (.cells #[.int .i64 1, .int .i64 p] 29)).heap.size := by simp
  have C := hideT (code_fault (h.below hb (Nat.le_refl _)) 0 (by omega) fb p ((hb.cell (show (⟨fb, 0, none⟩ : Addr).block < _ from lf)).trans h0) ((hb.cell (show (⟨fb, 1, none⟩ : Addr).block < _ from lf)).trans h1))
  go_enter Tryd.func7, Tryd.ntmps7
  go_wp2_with fail
  refine (unhideT C).mono ?_
  rintro e w1 ⟨rfl, hb1⟩
  have k0 := (hb1.cell (show (⟨w.heap.size, 0, none⟩ : Addr).block < _ from sz)).trans n0
  have k1 := (hb1.cell (show (⟨w.heap.size, 1, none⟩ : Addr).block < _ from sz)).trans n1
  have B := hideT (hb.trans (hb1.mono (Nat.le_of_lt sz)))
  clear hb hb1 n0 n1 sz C h h0 h1
  go_wp2
  go_ret
  exact ⟨rfl, unhideT B⟩

end Go.Proofs.YtekbhjacgdncbacDoor
