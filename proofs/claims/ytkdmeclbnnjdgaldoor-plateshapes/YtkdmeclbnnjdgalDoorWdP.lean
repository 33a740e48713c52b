/-
  Numbers of two words: the program's product, by contract.
-/
import Derived.Test.YtkdmeclbnnjdgalDoorMu64
namespace Go.Proofs.YtkdmeclbnnjdgalDoor
open Go Go.RowKit

/-- a number of two words. -/
def wdV (n : Nat) : Value := .agg #[.int .u64 ((n / 18446744073709551616 : Nat) : Int), .int .u64 ((n % 18446744073709551616 : Nat) : Int)]
theorem conv_u64 {a : Nat} (h : a < 9223372036854775808) : IntKind.u64.wrap (a : Int) = (a : Int) := wrapU (by omega)
set_option maxRecDepth 100000 in
set_option maxHeartbeats 1600000 in
theorem wprod_any (a b : Nat) (w : World) (ha : a < 9223372036854775808) (hb : b < 9223372036854775808) :
    Calls Tryd.prog 91 #[.int .i64 (a : Nat), .int .i64 (b : Nat)] w fun e w' => e = .returned (wdV (a * b)) ∧ Below w.heap.size w w' := by
  unfold wdV
  have ea := conv_u64 ha
  have eb := conv_u64 hb
  have hm := fun u => mul64_any a b (by omega) (by omega) u
  generalize ((a * b / 18446744073709551616 : Nat) : Int) = h at *
  generalize ((a * b % 18446744073709551616 : Nat) : Int) = l at *
  go_enter Tryd.func91, Tryd.ntmps91
  go_wp2_with fail
  refine (hm _).mono ?_
  rintro e w2 ⟨rfl, rfl⟩
  clear hm ea eb
  go_wp2
  simp [bodyPost, results, Tryd.results91, go_sem]
  exact below_a w _
end Go.Proofs.YtkdmeclbnnjdgalDoor
