/-
  math/bits.Sub64, by contract.
-/
import Derived.Test.YtkdmeclbnnjdgalDoorMu64
namespace Go.Proofs.YtkdmeclbnnjdgalDoor
open Go Go.RowKit

theorem run_sub64 (x y c : Nat) (hc : c ≤ 1) (w : World) : (callFunc 110 #[.int .u64 x, .int .u64 y, .int .u64 c]).run Tryd.prog w = .ok (.value (.tuple #[.int .u64 ((x + 18446744073709551616 - y - c) % 18446744073709551616 : Nat), .int .u64 ((if x < y + c then 1 else 0 : Nat) : Int)])) w := by
  rw [run_callFunc_extern (e := fun args => do
    let (x, y, b) ← Extern.MathBitsCarry.three "Sub64" args
    pure (Extern.MathBitsCarry.pair ((x + Extern.MathBitsCarry.m64 - y - b) % Extern.MathBitsCarry.m64) (if x < y + b then 1 else 0))) Tryd.func110 (by kernel_rfl) (by kernel_rfl) (by kernel_rfl) (by kernel_rfl)]
  have h : (Extern.MathBitsCarry.three "Sub64" #[.int .u64 x, .int .u64 y, .int .u64 c]).run Tryd.prog w = .ok (x, y, c) w := by
    rcases (show c = 0 ∨ c = 1 by omega) with rfl | rfl
    · rfl
    · rfl
  simp only [Sem.run_bind, h, Result.andThen, Sem.run_pure]
  rfl
end Go.Proofs.YtkdmeclbnnjdgalDoor
