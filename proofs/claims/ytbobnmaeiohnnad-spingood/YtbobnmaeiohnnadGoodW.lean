/-
  The law SpinGood: its walk out of the contracts: either way.
-/
import Derived.Test.YtbobnmaeiohnnadGoodN
import Derived.Test.YtbobnmaeiohnnadGoodY
namespace Go.Proofs.Ytbobnmaeiohnnad
open Go Go.RowKit

theorem spinGood_walk (x y z : Nat) (h : Int) (a b c d : Nat) (t : Bool) (p q r : Nat) (w : World) :
    Calls Try.prog 8 #[.agg #[.float .f64 x, .float .f64 y, .float .f64 z], .int .i64 h, .agg #[.float .f64 a, .float .f64 b, .float .f64 c, .float .f64 d], .bool t, .agg #[.float .f64 p, .float .f64 q, .float .f64 r]] w fun e w' => e = .returned (.bool true) ∧ Below w.heap.size w w' := by
  cases t
  · exact spinGood_no x y z h a b c d p q r w
  · exact spinGood_yes x y z h a b c d p q r w
end Go.Proofs.Ytbobnmaeiohnnad
