/-
  A spot's block while its pixels are gathered.
-/
import Derived.Test.YtgmaganajfcpbaiDoorSpKA
import Derived.Test.YtgmaganajfcpbaiDoorSpLb
import Derived.Test.YtgmaganajfcpbaiDoorSpOv
import Derived.Test.YtgmaganajfcpbaiDoorSpPl
namespace Go.Proofs.YtgmaganajfcpbaiDoor
open Go Go.RowKit

/-- a spot's block while its pixels are gathered. -/
def SbAt (u : World) (g : Nat) (s : Sp) : Prop := u.heap[g]? = some (.cells #[.int .i64 s.le, .int .i64 s.tp, .int .i64 s.ri, .int .i64 s.lo, .int .i64 s.px, .int .i64 s.li, .int .i64 0, .int .i64 0, .int .i64 0] 63)
section
variable {u : World} {g : Nat} {s : Sp}
theorem SbAt.le (h : SbAt u g s) (x : Int) : SbAt (u.setCell ⟨g, 0, none⟩ (.int .i64 x)) g { s with le := x } := heap_setCell_same u g 0 _ _ _ h
theorem SbAt.tp (h : SbAt u g s) (x : Int) : SbAt (u.setCell ⟨g, 1, none⟩ (.int .i64 x)) g { s with tp := x } := heap_setCell_same u g 1 _ _ _ h
theorem SbAt.ri (h : SbAt u g s) (x : Int) : SbAt (u.setCell ⟨g, 2, none⟩ (.int .i64 x)) g { s with ri := x } := heap_setCell_same u g 2 _ _ _ h
theorem SbAt.lo (h : SbAt u g s) (x : Int) : SbAt (u.setCell ⟨g, 3, none⟩ (.int .i64 x)) g { s with lo := x } := heap_setCell_same u g 3 _ _ _ h
theorem SbAt.px (h : SbAt u g s) (x : Int) : SbAt (u.setCell ⟨g, 4, none⟩ (.int .i64 x)) g { s with px := x } := heap_setCell_same u g 4 _ _ _ h
theorem SbAt.li (h : SbAt u g s) (x : Int) : SbAt (u.setCell ⟨g, 5, none⟩ (.int .i64 x)) g { s with li := x } := heap_setCell_same u g 5 _ _ _ h
theorem SbAt.keep (h : SbAt u g s) {v : World} (k : Below u.heap.size u v) : SbAt v g s := keepB h k
theorem SbAt.cell (h : SbAt u g s) (k : Nat) (hk : k < 9) : u.cell? ⟨g, k, none⟩ = some ((#[.int .i64 s.le, .int .i64 s.tp, .int .i64 s.ri, .int .i64 s.lo, .int .i64 s.px, .int .i64 s.li, .int .i64 0, .int .i64 0, .int .i64 0] : Array Value).getD k undef) ∧ u.frozen? ⟨g, k, none⟩ = false := cells_at h k hk
end
end Go.Proofs.YtgmaganajfcpbaiDoor
