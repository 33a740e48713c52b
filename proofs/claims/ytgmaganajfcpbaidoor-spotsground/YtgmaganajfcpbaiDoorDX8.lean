/-
  The program's Lit, by contract.
-/
import Derived.Test.YtgmaganajfcpbaiDoorDTB
namespace Go.Proofs.YtgmaganajfcpbaiDoor
open Go Go.RowKit

def LtPost (a : Nat → Addr) (p : Pic) (tile over : Int) (w : World) (e : Ending) (w' : World) : Prop := ∃ (C : List Bool) (a2 : Option Addr) (c2 : Nat) (er : Value), e = .returned (.tuple #[.slice a2 C.length c2, er]) ∧ ErrIs a (litE p tile over) er ∧ (litE p tile over = 0 → C = litV p tile.toNat over) ∧ (litE p tile over ≠ 0 → C = []) ∧ LCame w' a2 C ∧ Below w.heap.size w w'
set_option maxRecDepth 100000 in
set_option maxHeartbeats 1600000 in
theorem lit_any {a : Nat → Addr} {w : World} {v : Value} {p : Pic} (hS : Er2 w a) (hv : PicC w v p) (tile over : Int) : Calls Tryd.prog 16 #[v, .int .i64 tile, .int .i64 over] w (LtPost a p tile over w) := by
  have hlk0 := fun u (k : Below w.heap.size w u) => look_any (hS.below k (Nat.le_refl _)) (hv.below k) tile over
  obtain ⟨ad, cap, rfl, hc, hl, hcc, hcb⟩ := hv
  have hb := below_a w (.cells #[.int .i64 p.wide, .int .i64 p.high, .slice ad p.L.length cap] 27)
  obtain ⟨c0, c1, c2⟩ := pic_three (alloc_last w (.cells #[.int .i64 p.wide, .int .i64 p.high, .slice ad p.L.length cap] 27))
  have hlk := hlk0 _ hb
  have HF : HeldR (∀ e u, LkPost a p tile over (w.alloc (.cells #[.int .i64 p.wide, .int .i64 p.high, .slice ad p.L.length cap] 27)) e u → ∃ (a1 a2 : Option Addr) (x c c1 c2 : Nat) (er : Value), e = .returned (.tuple #[.slice a1 x c1, .slice a2 c c2, er]) ∧ HeldR (LtPost a p tile over w (.returned (.tuple #[.slice a2 c c2, er])) u)) := hideR (by
    rintro e u ⟨X, C, a1, a2, cp1, cp2, er, rfl, h1, h2, h3, h4, h5, k⟩
    exact ⟨a1, a2, _, _, cp1, cp2, er, rfl, hideR ⟨C, a2, cp2, er, rfl, h1, fun q => (h2 q).2, fun q => (h3 q).2, h5, below_go hb k⟩⟩)
  clear hlk0 hb hc hS
  go_enter Tryd.func16, Tryd.ntmps16
  go_wp2_with fail
  refine hlk.mono ?_
  intro e u hp
  obtain ⟨a1, a2, x, c, d1, d2, er, rfl, HR⟩ := unhideR HF e u hp
  clear hp hlk
  go_wp2
  go_ret2
  exact unhideR HR
end Go.Proofs.YtgmaganajfcpbaiDoor
