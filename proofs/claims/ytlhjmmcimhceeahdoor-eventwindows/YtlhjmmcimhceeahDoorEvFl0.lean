/-
  The document's numbers over each other: Product, divided, FloorOf, by contracts.
-/
import Derived.Test.YtlhjmmcimhceeahDoorBigV
import Derived.Test.YtlhjmmcimhceeahDoorEvNum
namespace Go.Proofs.YtlhjmmcimhceeahDoor
open Go Go.RowKit

theorem absI_neg {a : Int} (h : a < 0) : absI a = -a := by unfold absI; rw [if_pos h]
theorem absI_pos {a : Int} (h : ¬ a < 0) : absI a = a := by unfold absI; rw [if_neg h]
theorem sgnI_neg {a : Int} (h : a < 0) : sgnI a = -1 := by unfold sgnI; rw [if_pos h]
theorem sgnI_pos {a : Int} (h : ¬ a < 0) : sgnI a = 1 := by unfold sgnI; rw [if_neg h]
set_option maxHeartbeats 800000 in
theorem productV (a b : Int) (w : World) (h1 : -9223372036854775807 ≤ a) (h2 : a ≤ 9223372036854775807) (h3 : -9223372036854775807 ≤ b) (h4 : b ≤ 9223372036854775807) :
    Calls Tryd.prog 27 #[.int .i64 a, .int .i64 b] w fun e w' => ∃ ad cap L, e = .returned (.tuple #[.int .i64 (sgnI a * sgnI b), .slice ad L.length cap]) ∧ BigV w' ad L ∧ val L = absI a * absI b ∧ L.length ≤ 8 ∧ Below w.heap.size w w' := by
  have ha := fun u => bigOfV (absI a) u (absI_nonneg a) (by unfold absI; split <;> omega)
  have hb := fun u => bigOfV (absI b) u (absI_nonneg b) (by unfold absI; split <;> omega)
  generalize hx : absI a = x at *
  generalize hy : absI b = y at *
  have HX := hideR hx
  have HY := hideR hy
  clear hx hy
  by_cases ca : a < 0 <;> by_cases cb : b < 0
  all_goals
    first | rw [sgnI_neg ca] | rw [sgnI_pos ca]
    first | rw [sgnI_neg cb] | rw [sgnI_pos cb]
    have e1 := unhideR HX
    have e2 := unhideR HY
    first | rw [absI_neg ca] at e1 | rw [absI_pos ca] at e1
    first | rw [absI_neg cb] at e2 | rw [absI_pos cb] at e2
    clear HX HY
    go_enter Tryd.func27, Tryd.ntmps27
    go_wp2_with fail
    first | (rw [e1]) | (subst e1)
    refine (ha _).mono ?_
    rintro e w1 ⟨ad1, c1, A, rfl, hA, hvA, hlA, k1⟩
    have HA := hideR hA
    have HvA := hideR hvA
    have HW := hideR k1
    clear hA hvA k1
    go_wp2_with fail
    first | (rw [e2]) | (subst e2)
    refine (hb _).mono ?_
    rintro e w2 ⟨ad2, c2, B, rfl, hB, hvB, hlB, k2⟩
    replace HA := hideR ((unhideR HA).below k2)
    have HB := hideR hB
    have HvB := hideR hvB
    replace HW := hideR (below_go (unhideR HW) k2)
    clear hB hvB k2
    go_wp2_with fail
    refine (bigMulV ad1 ad2 c1 c2 A B _ (by omega) (by omega) (unhideR HA) (unhideR HB)).mono ?_
    rintro e w3 ⟨ad3, c3, L, rfl, hL, hvL, hlL, k3⟩
    have HL := hideR hL
    have HvL := hideR hvL
    replace HW := hideR (below_go (unhideR HW) k3)
    clear hL hvL k3
    go_wp2
    go_ret2
    refine ⟨ad3, c3, L, rfl, unhideR HL, ?_, by omega, unhideR HW⟩
    rw [unhideR HvL, unhideR HvA, unhideR HvB]
end Go.Proofs.YtlhjmmcimhceeahDoor
