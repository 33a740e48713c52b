/-
  What stands above the horizon: the program's, by its contract.
-/
import Derived.Test.YtbjpkfmencaafaeDSky2
namespace Go.Proofs.Ytbjpkfmencaafae
open Go Go.RowKit

theorem place_form {x y z : Nat} {e : Ending} (h : PlaceIs x y z e) : ∃ a b t, e = .returned (.tuple #[.agg #[.int .i64 a, .int .i64 b], .bool t]) := by
  obtain ⟨r, t, _, _, h | h⟩ := h
  · exact ⟨_, _, _, h.2⟩
  · exact ⟨_, _, _, h.2⟩
theorem place_same {x y z : Nat} {e e' : Ending} (h : PlaceIs x y z e) (k : PlaceIs x y z e') : e' = e := by
  obtain ⟨r, t, h1, h2, h⟩ := h
  obtain ⟨r', t', k1, k2, k⟩ := k
  obtain ⟨e1, e2⟩ := has_same (z := z) (root_same h1 h2 k1 k2)
  rw [← e1, ← e2] at k
  rcases h with ⟨h, rfl⟩ | ⟨h, rfl⟩ <;> rcases k with ⟨k, rfl⟩ | ⟨k, rfl⟩
  · rfl
  · rw [h] at k; cases k
  · rw [h] at k; cases k
  · rfl
/-- what is above: height, azimuth. -/
def AbIs (hour dec lat alt az : Int) : Prop := ∃ x y z t, Ev (hxE (sinV dec) (cosV lat) (cosV dec) (cosV hour) (sinV lat)) x ∧ Ev (hyE (cosV dec) (sinV hour)) y ∧ Ev (hzE (sinV dec) (sinV lat) (cosV dec) (cosV hour) (cosV lat)) z ∧ PlaceIs x y z (.returned (.tuple #[.agg #[.int .i64 az, .int .i64 alt], .bool t]))
theorem one_at {w : World} {b : Nat} {x y : Int} {ty : TypeId} (h : w.heap[b]? = some (.cells #[.int .i64 x, .int .i64 y] ty)) : w.cell? ⟨b, 0, none⟩ = some (.int .i64 x) ∧ w.cell? ⟨b, 1, none⟩ = some (.int .i64 y) := (pair_at h).1
set_option maxHeartbeats 8000000 in
theorem above_any (hour dec lat : Int) (w : World) : Calls Try.prog 16 #[.int .i64 hour, .int .i64 dec, .int .i64 lat] w fun e w' => ∃ alt az, e = .returned (.tuple #[.int .i64 alt, .int .i64 az]) ∧ AbIs hour dec lat alt az ∧ Below w.heap.size w w' := by
  have hsf := run_store_float Try.prog
  have h1 := fun v => cos_any hour v
  have h2 := fun v => sin_any hour v
  have h3 := fun v => cos_any dec v
  have h4 := fun v => sin_any dec v
  have h5 := fun v => cos_any lat v
  have h6 := fun v => sin_any lat v
  unfold AbIs
  generalize sinV hour = sh at *
  generalize cosV hour = ch at *
  generalize sinV dec = sd at *
  generalize cosV dec = cd at *
  generalize sinV lat = sl at *
  generalize cosV lat = cl at *
  go_enter Try.func16, Try.ntmps16
  go_wp2_with fail
  refine (h1 _).mono ?_
  rintro e w1 ⟨rfl, k1⟩
  have HW := hideR k1
  clear k1 h1
  go_wp2_with fail
  refine (h2 _).mono ?_
  rintro e w2 ⟨rfl, k2⟩
  replace HW := hideR (below_go (unhideR HW) k2)
  clear k2 h2
  go_wp2_with fail
  refine (h3 _).mono ?_
  rintro e w3 ⟨rfl, k3⟩
  replace HW := hideR (below_go (unhideR HW) k3)
  clear k3 h3
  go_wp2_with fail
  refine (h4 _).mono ?_
  rintro e w4 ⟨rfl, k4⟩
  replace HW := hideR (below_go (unhideR HW) k4)
  clear k4 h4
  go_wp2_with fail
  refine (h5 _).mono ?_
  rintro e w5 ⟨rfl, k5⟩
  replace HW := hideR (below_go (unhideR HW) k5)
  clear k5 h5
  go_wp2_with fail
  refine (h6 _).mono ?_
  rintro e w6 ⟨rfl, k6⟩
  replace HW := hideR (below_go (unhideR HW) k6)
  clear k6 h6
  go_wp2_with fail
  refine upon_float four_mul ?_
  intro out n_out g_out
  go_wp2_with fail
  refine upon_float four_mul ?_
  intro a0 n_a0 g_a0
  go_wp2_with fail
  refine upon_float four_mul ?_
  intro a1 n_a1 g_a1
  go_wp2_with fail
  refine upon_float four_sub ?_
  intro x n_x g_x
  go_wp2_with fail
  refine upon_float four_mul ?_
  intro b0 n_b0 g_b0
  go_wp2_with fail
  refine upon_float four_sub ?_
  intro y n_y g_y
  go_wp2_with fail
  refine upon_float four_mul ?_
  intro z0 n_z0 g_z0
  go_wp2_with fail
  refine upon_float four_mul ?_
  intro z1 n_z1 g_z1
  go_wp2_with fail
  refine upon_float four_add ?_
  intro z n_z g_z
  have lx := lw_op g_x
  have ly := lw_op g_y
  have lz := lw_op g_z
  have EX : HeldR (Ev (hxE sd cl cd ch sl) x) := .op (ev_m g_a0) (.op (ev_m g_out) (.num _) g_a1) g_x
  have EY : HeldR (Ev (hyE cd sh) y) := .op (.num _) (ev_m g_b0) g_y
  have EZ : HeldR (Ev (hzE sd sl cd ch cl) z) := .op (ev_m g_z0) (.op (ev_m g_out) (.num _) g_z1) g_z
  clear g_out g_a0 g_a1 g_x g_b0 g_y g_z0 g_z1 g_z
  go_wp2_with fail
  refine (where_any _ _ _ _ lx ly lz).mono ?_
  rintro e w7 ⟨hpl, k7⟩
  obtain ⟨u, v, t, rfl⟩ := place_form hpl
  have HP := hideR hpl
  replace HW := hideR (below_go (below_drewN (unhideR HW) _) k7)
  clear hpl k7 lx ly lz
  go_wp2_with fail
  go_quiet (fail)
  go_wp2
  go_ret2
  exact ⟨v, u, rfl, ⟨x, y, z, t, unhideR EX, unhideR EY, unhideR EZ, unhideR HP⟩, below_drewN ((unhideR HW).alloc (unhideR HW).size _) _⟩
end Go.Proofs.Ytbjpkfmencaafae
