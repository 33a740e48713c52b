/-
  The law SkyPlaces: what it calls besides, and its walk.
-/
import Derived.Test.YtfamndjiaebmbaeDSky2
namespace Go.Proofs.Ytfamndjiaebmbae
open Go Go.RowKit

theorem top_is : sinV 324000000000 = 4607182418800017408 := by decide +kernel
theorem pointed_any (w : World) : Calls Try.prog 7 #[] w fun e w' => e = .returned (.bool true) ∧ Below w.heap.size w w' := by
  have hsf := run_store_float Try.prog
  have ho : (FloatKind.f64.format.order 4607182418800017408 4607182418800017408 == some .eq) = true := by decide +kernel
  go_enter Try.func7, Try.ntmps7
  go_wp2_with fail
  refine (point_any _ _ _).mono ?_
  rintro e w1 ⟨x, y, z, rfl, hp, k⟩
  obtain rfl : z = 4607182418800017408 := hp.z.trans top_is
  have HB := hideR k
  clear k hp
  go_wp2
  go_ret
  exact ⟨rfl, (unhideR HB).alloc (unhideR HB).size _⟩
theorem place_any (a b : Int) (w : World) : Calls Try.prog 10 #[.agg #[.int .i64 a, .int .i64 b]] w fun e w' => e = .returned (.agg #[.int .i64 a, .int .i64 b]) ∧ Below w.heap.size w w' := by
  go_enter Try.func10, Try.ntmps10
  go_wp2
  simp [bodyPost, results, Try.results10, go_sem]
  exact below_al2 w _ _
end Go.Proofs.Ytfamndjiaebmbae
