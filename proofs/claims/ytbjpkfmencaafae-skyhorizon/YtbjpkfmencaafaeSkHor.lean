/-
  The law SkyHorizon: its walk.
-/
import Derived.Test.YtbjpkfmencaafaeDSky3
namespace Go.Proofs.Ytbjpkfmencaafae
open Go Go.RowKit

theorem nan_place {x y z : Nat} {e : Ending} (h : PlaceIs x y z e) (k : (finB x && finB y && finB z) = false) : e = .returned (.tuple #[.agg #[.int .i64 0, .int .i64 0], .bool false]) := by
  obtain ⟨r, t, _, _, h | h⟩ := h
  · rw [k] at h
    cases h.1
  · exact h.2
theorem place_same2 {x y z x' y' z' : Nat} {e e' : Ending} (sx : FSame x x') (sy : FSame y y') (sz : FSame z z') (h : PlaceIs x y z e) (k : PlaceIs x' y' z' e') : e' = e := by
  rcases sx with rfl | ⟨n1, n2⟩
  · rcases sy with rfl | ⟨n1, n2⟩
    · rcases sz with rfl | ⟨n1, n2⟩
      · exact place_same h k
      · rw [nan_place h (by rw [nan_fin n1, Bool.and_false]), nan_place k (by rw [nan_fin n2, Bool.and_false])]
    · rw [nan_place h (by rw [nan_fin n1, Bool.and_false, Bool.false_and]), nan_place k (by rw [nan_fin n2, Bool.and_false, Bool.false_and])]
  · rw [nan_place h (by rw [nan_fin n1, Bool.false_and, Bool.false_and]), nan_place k (by rw [nan_fin n2, Bool.false_and, Bool.false_and])]
theorem ev_closed {e : FE} {r v : Nat} (h : Ev e r) (hv : evl e = v) (hn : (FloatKind.f64.format.read v).isNaN = false) : r = v := by
  rcases h.same (ev_evl e) with k | ⟨_, k⟩
  · exact k.trans hv
  · rw [hv] at k
    unfold Nan at k
    rw [hn] at k
    cases k
theorem x5 : evl (hxE (sinV 5) (cosV 5) (cosV 5) (cosV 0) (sinV 5)) = 0 := by decide +kernel
theorem y5 : evl (hyE (cosV 5) (sinV 0)) = 0 := by decide +kernel
theorem z5 : evl (hzE (sinV 5) (sinV 5) (cosV 5) (cosV 0) (cosV 5)) = 4607182418800017408 := by decide +kernel
theorem t5 : evl (.op .add (mE 0 0) (mE 0 0)) = 0 := by decide +kernel
theorem r5 : FloatKind.f64.format.sqrt 0 = some 0 := by decide +kernel
theorem h5 : (finB 0 && finB 0 && finB 4607182418800017408 && hasV 4607182418800017408 0) = true := by decide +kernel
theorem a5 : sgd (angV 4607182418800017408 0) = 324000000000 := by decide +kernel
theorem above_five {alt az : Int} (h : AbIs 0 5 5 alt az) : alt = 324000000000 := by
  obtain ⟨x, y, z, t, h1, h2, h3, h⟩ := h
  obtain rfl := ev_closed h1 x5 (by decide +kernel)
  obtain rfl := ev_closed h2 y5 (by decide +kernel)
  obtain rfl := ev_closed h3 z5 (by decide +kernel)
  obtain ⟨r, tt, k1, k2, h⟩ := h
  obtain rfl := ev_closed k1 t5 (by decide +kernel)
  unfold FSq at k2
  rw [r5] at k2
  simp only at k2
  subst k2
  rw [h5, a5] at h
  rcases h with ⟨_, h⟩ | ⟨h, _⟩
  · simp at h
    exact h.1.2
  · cases h
set_option maxHeartbeats 8000000 in
theorem hor_walk (a b c : Int) (w : World) :
    Calls Try.prog 5 #[.int .i64 a, .int .i64 b, .int .i64 c] w fun e w' => e = .returned (.bool true) ∧ Below w.heap.size w w' := by
  have hab := fun x y z v => above_any x y z v
  go_enter Try.func5, Try.ntmps5
  go_wp2_with fail
  refine (hab _ _ _ _).mono ?_
  rintro e w1 ⟨alt, az, rfl, h, k1⟩
  obtain rfl := above_five h
  have HW := hideR k1
  clear k1 h
  go_wp2_with fail
  refine (hab _ _ _ _).mono ?_
  rintro e w2 ⟨alt, az, rfl, h, k2⟩
  have HA := hideR h
  replace HW := hideR (below_go (unhideR HW) k2)
  clear k2 h hab
  go_wp2_with fail
  refine (horizonOf_any _ _ _ _).mono ?_
  rintro e w3 ⟨_, rfl, ⟨p, q, r, rfl, g1, g2, g3⟩, k3⟩
  replace HW := hideR (below_go (unhideR HW) k3)
  have HC : HeldR (∀ e, PlaceIs p q r e → ∃ t, e = .returned (.tuple #[.agg #[.int .i64 az, .int .i64 alt], .bool t])) := by
    intro e he
    obtain ⟨x, y, z, t, h1, h2, h3, h⟩ := unhideR HA
    exact ⟨t, place_same2 (h1.same g1) (h2.same g2) (h3.same g3) h he⟩
  clear k3 g1 g2 g3 HA
  go_wp2_with fail
  refine (placeOf_any _ _ _ _).mono ?_
  rintro e w4 ⟨hpl, k4⟩
  obtain ⟨t, rfl⟩ := unhideR HC _ hpl
  replace HW := hideR (below_go (unhideR HW) k4)
  clear hpl k4 HC
  go_wp2
  go_ret
  exact ⟨rfl, (unhideR HW).alloc (unhideR HW).size _⟩
end Go.Proofs.Ytbjpkfmencaafae
