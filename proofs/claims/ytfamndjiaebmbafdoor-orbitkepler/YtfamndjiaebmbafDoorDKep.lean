/-
  The program's Kepler, by its contract.
-/
import Derived.Test.YtfamndjiaebmbafDoorOrbEnc
import Derived.Test.YtfamndjiaebmbafDoorDSin0
namespace Go.Proofs.YtfamndjiaebmbafDoor
open Go Go.RowKit

theorem isEcc_any (e : Nat) (w : World) : Calls Tryd.prog 32 #[.float .f64 e] w fun x w' => x = .returned (.bool (okE e)) ∧ w' = w := by
  unfold okE ge0 lt1
  obtain ⟨o1, h1⟩ : ∃ o, FloatKind.f64.format.order e 0 = o := ⟨_, rfl⟩
  obtain ⟨o2, h2⟩ : ∃ o, FloatKind.f64.format.order e 4607182418800017408 = o := ⟨_, rfl⟩
  rw [h1, h2]
  cases hA : (o1 == some .gt || o1 == some .eq)
  · go_enter Tryd.func32, Tryd.ntmps32
    go_wp2
    go_ret
    exact ⟨rfl, rfl⟩
  · rw [Bool.true_and]
    go_enter Tryd.func32, Tryd.ntmps32
    go_wp2
    go_ret
    exact ⟨rfl, rfl⟩
theorem radians_any (a : Int) (w : World) : Calls Tryd.prog 33 #[.int .i64 a] w fun x w' => ∃ r, x = .returned (.float .f64 r) ∧ FOp .mul (floatOfInt .f64 a) radB r ∧ ∃ n, w' = w.drewN n := by
  unfold radB
  go_enter Tryd.func33, Tryd.ntmps33
  go_wp2_with fail
  refine upon_float four_mul ?_
  intro r n h
  go_wp2
  go_ret
  exact ⟨r, rfl, h, _, rfl⟩
set_option maxRecDepth 100000 in
set_option maxHeartbeats 8000000 in
theorem kepler_no {a : Addr} (m : Int) (e : Nat) (w : World) (hS : ShapeAt w a) (hok : okE e = false) : Calls Tryd.prog 17 #[.int .i64 m, .float .f64 e] w fun x w' => x = .returned (.tuple #[.int .i64 0, shapeE a]) ∧ Below w.heap.size w w' := by
  have hec := fun u => isEcc_any e u
  rw [hok] at hec
  have h4 := hS.c
  have hb := hS.l
  unfold shapeE at *
  go_enter Tryd.func17, Tryd.ntmps17
  go_wp2_with fail
  refine (hec _).mono ?_
  rintro x w1 ⟨rfl, rfl⟩
  go_wp2
  go_quiet (fail)
  go_wp2
  go_ret2
  exact ⟨rfl, below_drewN (Below.refl _ _) _⟩
set_option maxRecDepth 100000 in
set_option maxHeartbeats 8000000 in
theorem kepler_yes (m : Int) (e : Nat) (w : World) (hok : okE e = true) : Calls Tryd.prog 17 #[.int .i64 m, .float .f64 e] w fun x w' => x = .returned (.tuple #[.int .i64 (kepV m e), .nilIface]) ∧ Below w.heap.size w w' := by
  have hec := fun u => isEcc_any e u
  rw [hok] at hec
  obtain ⟨v, ie, v1, v2⟩ := okE_spec hok
  have HT : HeldR (∀ k : Int, 0 ≤ k → k ≤ 1296000000000 → ∀ mm kk p q r f, FOp .mul (floatOfInt .f64 (nrm m)) radB mm → FOp .mul (floatOfInt .f64 k) radB kk → FOp .mul e (sinV k) p → FOp .sub kk p q → FOp .sub q mm f → r = f → (FloatKind.f64.format.order r 0 == some .lt || FloatKind.f64.format.order r 0 == some .eq) = kepT m e k) := by
    intro k k0 k1 mm kk p q r f h1 h2 h3 h4 h5 hrf
    subst hrf
    have hE : Ev (kE e m k) r := .op (.op (.op (.num _) (.num _) h2) (.op (.num _) (.num _) h3) h4) (.op (.num _) (.num _) h1) h5
    rw [k_is ie v1 v2 k1 k0 hE]
    rfl
  have hbis : bis (kepT m e) 41 0 1296000000000 = kepV m e := rfl
  clear hok ie v1 v2
  have hRr := kepV_range m e
  generalize kepV m e = R at *
  generalize kepT m e = T at *
  have HR := hideR hbis
  clear hbis
  go_enter Tryd.func17, Tryd.ntmps17
  go_wp2_with fail
  refine (hec _).mono ?_
  rintro x w0 ⟨rfl, rfl⟩
  go_wp2_with fail
  refine (norm_any _ _).mono ?_
  rintro x w1 ⟨rfl, rfl⟩
  go_wp2_with fail
  refine (radians_any _ _).mono ?_
  rintro x w2 ⟨mm, rfl, hmm, nm, rfl⟩
  have HM := hideR hmm
  clear hmm
  go_wp2
  go_loopw [7, 8] (fun lo hi wl => ∃ a b : Int, lo = .int .i64 a ∧ hi = .int .i64 b ∧ 0 ≤ a ∧ a < b ∧ b ≤ 1296000000000 ∧ HeldR (bis T 41 a b = R) ∧ HeldR (Below w1.heap.size w1 wl)) (fun lo hi _ => (RowKit.intOf hi - RowKit.intOf lo).toNat)
  case atStart => exact ⟨0, 1296000000000, rfl, rfl, by omega, by omega, by omega, HR, hideR (below_drewN (Below.refl _ _) _)⟩
  case round =>
    obtain ⟨a, b, rfl, rfl, ha, hab, hb, HB, HW⟩ := hrel
    by_cases hgt : 1 < b - a
    · have hst := bis_step41 T a b hgt (by omega)
      rw [unhideR HB] at hst
      have hm1 : a < (a + b) / 2 := by omega
      have hm2 : (a + b) / 2 < b := by omega
      have hq : (a + b).tdiv 2 = (a + b) / 2 := Int.tdiv_eq_ediv_of_nonneg (by omega)
      have HT2 := hideR (unhideR HT ((a + b) / 2) (by omega) (by omega) mm)
      generalize (a + b) / 2 = mid at *
      go_wp2_with fail
      refine (radians_any _ _).mono ?_
      rintro x w3 ⟨kk, rfl, h1, n1, rfl⟩
      go_wp2_with fail
      refine (sin_any _ _).mono ?_
      rintro x w4 ⟨rfl, k4⟩
      have HW3 := hideR (below_go (below_drewN (unhideR HW) n1) k4)
      clear k4
      generalize sinV mid = s at *
      go_wp2_with fail
      refine upon_float four_mul ?_
      intro p n2 h2
      go_wp2_with fail
      refine upon_float four_sub ?_
      intro q n3 h3
      go_wp2_with fail
      refine upon_float four_sub ?_
      intro f n4 h4
      have ht := unhideR HT2 kk p q f f (unhideR HM) h1 h2 h3 h4 rfl
      clear h1 h2 h3 h4 HT2
      cases hT : T mid
      · rw [hT] at ht hst
        simp only [Bool.false_eq_true, if_false] at hst
        have HS := hideR hst.symm
        clear hst
        go_wp2
        exact ⟨⟨a, mid, rfl, rfl, by omega, by omega, by omega, HS, hideR (below_drewN (unhideR HW3) _)⟩, by simp [RowKit.intOf]; omega⟩
      · rw [hT] at ht hst
        simp only [if_true] at hst
        have HS := hideR hst.symm
        clear hst
        go_wp2
        exact ⟨⟨mid, b, rfl, rfl, by omega, by omega, by omega, HS, hideR (below_drewN (unhideR HW3) _)⟩, by simp [RowKit.intOf]; omega⟩
    · have hst := bis_stop41 T a b hgt
      rw [unhideR HB] at hst
      have hst2 : a = R := hst.symm
      clear hst HB
      rw [hst2] at hgt ⊢
      clear hst2
      go_wp2
      go_ret2
      exact ⟨rfl, unhideR HW⟩
theorem kepler_any {a : Addr} (m : Int) (e : Nat) (w : World) (hS : ShapeAt w a) : Calls Tryd.prog 17 #[.int .i64 m, .float .f64 e] w fun x w' => KepIs a m e x ∧ Below w.heap.size w w' := by
  unfold KepIs
  cases hok : okE e
  · refine (kepler_no m e w hS hok).mono ?_
    rintro x w' ⟨h, k⟩
    exact ⟨.inr ⟨rfl, h⟩, k⟩
  · refine (kepler_yes m e w hok).mono ?_
    rintro x w' ⟨h, k⟩
    exact ⟨.inl ⟨rfl, h⟩, k⟩
end Go.Proofs.YtfamndjiaebmbafDoor
