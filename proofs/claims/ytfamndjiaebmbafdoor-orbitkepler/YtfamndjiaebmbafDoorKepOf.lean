/-
  Kepler's equation: the document's answer, by its contract.
-/
import Derived.Test.YtfamndjiaebmbafDoorKep
import Derived.Test.YtfamndjiaebmbafDoorKit0
namespace Go.Proofs.YtfamndjiaebmbafDoor
open Go Go.RowKit

/-- an eccentricity: from 0 on, below 1. -/
def ge0 (e : Nat) : Bool := FloatKind.f64.format.order e 0 == some .gt || FloatKind.f64.format.order e 0 == some .eq
def lt1 (e : Nat) : Bool := FloatKind.f64.format.order e 4607182418800017408 == some .lt
def okE (e : Nat) : Bool := ge0 e && lt1 e
theorem one_i : Is 4607182418800017408 1 := by unfold Is; decide +kernel
theorem okE_spec {e : Nat} (h : okE e = true) : ∃ v, Is e v ∧ 0 ≤ v ∧ v ≤ 1 := by
  unfold okE ge0 lt1 at h
  rw [Bool.and_eq_true] at h
  obtain ⟨h1, h2⟩ := h
  cases er : FloatKind.f64.format.read e with
  | nan s f =>
    exfalso
    have hn : Nan e := by unfold Nan; rw [er]; rfl
    rw [order_nan_left _ hn] at h2
    cases h2
  | infinity s =>
    exfalso
    unfold Ieee.Format.order at h1 h2
    have z0 : FloatKind.f64.format.read 0 = .number false 0 (-1074) := by decide +kernel
    have z1 : FloatKind.f64.format.read 4607182418800017408 = .number false 4503599627370496 (-52) := by decide +kernel
    rw [er, z0] at h1
    rw [er, z1] at h2
    cases s <;> simp [Ieee.Datum.order] at h1 h2
  | number s m i =>
    obtain ⟨v, hv⟩ : ∃ v, Is e v := ⟨sgn s ((m : Rat) * p2 i), by unfold Is; rw [er]; exact dv_number s m i⟩
    rw [order_is hv zero_i] at h1
    rw [order_is hv one_i] at h2
    refine ⟨v, hv, ?_, ?_⟩
    · by_cases h : v < 0
      · rw [if_pos h] at h1
        cases h1
      · grind
    · by_cases h : v < 1
      · grind
      · rw [if_neg h] at h2
        by_cases h' : v = 1
        · grind
        · rw [if_neg h'] at h2
          cases h2
/-- what is reckoned is a number, and so the same bits. -/
theorem k_is {e : Nat} {v : Rat} {m k : Int} (ie : Is e v) (v1 : 0 ≤ v) (v2 : v ≤ 1) (k1 : k ≤ 1296000000000) (k0 : 0 ≤ k) {r : Nat} (hr : Ev (kE e m k) r) : r = evl (kE e m k) := by
  have hm := nrm_range m
  obtain ⟨s, is, _⟩ := sin_some k
  obtain ⟨M, iM, _⟩ := turn_near (nrm m) (by omega) (by omega) (ev_evl (xE (nrm m)))
  obtain ⟨F, iF, _⟩ := k_near (m := m) ie v1 v2 k1 k0 is iM hr
  rcases hr.same (ev_evl (kE e m k)) with h | ⟨h, _⟩
  · exact h
  · exfalso
    obtain ⟨_, _, _, e1, _⟩ := is_number iF
    unfold Nan at h
    rw [e1] at h
    cases h
theorem bis_step41 (t : Int → Bool) (lo hi : Int) (h1 : 1 < hi - lo) (h2 : hi - lo ≤ 1296000000000) : bis t 41 lo hi = if t ((lo + hi) / 2) then bis t 41 ((lo + hi) / 2) hi else bis t 41 lo ((lo + hi) / 2) := by
  rw [← bis_more t 41 lo hi (by rw [show (2 : Int) ^ 41 = 2199023255552 by decide]; omega)]
  have a2 : bis t (41 + 1) lo hi = if 1 < hi - lo then (if t ((lo + hi) / 2) then bis t 41 ((lo + hi) / 2) hi else bis t 41 lo ((lo + hi) / 2)) else lo := rfl
  rw [a2, if_pos h1]
theorem bis_stop41 (t : Int → Bool) (lo hi : Int) (h : ¬ 1 < hi - lo) : bis t 41 lo hi = lo := by
  have : (41 : Nat) = 40 + 1 := rfl
  rw [this, bis, if_neg h]
def kepA (m : Int) (e : Nat) : Int := if okE e then kepV m e else 0
set_option maxRecDepth 100000 in
set_option maxHeartbeats 8000000 in
theorem keplerOf_any (m : Int) (e : Nat) (w : World) : Calls Tryd.prog 18 #[.int .i64 m, .float .f64 e] w fun x w' => x = .returned (.tuple #[.int .i64 (kepA m e), .int .i64 (if okE e then 0 else 5)]) ∧ Below w.heap.size w w' := by
  unfold kepA
  cases hok : okE e
  · simp only [Bool.false_eq_true, if_false]
    unfold okE ge0 lt1 at hok
    obtain ⟨o1, h1⟩ : ∃ o, FloatKind.f64.format.order e 0 = o := ⟨_, rfl⟩
    obtain ⟨o2, h2⟩ : ∃ o, FloatKind.f64.format.order e 4607182418800017408 = o := ⟨_, rfl⟩
    rw [h1, h2] at hok
    cases hA : (o1 == some .gt || o1 == some .eq)
    · go_enter Tryd.func18, Tryd.ntmps18
      go_wp2
      go_ret2
      exact ⟨rfl, Below.refl _ _⟩
    · rw [hA, Bool.true_and] at hok
      go_enter Tryd.func18, Tryd.ntmps18
      go_wp2
      go_ret2
      exact ⟨rfl, Below.refl _ _⟩
  · simp only [if_true]
    obtain ⟨v, ie, v1, v2⟩ := okE_spec hok
    have HT : HeldR (∀ k : Int, 0 ≤ k → k ≤ 1296000000000 → ∀ mm kk p q r f, FOp .mul (floatOfInt .f64 (nrm m)) radB mm → FOp .mul (floatOfInt .f64 k) radB kk → FOp .mul e (sinV k) p → FOp .sub kk p q → FOp .sub q mm f → r = f → (FloatKind.f64.format.order r 0 == some .lt || FloatKind.f64.format.order r 0 == some .eq) = kepT m e k) := by
      intro k k0 k1 mm kk p q r f h1 h2 h3 h4 h5 hrf
      subst hrf
      have hE : Ev (kE e m k) r := .op (.op (.op (.num _) (.num _) h2) (.op (.num _) (.num _) h3) h4) (.op (.num _) (.num _) h1) h5
      rw [k_is ie v1 v2 k1 k0 hE]
      rfl
    have hbis : bis (kepT m e) 41 0 1296000000000 = kepV m e := rfl
    have hok' := hok
    unfold okE at hok'
    rw [Bool.and_eq_true] at hok'
    obtain ⟨ok1, ok2⟩ := hok'
    unfold ge0 at ok1
    unfold lt1 at ok2
    clear hok ie v1 v2
    have hRr := kepV_range m e
    generalize kepV m e = R at *
    generalize kepT m e = T at *
    have HR := hideR hbis
    clear hbis
    go_enter Tryd.func18, Tryd.ntmps18
    go_wp2_with fail
    refine (normOf_any _ _).mono ?_
    rintro x w1 ⟨rfl, rfl⟩
    go_wp2_with fail
    refine upon_float four_mul ?_
    intro mm nm hmm
    have HM := hideR hmm
    clear hmm
    go_wp2
    go_loopw [9, 10] (fun lo hi wl => ∃ a b : Int, lo = .int .i64 a ∧ hi = .int .i64 b ∧ 0 ≤ a ∧ a < b ∧ b ≤ 1296000000000 ∧ HeldR (bis T 41 a b = R) ∧ HeldR (Below w1.heap.size w1 wl)) (fun lo hi _ => (RowKit.intOf hi - RowKit.intOf lo).toNat)
    case atStart => exact ⟨0, 1296000000000, rfl, rfl, by omega, by omega, by omega, HR, hideR (below_drewN (Below.refl _ _) _)⟩
    case round =>
      obtain ⟨a, b, rfl, rfl, ha, hab, hb, HB, HW⟩ := hrel
      by_cases hgt : 1 < b - a
      · have hst := bis_step41 T a b hgt (by omega)
        rw [unhideR HB] at hst
        have hm1 : a < (a + b) / 2 := by omega
        have hm2 : (a + b) / 2 < b := by omega
        go_wp2_with fail
        refine (sinCos_is _ _).mono ?_
        rintro x w3 ⟨rfl, k3⟩
        have HT2 := hideR (unhideR HT ((a + b) / 2) (by omega) (by omega) mm)
        generalize (a + b) / 2 = mid at *
        have HW3 := hideR (below_go (unhideR HW) k3)
        clear k3
        generalize sinV mid = s at *
        generalize cosV mid = c at *
        go_wp2_with fail
        refine upon_float four_mul ?_
        intro kk n1 h1
        go_wp2_with fail
        refine (less_any _ _ _ _).mono ?_
        rintro x w4 ⟨q, rfl, ⟨p, h2, h3⟩, n2, rfl⟩
        go_wp2_with fail
        refine upon_float four_sub ?_
        intro f n3 h4
        have ht := unhideR HT2 kk p q f f (unhideR HM) h1 h2 h3 h4 rfl
        clear h1 h2 h3 h4 HT2
        cases hT : T mid
        · rw [hT] at ht hst
          simp only [Bool.false_eq_true, if_false] at hst
          have HS := hideR hst.symm
          clear hst
          go_wp2
          exact ⟨⟨a, mid, rfl, rfl, by omega, by omega, by omega, HS, hideR (below_drewN (unhideR HW3) _)⟩, by simp [RowKit.intOf]; omega⟩
        · rw [hT] at ht hst
          simp only [if_true] at hst
          have HS := hideR hst.symm
          clear hst
          go_wp2
          exact ⟨⟨mid, b, rfl, rfl, by omega, by omega, by omega, HS, hideR (below_drewN (unhideR HW3) _)⟩, by simp [RowKit.intOf]; omega⟩
      · have hst := bis_stop41 T a b hgt
        rw [unhideR HB] at hst
        have hst2 : a = R := hst.symm
        clear hst HB
        rw [hst2] at hgt ⊢
        clear hst2
        go_wp2
        go_ret2
        exact ⟨rfl, unhideR HW⟩
end Go.Proofs.YtfamndjiaebmbafDoor
