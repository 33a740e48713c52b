/-
  The angle of a point that is nearly an angle's point: at most 1 from it. (For the sky: NearLaw with errors of 64 units in the last place.)
-/
import Derived.Test.YtbjpkfmencaafaeNearLaw
namespace Go.Proofs.Ytbjpkfmencaafae
open Go

def dem : Rat := 64 / 9007199254740992
theorem dem_is : 0 ≤ dem ∧ dem ≤ 1 / 10 ∧ del ≤ dem := by decide +kernel
theorem twice2 {l a U z c : Rat} (ha : 0 ≤ a) (hz : 0 ≤ z) (hc : 0 ≤ c) (hl : Near l (a * U) (del * (a * U))) (hU : Near U (z * c) (dem * (z * c))) :
    z * (a * c) - 2 * dem * (z * (a * c)) ≤ l ∧ l ≤ z * (a * c) + 3 * dem * (z * (a * c)) := by
  obtain ⟨d0, d1, dd⟩ := dem_is
  obtain ⟨_, e0, _⟩ := del_is
  obtain ⟨l1, l2⟩ := hl
  obtain ⟨u1, u2⟩ := hU
  have zc := Rat.mul_nonneg hz hc
  have q1 := Rat.mul_nonneg ha (show 0 ≤ U - (z * c - dem * (z * c)) by grind)
  have q2 := Rat.mul_nonneg ha (show 0 ≤ z * c + dem * (z * c) - U by grind)
  have q3 := Rat.mul_nonneg ha zc
  have e1 : a * (z * c) = z * (a * c) := by grind
  have e2 : a * (U - (z * c - dem * (z * c))) = a * U - (a * (z * c) - dem * (a * (z * c))) := by grind
  have e3 : a * (z * c + dem * (z * c) - U) = a * (z * c) + dem * (a * (z * c)) - a * U := by grind
  rw [e2] at q1
  rw [e3] at q2
  rw [e1] at q1 q2 q3
  generalize z * (a * c) = P at *
  generalize a * U = V at *
  clear u1 u2 zc e1 e2 e3
  have v0 : 0 ≤ V := by
    have := Rat.mul_le_mul_of_nonneg_right d1 q3
    grind
  have m1 := Rat.mul_le_mul_of_nonneg_right dd v0
  have s1 := Rat.mul_nonneg (show 0 ≤ 1 - dem by grind) q1
  have s2 := Rat.mul_nonneg (show 0 ≤ 1 + dem by grind) q2
  have s3 := Rat.mul_nonneg (Rat.mul_nonneg d0 d0) q3
  have s4 := Rat.mul_nonneg (Rat.mul_nonneg d0 (show 0 ≤ 1 - dem by grind)) q3
  constructor <;> grind
theorem turn_fits2 : 0 < 15 / 10000000000000 - 3 * dem * 2 - 3 * dem * 2 := by decide +kernel
theorem which2 {l r a U c W z s k : Rat} (hz : 0 < z) (ha : 0 ≤ a) (ha1 : a ≤ 11 / 10) (hc : 0 ≤ c) (hc1 : c ≤ 11 / 10) (hs : 0 ≤ s) (hs1 : s ≤ 11 / 10) (hk : 0 ≤ k) (hk1 : k ≤ 11 / 10)
    (hl : Near l (a * U) (del * (a * U))) (hU : Near U (z * c) (dem * (z * c))) (hr : Near r (k * W) (del * (k * W))) (hW : Near W (z * s) (dem * (z * s))) :
    (15 / 10000000000000 ≤ a * c - k * s → r < l) ∧ (15 / 10000000000000 ≤ k * s - a * c → l < r) := by
  obtain ⟨l1, l2⟩ := twice2 ha (Rat.le_of_lt hz) hc hl hU
  obtain ⟨r1, r2⟩ := twice2 hk (Rat.le_of_lt hz) hs hr hW
  have hp := (prod_abs ha1 (show -(11 / 10) ≤ a by grind) hc1 (show -(11 / 10) ≤ c by grind)).1
  have hq := (prod_abs hk1 (show -(11 / 10) ≤ k by grind) hs1 (show -(11 / 10) ≤ s by grind)).1
  have p0 := Rat.mul_nonneg ha hc
  have q0 := Rat.mul_nonneg hk hs
  generalize a * c = P at *
  generalize k * s = R at *
  have tf := turn_fits2
  obtain ⟨d0, _, _⟩ := dem_is
  have m1 := Rat.mul_nonneg d0 (show 0 ≤ 2 - P by grind)
  have m2 := Rat.mul_nonneg d0 (show 0 ≤ 2 - R by grind)
  have m3 := Rat.mul_nonneg d0 p0
  have m4 := Rat.mul_nonneg d0 q0
  constructor
  · intro h
    have hh : 0 < P - R - 2 * dem * P - 3 * dem * R := by grind
    have := Rat.mul_pos hz hh
    grind
  · intro h
    have hh : 0 < R - P - 2 * dem * R - 3 * dem * P := by grind
    have := Rat.mul_pos hz hh
    grind
/-- the test at a whole angle. -/
theorem tst_way2 {t m : Int} {S C U V z : Rat} {u v : Nat} (hr : Rep t S C) (m1 : 0 ≤ m) (m2 : m ≤ 324000000000) (zp : 0 < z) (z1 : p2 (-500) ≤ z) (z2 : z ≤ p2 500) (s0 : S = 0 ∨ 1 / 2 * rho ≤ S) (c0 : C = 0 ∨ 1 / 2 * rho ≤ C)
    (hu : Is u U) (hU : Near U (z * C) (dem * (z * C))) (hv : Is v V) (hV : Near V (z * S) (dem * (z * S))) : (t < m → tst u v m = false) ∧ (m < t → tst u v m = true) := by
  obtain ⟨d1, _, _⟩ := del_is
  obtain ⟨d0, d2, _⟩ := dem_is
  obtain ⟨_, _, _, rp, k3⟩ := low_fits
  obtain ⟨A, K, a1, k1, rm, az, kz⟩ := rep_first m m1 m2
  obtain ⟨la, lk, ua, uk⟩ := rep_low rm
  obtain ⟨_, _, us, uc⟩ := rep_low hr
  have a0 : A = 0 ∨ 1 / 2 * rho ≤ A := by
    rcases (show m = 0 ∨ 0 < m by omega) with h | h
    · exact .inl (az h)
    · exact .inr (la h)
  have k0 : K = 0 ∨ 1 / 2 * rho ≤ K := by
    rcases (show m = 324000000000 ∨ m < 324000000000 by omega) with h | h
    · exact .inl (kz h)
    · exact .inr (lk h)
  have ap : 0 ≤ A := by rcases a0 with h | h <;> grind
  have kp' : 0 ≤ K := by rcases k0 with h | h <;> grind
  have sp : 0 ≤ S := by rcases s0 with h | h <;> grind
  have cp : 0 ≤ C := by rcases c0 with h | h <;> grind
  have key : ∀ {B W D : Rat}, (B = 0 ∨ 1 / 2 * rho ≤ B) → B ≤ 11 / 10 → (D = 0 ∨ 1 / 2 * rho ≤ D) → D ≤ 11 / 10 → Near W (z * D) (dem * (z * D)) → 0 ≤ B * W ∧ (B * W = 0 ∨ (p2 (-1000) ≤ ab (B * W) ∧ ab (B * W) < p2 1000)) := by
    intro B W D hB hB1 hD hD1 hW
    obtain ⟨w1, w2⟩ := hW
    have bp : 0 ≤ B := by rcases hB with h | h <;> grind
    have dp : 0 ≤ D := by rcases hD with h | h <;> grind
    have zd := Rat.mul_nonneg (Rat.le_of_lt zp) dp
    have hd : dem * (z * D) ≤ 1 / 10 * (z * D) := Rat.mul_le_mul_of_nonneg_right d2 zd
    have wp : 0 ≤ W := by grind
    have bw := Rat.mul_nonneg bp wp
    refine ⟨bw, ?_⟩
    rcases hB with h | h
    · left; rw [h, Rat.zero_mul]
    · rcases hD with h' | h'
      · left
        rw [h', Rat.mul_zero, Rat.mul_zero] at w1 w2
        have : W = 0 := by grind
        rw [this, Rat.mul_zero]
      · right
        have e : ab (B * W) = B * W := by unfold ab; rw [if_pos bw]
        rw [e]
        have j1 : p2 (-1000) ≤ 9 / 10 * (p2 (-500) * p2 (-40)) * p2 (-40) := by decide +kernel
        have j2 : 11 / 10 * (11 / 10 * (p2 500 * (11 / 10))) < p2 1000 := by decide +kernel
        have q1 := Rat.mul_nonneg (show 0 ≤ z - p2 (-500) by grind) (show 0 ≤ D - p2 (-40) by grind)
        have q2 := Rat.mul_nonneg (Rat.le_of_lt (p2_pos (-500))) (show 0 ≤ D - p2 (-40) by grind)
        have q3 := Rat.mul_nonneg (show 0 ≤ z - p2 (-500) by grind) (Rat.le_of_lt (p2_pos (-40)))
        have q4 := Rat.mul_nonneg (show 0 ≤ p2 500 - z by grind) dp
        have q5 := Rat.mul_nonneg (Rat.le_of_lt (p2_pos 500)) (show 0 ≤ 11 / 10 - D by grind)
        have lo : p2 (-500) * p2 (-40) ≤ z * D := by grind
        have hi : z * D ≤ p2 500 * (11 / 10) := by grind
        have w3 : 9 / 10 * (p2 (-500) * p2 (-40)) ≤ W := by grind
        have w4 : W ≤ 11 / 10 * (p2 500 * (11 / 10)) := by grind
        have n0 := Rat.mul_nonneg (Rat.le_of_lt (p2_pos (-500))) (Rat.le_of_lt (p2_pos (-40)))
        have q6 := Rat.mul_nonneg (show 0 ≤ W - 9 / 10 * (p2 (-500) * p2 (-40)) by grind) (show 0 ≤ B - p2 (-40) by grind)
        have q7 := Rat.mul_nonneg (show 0 ≤ 9 / 10 * (p2 (-500) * p2 (-40)) by grind) (show 0 ≤ B - p2 (-40) by grind)
        have q8 := Rat.mul_nonneg (show 0 ≤ W - 9 / 10 * (p2 (-500) * p2 (-40)) by grind) (Rat.le_of_lt (p2_pos (-40)))
        have q9 := Rat.mul_nonneg (show 0 ≤ 11 / 10 - B by grind) wp
        generalize 9 / 10 * (p2 (-500) * p2 (-40)) = lo1 at *
        generalize 11 / 10 * (p2 500 * (11 / 10)) = hi1 at *
        clear q1 q2 q3 q4 q5 lo hi w1 w2 hd zd
        constructor
        · grind
        · grind
  obtain ⟨b1, g1⟩ := key a0 ua c0 uc hU
  obtain ⟨b2, g2⟩ := key k0 uk s0 us hV
  obtain ⟨l, l1, l2⟩ := mul_rel a1 hu g1 (fop_val .mul (sinV m) u)
  obtain ⟨r, r1, r2⟩ := mul_rel k1 hv g2 (fop_val .mul (cosV m) v)
  rw [d1, show ab (A * U) = A * U by unfold ab; rw [if_pos b1]] at l2
  rw [d1, show ab (K * V) = K * V by unfold ab; rw [if_pos b2]] at r2
  obtain ⟨w1, w2⟩ := which2 zp ap ua cp uc sp us kp' uk l2 hU r2 hV
  have ho := order_is l1 r1
  have ht : tst u v m = leB ((floatBits .mul .f64 (sinV m) u).getD nan0) ((floatBits .mul .f64 (cosV m) v).getD nan0) := rfl
  rw [ht]
  unfold leB
  rw [ho]
  constructor
  · intro h
    have := w1 (rep_gap hr rm h)
    rw [if_neg (by grind), if_neg (by grind)]
    rfl
  · intro h
    have hg := rep_gap rm hr h
    have := w2 (by grind)
    rw [if_pos (by grind)]
    rfl

theorem near_angle2 (a : Int) {y x : Nat} {z : Rat} (z1 : p2 (-500) ≤ z) (z2 : z ≤ p2 500)
    (h : ∀ t S C bx bY, Is (sinV a) (sgn bY S) → Is (cosV a) (sgn bx C) → Rep t S C → 0 ≤ t → t ≤ 324000000000 → (t = 0 → S = 0) → (t = 324000000000 → C = 0) → (bY = true → 0 < t) → (bx = true → t < 324000000000) → nrm a = backQ bx bY t → ∃ U V, Is (szB x) U ∧ Near U (z * C) (dem * (z * C)) ∧ ltz x = bx ∧ finB x = true ∧ (C ≠ 0 → eqz x = false) ∧ Is (szB y) V ∧ Near V (z * S) (dem * (z * S)) ∧ ltz y = bY ∧ finB y = true ∧ (S ≠ 0 → eqz y = false)) :
    hasV y x = true ∧ apt a (angV y x) ≤ 1 := by
  have zp : 0 < z := Std.lt_of_lt_of_le (p2_pos _) z1
  have rp := low_fits.2.2.2.1
  obtain ⟨t, S, C, bx, bY, hs, hc, hr, t1, t2, sz, cz, ty, tx, hn⟩ := rep_any a
  obtain ⟨ls, lc, us, uc⟩ := rep_low hr
  have s0 : S = 0 ∨ 1 / 2 * rho ≤ S := by
    rcases (show t = 0 ∨ 0 < t by omega) with h | h
    · exact .inl (sz h)
    · exact .inr (ls h)
  have c0 : C = 0 ∨ 1 / 2 * rho ≤ C := by
    rcases (show t = 324000000000 ∨ t < 324000000000 by omega) with h | h
    · exact .inl (cz h)
    · exact .inr (lc h)
  obtain ⟨U, V, u1, u2, u3, u4, u5, v1, v2, v3, v4, v5⟩ := h t S C bx bY hs hc hr t1 t2 sz cz ty tx hn
  have hh : hasV y x = true := by
    unfold hasV
    rw [u4, v4]
    rcases (show 0 < t ∨ t < 324000000000 by omega) with h | h
    · have := ls h
      rw [v5 (by grind)]
      simp
    · have := lc h
      rw [u5 (by grind)]
      simp
  refine ⟨hh, ?_⟩
  have e : angV y x = quad (ltz x) (ltz y) (bisV (szB x) (szB y)) := by unfold angV; rw [hh, if_pos rfl]
  rw [e, u3, v3]
  have hw := fun (m : Int) (m1 : 0 ≤ m) (m2 : m ≤ 324000000000) => tst_way2 hr m1 m2 zp z1 z2 s0 c0 u1 u2 v1 v2
  have hb := bis_end (tst (szB x) (szB y)) 39 0 324000000001 (by omega) (by decide)
  have hbv : bisV (szB x) (szB y) = bis (tst (szB x) (szB y)) 39 0 324000000001 := rfl
  rw [← hbv] at hb
  clear hbv e
  generalize bisV (szB x) (szB y) = R at *
  obtain ⟨b1, b2, b3, b4⟩ := hb
  have r1 : R ≤ t := by
    rcases (show R ≤ t ∨ t < R by omega) with h | h
    · exact h
    · have := (hw R (by omega) (by omega)).1 h
      rcases b3 with b3 | b3
      · omega
      · rw [this] at b3; cases b3
  have r2 : t - 1 ≤ R := by
    rcases (show t - 1 ≤ R ∨ R + 1 < t by omega) with h | h
    · exact h
    · have := (hw (R + 1) (by omega) (by omega)).2 h
      rcases b4 with b4 | b4
      · omega
      · rw [this] at b4; cases b4
  unfold apt
  rw [hn]
  cases bx <;> cases bY <;> simp only [quad, backQ, Bool.and_true, Bool.and_false, Bool.false_eq_true, if_true, if_false] <;> unfold far sgd nrm <;> (repeat' split) <;> omega
end Go.Proofs.Ytbjpkfmencaafae
