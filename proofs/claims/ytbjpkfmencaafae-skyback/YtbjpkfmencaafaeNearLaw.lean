/-
  The angle of an angle's point is at most 1 from it.
-/
import Derived.Test.YtbjpkfmencaafaeRepAny
import Derived.Test.YtbjpkfmencaafaeAngOf
namespace Go.Proofs.Ytbjpkfmencaafae
open Go

theorem low_fits : 1 / 2 * rho ≤ 6 / 10 * (rho - xerr) - Ept ∧ 1 / 2 * rho ≤ 7 / 10 - Ept ∧ 1 + Ept ≤ 11 / 10 ∧ 0 < rho ∧ p2 (-40) ≤ 1 / 2 * rho := by decide +kernel
theorem fS_low {x : Rat} (h0 : 0 ≤ x) (h1 : x ≤ 7855 / 10000) : 6 / 10 * x ≤ fS x := by
  have a := sin_rise (x := 0) (y := x) Rat.le_refl h0 h1
  have z : (0 : Rat) * Sz (0 * 0) = 0 := fS_zero
  unfold fS
  grind
theorem rep_low {t : Int} {S C : Rat} (h : Rep t S C) : (0 < t → 1 / 2 * rho ≤ S) ∧ (t < 324000000000 → 1 / 2 * rho ≤ C) ∧ S ≤ 11 / 10 ∧ C ≤ 11 / 10 := by
  obtain ⟨f1, f2, f3, _⟩ := low_fits
  obtain ⟨X, x0, x1, h⟩ := h
  have s := fS_range x0 x1
  have c := fC_range x0 x1
  have l := fS_low x0 x1
  have z0 : ((0 : Int) : Rat) = 0 := rfl
  rcases h with ⟨_, ⟨n1, n2⟩, ⟨s1, s2⟩, ⟨c1, c2⟩⟩ | ⟨_, ⟨n1, n2⟩, ⟨s1, s2⟩, ⟨c1, c2⟩⟩
  · refine ⟨fun ht => ?_, fun _ => by grind, by grind, by grind⟩
    have := int_step ht
    rw [z0] at this
    grind
  · refine ⟨fun _ => by grind, fun ht => ?_, by grind, by grind⟩
    have := int_step (show 0 < 324000000000 - t by omega)
    rw [z0] at this
    grind

/-- a size times a coordinate. -/
theorem coord {zb sb y : Nat} {z S : Rat} {b : Bool} (hz : Is zb z) (hs : Is sb (sgn b S)) (z1 : p2 (-500) ≤ z) (z2 : z ≤ p2 500) (h : S = 0 ∨ 1 / 2 * rho ≤ S) (h1 : S ≤ 11 / 10) (hb : b = true → S ≠ 0) (hy : FOp .mul zb sb y) :
    ∃ U, Is (szB y) U ∧ Near U (z * S) (del * (z * S)) ∧ ltz y = b ∧ finB y = true ∧ (S ≠ 0 → eqz y = false) := by
  obtain ⟨d1, d0, d2⟩ := del_is
  have zp : 0 < z := Std.lt_of_lt_of_le (p2_pos _) z1
  have sp : 0 ≤ S := by
    have := low_fits.2.2.2.1
    rcases h with h | h <;> grind
  have zs := Rat.mul_nonneg (Rat.le_of_lt zp) sp
  have e : z * sgn b S = sgn b (z * S) := by
    cases b
    · rfl
    · show z * -S = -(z * S)
      grind
  have hab : ab (z * sgn b S) = z * S := by rw [e]; exact ab_sgn b _ zs
  have hr : z * sgn b S = 0 ∨ (p2 (-1000) ≤ ab (z * sgn b S) ∧ ab (z * sgn b S) < p2 1000) := by
    rcases h with h | h
    · left; rw [e, h, Rat.mul_zero]; cases b <;> rfl
    · right
      rw [hab]
      have k1 : p2 (-1000) ≤ p2 (-500) * p2 (-40) := by decide +kernel
      have k2 : p2 500 * (11 / 10) < p2 1000 := by decide +kernel
      have k3 := low_fits.2.2.2.2
      have q1 := Rat.mul_nonneg (show 0 ≤ z - p2 (-500) by grind) (show 0 ≤ S - p2 (-40) by grind)
      have q2 := Rat.mul_nonneg (Rat.le_of_lt (p2_pos (-500))) (show 0 ≤ S - p2 (-40) by grind)
      have q3 := Rat.mul_nonneg (show 0 ≤ z - p2 (-500) by grind) (Rat.le_of_lt (p2_pos (-40)))
      have q4 := Rat.mul_nonneg (show 0 ≤ p2 500 - z by grind) sp
      have q5 := Rat.mul_nonneg (Rat.le_of_lt (p2_pos 500)) (show 0 ≤ 11 / 10 - S by grind)
      constructor
      · grind
      · grind
  obtain ⟨Y, y1, y2⟩ := mul_rel hz hs hr hy
  rw [hab, d1, e] at y2
  obtain ⟨n1, n2⟩ := y2
  have hfin : finB y = true := by
    obtain ⟨s', m', i', e', _⟩ := is_number y1
    unfold finB
    rw [e']
  have ho := order_is y1 zero_is
  have hd : del * (z * S) ≤ 1 / 10 * (z * S) := Rat.mul_le_mul_of_nonneg_right d2 zs
  cases b
  · have n1 : Y ≤ z * S + del * (z * S) := n1
    have n2 : z * S ≤ Y + del * (z * S) := n2
    have hl : ltz y = false := by
      unfold ltz
      rw [ho, if_neg (by grind)]
      split <;> rfl
    refine ⟨Y, ?_, ⟨n1, n2⟩, hl, hfin, fun hS => ?_⟩
    · unfold szB; rw [hl]; exact y1
    · have : 0 < z * S := Rat.mul_pos zp (by grind)
      unfold eqz
      rw [ho, if_neg (by grind), if_neg (by grind)]
      rfl
  · have hS := hb rfl
    have hpos : 0 < z * S := Rat.mul_pos zp (by grind)
    have n1 : Y ≤ -(z * S) + del * (z * S) := n1
    have n2 : -(z * S) ≤ Y + del * (z * S) := n2
    have hl : ltz y = true := by
      unfold ltz
      rw [ho, if_pos (by grind)]
      rfl
    refine ⟨-Y, ?_, ⟨by grind, by grind⟩, hl, hfin, fun _ => ?_⟩
    · unfold szB; rw [hl]; exact neg_is y1
    · unfold eqz
      rw [ho, if_pos (by grind)]
      rfl

/-- the test at a whole angle. -/
theorem tst_way {t m : Int} {S C U V z : Rat} {u v : Nat} (hr : Rep t S C) (m1 : 0 ≤ m) (m2 : m ≤ 324000000000) (zp : 0 < z) (z1 : p2 (-500) ≤ z) (z2 : z ≤ p2 500) (s0 : S = 0 ∨ 1 / 2 * rho ≤ S) (c0 : C = 0 ∨ 1 / 2 * rho ≤ C)
    (hu : Is u U) (hU : Near U (z * C) (del * (z * C))) (hv : Is v V) (hV : Near V (z * S) (del * (z * S))) : (t < m → tst u v m = false) ∧ (m < t → tst u v m = true) := by
  obtain ⟨d1, d0, d2⟩ := del_is
  obtain ⟨_, _, _, rp, k3⟩ := low_fits
  obtain ⟨A, K, a1, k1, rm, az, kz⟩ := rep_first m m1 m2
  obtain ⟨la, lk, ua, uk⟩ := rep_low rm
  obtain ⟨_, _, us, uc⟩ := rep_low hr
  have a0 : A = 0 ∨ 1 / 2 * rho ≤ A := by
    rcases (show m = 0 ∨ 0 < m by omega) with h | h
    · exact .inl (az h)
    · exact .inr (la h)
  have k0 : K = 0 ∨ 1 / 2 * rho ≤ K := by
    rcases (show m = 324000000000 ∨ m < 324000000000 by omega) with h | h
    · exact .inl (kz h)
    · exact .inr (lk h)
  have ap : 0 ≤ A := by rcases a0 with h | h <;> grind
  have kp' : 0 ≤ K := by rcases k0 with h | h <;> grind
  have sp : 0 ≤ S := by rcases s0 with h | h <;> grind
  have cp : 0 ≤ C := by rcases c0 with h | h <;> grind
  have key : ∀ {B W D : Rat}, (B = 0 ∨ 1 / 2 * rho ≤ B) → B ≤ 11 / 10 → (D = 0 ∨ 1 / 2 * rho ≤ D) → D ≤ 11 / 10 → Near W (z * D) (del * (z * D)) → 0 ≤ B * W ∧ (B * W = 0 ∨ (p2 (-1000) ≤ ab (B * W) ∧ ab (B * W) < p2 1000)) := by
    intro B W D hB hB1 hD hD1 hW
    obtain ⟨w1, w2⟩ := hW
    have bp : 0 ≤ B := by rcases hB with h | h <;> grind
    have dp : 0 ≤ D := by rcases hD with h | h <;> grind
    have zd := Rat.mul_nonneg (Rat.le_of_lt zp) dp
    have hd : del * (z * D) ≤ 1 / 10 * (z * D) := Rat.mul_le_mul_of_nonneg_right d2 zd
    have wp : 0 ≤ W := by grind
    have bw := Rat.mul_nonneg bp wp
    refine ⟨bw, ?_⟩
    rcases hB with h | h
    · left; rw [h, Rat.zero_mul]
    · rcases hD with h' | h'
      · left
        rw [h', Rat.mul_zero, Rat.mul_zero] at w1 w2
        have : W = 0 := by grind
        rw [this, Rat.mul_zero]
      · right
        have e : ab (B * W) = B * W := by unfold ab; rw [if_pos bw]
        rw [e]
        have j1 : p2 (-1000) ≤ 9 / 10 * (p2 (-500) * p2 (-40)) * p2 (-40) := by decide +kernel
        have j2 : 11 / 10 * (11 / 10 * (p2 500 * (11 / 10))) < p2 1000 := by decide +kernel
        have q1 := Rat.mul_nonneg (show 0 ≤ z - p2 (-500) by grind) (show 0 ≤ D - p2 (-40) by grind)
        have q2 := Rat.mul_nonneg (Rat.le_of_lt (p2_pos (-500))) (show 0 ≤ D - p2 (-40) by grind)
        have q3 := Rat.mul_nonneg (show 0 ≤ z - p2 (-500) by grind) (Rat.le_of_lt (p2_pos (-40)))
        have q4 := Rat.mul_nonneg (show 0 ≤ p2 500 - z by grind) dp
        have q5 := Rat.mul_nonneg (Rat.le_of_lt (p2_pos 500)) (show 0 ≤ 11 / 10 - D by grind)
        have lo : p2 (-500) * p2 (-40) ≤ z * D := by grind
        have hi : z * D ≤ p2 500 * (11 / 10) := by grind
        have w3 : 9 / 10 * (p2 (-500) * p2 (-40)) ≤ W := by grind
        have w4 : W ≤ 11 / 10 * (p2 500 * (11 / 10)) := by grind
        have n0 := Rat.mul_nonneg (Rat.le_of_lt (p2_pos (-500))) (Rat.le_of_lt (p2_pos (-40)))
        have q6 := Rat.mul_nonneg (show 0 ≤ W - 9 / 10 * (p2 (-500) * p2 (-40)) by grind) (show 0 ≤ B - p2 (-40) by grind)
        have q7 := Rat.mul_nonneg (show 0 ≤ 9 / 10 * (p2 (-500) * p2 (-40)) by grind) (show 0 ≤ B - p2 (-40) by grind)
        have q8 := Rat.mul_nonneg (show 0 ≤ W - 9 / 10 * (p2 (-500) * p2 (-40)) by grind) (Rat.le_of_lt (p2_pos (-40)))
        have q9 := Rat.mul_nonneg (show 0 ≤ 11 / 10 - B by grind) wp
        generalize 9 / 10 * (p2 (-500) * p2 (-40)) = lo1 at *
        generalize 11 / 10 * (p2 500 * (11 / 10)) = hi1 at *
        clear q1 q2 q3 q4 q5 lo hi w1 w2 hd zd
        constructor
        · grind
        · grind
  obtain ⟨b1, g1⟩ := key a0 ua c0 uc hU
  obtain ⟨b2, g2⟩ := key k0 uk s0 us hV
  obtain ⟨l, l1, l2⟩ := mul_rel a1 hu g1 (fop_val .mul (sinV m) u)
  obtain ⟨r, r1, r2⟩ := mul_rel k1 hv g2 (fop_val .mul (cosV m) v)
  rw [d1, show ab (A * U) = A * U by unfold ab; rw [if_pos b1]] at l2
  rw [d1, show ab (K * V) = K * V by unfold ab; rw [if_pos b2]] at r2
  obtain ⟨w1, w2⟩ := which zp ap ua cp uc sp us kp' uk l2 hU r2 hV
  have ho := order_is l1 r1
  have ht : tst u v m = leB ((floatBits .mul .f64 (sinV m) u).getD nan0) ((floatBits .mul .f64 (cosV m) v).getD nan0) := rfl
  rw [ht]
  unfold leB
  rw [ho]
  constructor
  · intro h
    have := w1 (rep_gap hr rm h)
    rw [if_neg (by grind), if_neg (by grind)]
    rfl
  · intro h
    have hg := rep_gap rm hr h
    have := w2 (by grind)
    rw [if_pos (by grind)]
    rfl

theorem near_angle (a : Int) {zb y x : Nat} {z : Rat} (hz : Is zb z) (z1 : p2 (-500) ≤ z) (z2 : z ≤ p2 500) (hy : FOp .mul zb (sinV a) y) (hx : FOp .mul zb (cosV a) x) :
    hasV y x = true ∧ apt a (angV y x) ≤ 1 := by
  have zp : 0 < z := Std.lt_of_lt_of_le (p2_pos _) z1
  have rp := low_fits.2.2.2.1
  obtain ⟨t, S, C, bx, bY, hs, hc, hr, t1, t2, sz, cz, ty, tx, hn⟩ := rep_any a
  obtain ⟨ls, lc, us, uc⟩ := rep_low hr
  have s0 : S = 0 ∨ 1 / 2 * rho ≤ S := by
    rcases (show t = 0 ∨ 0 < t by omega) with h | h
    · exact .inl (sz h)
    · exact .inr (ls h)
  have c0 : C = 0 ∨ 1 / 2 * rho ≤ C := by
    rcases (show t = 324000000000 ∨ t < 324000000000 by omega) with h | h
    · exact .inl (cz h)
    · exact .inr (lc h)
  obtain ⟨V, v1, v2, v3, v4, v5⟩ := coord hz hs z1 z2 s0 us (fun h => by have := ls (ty h); grind) hy
  obtain ⟨U, u1, u2, u3, u4, u5⟩ := coord hz hc z1 z2 c0 uc (fun h => by have := lc (tx h); grind) hx
  have hh : hasV y x = true := by
    unfold hasV
    rw [u4, v4]
    rcases (show 0 < t ∨ t < 324000000000 by omega) with h | h
    · have := ls h
      rw [v5 (by grind)]
      simp
    · have := lc h
      rw [u5 (by grind)]
      simp
  refine ⟨hh, ?_⟩
  have e : angV y x = quad (ltz x) (ltz y) (bisV (szB x) (szB y)) := by unfold angV; rw [hh, if_pos rfl]
  rw [e, u3, v3]
  have hw := fun (m : Int) (m1 : 0 ≤ m) (m2 : m ≤ 324000000000) => tst_way hr m1 m2 zp z1 z2 s0 c0 u1 u2 v1 v2
  have hb := bis_end (tst (szB x) (szB y)) 39 0 324000000001 (by omega) (by decide)
  have hbv : bisV (szB x) (szB y) = bis (tst (szB x) (szB y)) 39 0 324000000001 := rfl
  rw [← hbv] at hb
  clear hbv e
  generalize bisV (szB x) (szB y) = R at *
  obtain ⟨b1, b2, b3, b4⟩ := hb
  have r1 : R ≤ t := by
    rcases (show R ≤ t ∨ t < R by omega) with h | h
    · exact h
    · have := (hw R (by omega) (by omega)).1 h
      rcases b3 with b3 | b3
      · omega
      · rw [this] at b3; cases b3
  have r2 : t - 1 ≤ R := by
    rcases (show t - 1 ≤ R ∨ R + 1 < t by omega) with h | h
    · exact h
    · have := (hw (R + 1) (by omega) (by omega)).2 h
      rcases b4 with b4 | b4
      · omega
      · rw [this] at b4; cases b4
  unfold apt
  rw [hn]
  cases bx <;> cases bY <;> simp only [quad, backQ, Bool.and_true, Bool.and_false, Bool.false_eq_true, if_true, if_false] <;> unfold far sgd nrm <;> (repeat' split) <;> omega
end Go.Proofs.Ytbjpkfmencaafae
