/-
  There and back on the sphere: what SkyBack asks but for the walk. No program here but the sines.
-/
import Derived.Test.YtbjpkfmencaafaeSkyNear
import Derived.Test.YtbjpkfmencaafaeUnits
import Derived.Test.YtbjpkfmencaafaeBits1
namespace Go.Proofs.Ytbjpkfmencaafae
open Go

theorem c_fits : 1 / 8 ≤ 6 / 10 * (64800000000 * rho - xerr) - Ept ∧ 1 / 8 ≤ 7 / 10 - Ept ∧ 1 + Ept ≤ 11 / 10 ∧ 0 < rho := by decide +kernel
theorem rep_C {t : Int} {S C : Rat} (h : Rep t S C) (ht : t ≤ 259200000000) : 1 / 8 ≤ C ∧ C ≤ 11 / 10 := by
  obtain ⟨f1, f2, f3, f4⟩ := c_fits
  obtain ⟨X, x0, x1, h⟩ := h
  have s := fS_range x0 x1
  have c := fC_range x0 x1
  have l := fS_low x0 x1
  rcases h with ⟨_, ⟨n1, n2⟩, ⟨s1, s2⟩, ⟨c1, c2⟩⟩ | ⟨_, ⟨n1, n2⟩, ⟨s1, s2⟩, ⟨c1, c2⟩⟩
  · constructor <;> grind
  · have h1 : ((64800000000 : Int) : Rat) ≤ ((324000000000 - t : Int) : Rat) := Rat.intCast_le_intCast.2 (by omega)
    have h2 := Rat.mul_le_mul_of_nonneg_right h1 (Rat.le_of_lt f4)
    have e : ((64800000000 : Int) : Rat) = 64800000000 := rfl
    rw [e] at h2
    constructor <;> grind
theorem quarter {a t : Int} {bx bY : Bool} (h1 : -259200000000 ≤ sgd a) (h2 : sgd a ≤ 259200000000) (t1 : 0 ≤ t) (t2 : t ≤ 324000000000) (hn : nrm a = backQ bx bY t) : bx = false ∧ t ≤ 259200000000 := by
  have hr := nrm_range a
  unfold sgd at h1 h2
  rw [hn] at h1 h2 hr
  unfold backQ at h1 h2 hr
  cases bx <;> cases bY <;> simp at h1 h2 hr ⊢ <;> (repeat' split at h1) <;> (repeat' split at h2) <;> omega
theorem cos_low {a : Int} (h1 : -259200000000 ≤ sgd a) (h2 : sgd a ≤ 259200000000) : ∃ z, Is (cosV a) z ∧ 1 / 8 ≤ z ∧ z ≤ 11 / 10 := by
  obtain ⟨t, S, C, bx, bY, hs, hc, hr, t1, t2, sz, cz, ty, tx, hn⟩ := rep_any a
  obtain ⟨rfl, ht⟩ := quarter h1 h2 t1 t2 hn
  exact ⟨C, hc, rep_C hr ht⟩
theorem circle_two (h : Int) : ∃ S C, Is (sinV h) S ∧ Is (cosV h) C ∧ Near (S * S + C * C) 1 (7 / 9007199254740992) := by
  have hq := qOf_range h
  have hrr := rOf_range h
  obtain ⟨σ, γ, u, v, h1, h2, h3, h4, h5, h6, h7, h8, h9⟩ := point (rOf h) (by omega) hrr.1 (ev_evl (sE (rOf h))) (ev_evl (cE (rOf h)))
  have n1 := neg_is h1
  have n2 := neg_is h2
  have key : Near (u * u + v * v) 1 (7 / 9007199254740992) := by
    obtain ⟨p1, q1⟩ := prod_near h3 h3 h5 h6 h5 h6
    obtain ⟨p2', q2⟩ := prod_near h4 h4 h7 h8 h7 h8
    obtain ⟨p3, q3⟩ := h9
    have hb : De + (Es * (7856 / 10000) + 7856 / 10000 * Es + Es * Es) + (Eo 0 * (1 + eta) + (1 + eta) * Eo 0 + Eo 0 * Eo 0) ≤ 7 / 9007199254740992 := by decide +kernel
    generalize Es * (7856 / 10000) + 7856 / 10000 * Es + Es * Es = x1 at *
    generalize Eo 0 * (1 + eta) + (1 + eta) * Eo 0 + Eo 0 * Eo 0 = x2 at *
    generalize De = x3 at *
    constructor <;> grind
  have hS : sinV h = turnS (qOf h) (evl (sE (rOf h))) (evl (cE (rOf h))) := rfl
  have hC : cosV h = turnC (qOf h) (evl (sE (rOf h))) (evl (cE (rOf h))) := rfl
  have h10 : qOf h % 4 = 0 ∨ qOf h % 4 = 1 ∨ qOf h % 4 = 2 ∨ qOf h % 4 = 3 := by omega
  rw [hS, hC]
  unfold turnS turnC
  unfold Near at key
  rcases h10 with e | e | e | e
  all_goals
    rw [e]
    simp
  · exact ⟨u, h1, v, h2, by unfold Near; exact key⟩
  · exact ⟨v, h2, -u, n1, by unfold Near; grind⟩
  · exact ⟨-u, n1, -v, n2, by unfold Near; grind⟩
  · exact ⟨-v, n2, u, h1, by unfold Near; grind⟩
theorem sqrt_some {t : Nat} {f : Rat} (g : Is t f) (hf : 0 < f) : ∃ v, FloatKind.f64.format.sqrt t = some v := by
  obtain ⟨s, m, i, e1, e2⟩ := is_number g
  unfold Ieee.Format.sqrt
  rw [e1]
  show ∃ v, Option.map _ (if m = 0 then _ else _) = some v
  split
  · exact ⟨_, rfl⟩
  · cases s
    · exact ⟨_, rfl⟩
    · exfalso
      have hnn : 0 ≤ (m : Rat) * p2 i := Rat.mul_nonneg Rat.natCast_nonneg (Rat.le_of_lt (p2_pos _))
      have e2 : f = -((m : Rat) * p2 i) := e2
      grind
def sumE (x y : Nat) : FE := .op .add (.op .mul (.num x) (.num x)) (.op .mul (.num y) (.num y))
/-- the root of the squares of a point's two coordinates is nearly the cosine. -/
theorem root_near {lon : Int} {cb x y t r : Nat} {C : Rat} (hc : Is cb C) (c1 : 1 / 8 ≤ C) (c2 : C ≤ 11 / 10) (hx : FOp .mul cb (cosV lon) x) (hy : FOp .mul cb (sinV lon) y) (ht : Ev (sumE x y) t) (hr : FSq t r) :
    ∃ R, Is r R ∧ 0 < R ∧ Near R C (dem * C) := by
  obtain ⟨s, c, is, ic, n1, n2⟩ := circle_two lon
  have ns := sq_nn s
  have nc := sq_nn c
  have hts : 1000000000000000000000 * tau ≤ 1 := by decide +kernel
  have ht0 := tau_pos
  have hb1 : (1000 : Rat) < p2 900 := by decide +kernel
  have hb2 : p2 900 < p2 990 := by decide +kernel
  have hb3 : p2 990 < p2 1000 := by decide +kernel
  have hlo : p2 (-1000) ≤ 1 / 1000 := by decide +kernel
  have q1 : C * C ≤ 121 / 100 := by
    have g := Rat.mul_le_mul_of_nonneg_left c2 (show 0 ≤ C by grind)
    grind
  have q0 : 1 / 64 ≤ C * C := by
    have g := Rat.mul_le_mul_of_nonneg_left c1 (show 0 ≤ C by grind)
    grind
  have half : ∀ {vb r : Nat} {v : Rat}, Is vb v → v * v ≤ 1001 / 1000 → FOp .mul cb vb r → ∃ X, Is r X ∧ Near (X * X) (C * C * (v * v)) (201 / 100 * (1 / 9007199254740992 * (C * C * (v * v))) + 10 * tau) := by
    intro vb r v iv hv hm
    have e : ab (C * v) * ab (C * v) = C * C * (v * v) := by rw [ab_sq]; grind
    have nv := sq_nn v
    have h3 : C * C * (v * v) ≤ 121 / 100 * (1001 / 1000) := by
      have g1 := Rat.mul_le_mul_of_nonneg_right q1 nv
      have g2 := Rat.mul_le_mul_of_nonneg_left hv (show (0 : Rat) ≤ 121 / 100 by decide +kernel)
      grind
    have h4 : ab (C * v) ≤ 2 := by
      rcases le_or (ab (C * v)) 2 with h' | h'
      · exact h'
      · have g1 := Rat.mul_le_mul_of_nonneg_right h' (ab_nonneg (C * v))
        grind
    have l := le_ab (C * v)
    obtain ⟨X, iX, m1, m2⟩ := mul_le (A := ab (C * v)) hc iv l.1 l.2 (by grind) hm
    refine ⟨X, iX, ?_⟩
    have := sq_err (q := X) (c := C * v) (k := 1 / 9007199254740992) ⟨by grind, by grind⟩ (by decide +kernel) (by decide +kernel) h4
    rw [show C * v * (C * v) = C * C * (v * v) by grind] at this
    exact this
  obtain ⟨X, iX, x1, x2⟩ := half ic (by grind) hx
  obtain ⟨Y, iY, y1, y2⟩ := half is (by grind) hy
  have nX := sq_nn X
  have nY := sq_nn Y
  have w1 := Rat.mul_le_mul_of_nonneg_left n1 (show 0 ≤ C * C by grind)
  have w2 := Rat.mul_le_mul_of_nonneg_left n2 (show 0 ≤ C * C by grind)
  rw [Rat.mul_add, Rat.mul_add] at w1 w2
  generalize hP : C * C * (c * c) = P at *
  generalize hQ : C * C * (s * s) = Q at *
  have np : 0 ≤ P := by rw [← hP]; exact Rat.mul_nonneg (by grind) nc
  have nq : 0 ≤ Q := by rw [← hQ]; exact Rat.mul_nonneg (by grind) ns
  cases ht with | op a1 a2 o1 =>
  cases a1 with | op b1 b2 o2 =>
  cases a2 with | op b3 b4 o3 =>
  cases b1; cases b2; cases b3; cases b4
  generalize hCC : C * C = CC at *
  obtain ⟨f1, i1, g1, g2⟩ := mul_le (A := X * X) iX iX (by grind) (by grind) (by grind) o2
  obtain ⟨f2, i2, g3, g4⟩ := mul_le (A := Y * Y) iY iY (by grind) (by grind) (by grind) o3
  generalize X * X = XX at *
  generalize Y * Y = YY at *
  obtain ⟨f3, i3, g5, g6⟩ := add_le (A := XX + YY + 1 / 1000000000 * CC) i1 i2 (by grind) (by grind) (by grind) o1
  have near : Near f3 CC (12 / 9007199254740992 * CC) := by constructor <;> grind
  obtain ⟨m1, m2⟩ := near
  obtain ⟨v, hv⟩ := sqrt_some i3 (by grind)
  have hr' : r = v := by
    unfold FSq at hr
    rw [hv] at hr
    exact hr
  subst hr'
  obtain ⟨R, iR, R0, z1, z2⟩ := sqrt_gen i3 (by grind) (by grind) hv
  rw [u_is] at z1 z2
  refine ⟨R, iR, R0, ?_⟩
  have k1 : R * R ≤ CC + 16 / 9007199254740992 * CC := by grind
  have k2 : CC ≤ R * R + 16 / 9007199254740992 * CC := by grind
  have ed : dem = 64 / 9007199254740992 := rfl
  rw [ed]
  clear x1 x2 y1 y2 w1 w2 g1 g2 g3 g4 g5 g6 z1 z2 m1 m2 hP hQ
  rw [← hCC] at k1 k2
  constructor
  · rcases lt_or (C + 64 / 9007199254740992 * C) R with h | h
    · exfalso
      have j1 := Rat.mul_le_mul_of_nonneg_right (Rat.le_of_lt h) (Rat.le_of_lt R0)
      have j2 := Rat.mul_le_mul_of_nonneg_left (Rat.le_of_lt h) (show 0 ≤ C + 64 / 9007199254740992 * C by grind)
      grind
    · exact h
  · rcases lt_or R (C - 64 / 9007199254740992 * C) with h | h
    · exfalso
      have j1 := Rat.mul_le_mul_of_nonneg_right (Rat.le_of_lt h) (Rat.le_of_lt R0)
      have j2 := Rat.mul_le_mul_of_nonneg_left (Rat.le_of_lt h) (show 0 ≤ C - 64 / 9007199254740992 * C by grind)
      grind
    · grind
theorem fin_of {x : Nat} {v : Rat} (h : Is x v) : finB x = true := by
  obtain ⟨s, m, i, e, _⟩ := is_number h
  unfold finB
  rw [e]
theorem lat_near {lat lon : Int} {x y t r : Nat} (h1 : -259200000000 ≤ sgd lat) (h2 : sgd lat ≤ 259200000000) (hx : FOp .mul (cosV lat) (cosV lon) x) (hy : FOp .mul (cosV lat) (sinV lon) y) (ht : Ev (sumE x y) t) (hr : FSq t r) :
    hasV (sinV lat) r = true ∧ apt lat (angV (sinV lat) r) ≤ 1 := by
  refine near_angle2 lat (z := 1) (by decide +kernel) (by decide +kernel) ?_
  intro t' S C bx bY hs hc hrep t1 t2 sz cz ty tx hn
  obtain ⟨rfl, ht'⟩ := quarter h1 h2 t1 t2 hn
  have hc : Is (cosV lat) C := hc
  obtain ⟨c1, c2⟩ := rep_C hrep ht'
  obtain ⟨R, iR, R0, nR⟩ := root_near hc c1 c2 hx hy ht hr
  obtain ⟨ls, _, _, _⟩ := rep_low hrep
  have rp := low_fits.2.2.2.1
  have hl : ltz r = false := by
    unfold ltz
    rw [order_is iR zero_is, if_neg (by grind)]
    split <;> rfl
  have he : eqz r = false := by
    unfold eqz
    rw [order_is iR zero_is, if_neg (by grind), if_neg (by grind)]
    rfl
  have d0 := dem_is.1
  have s0 : 0 ≤ S := by
    rcases (show t' = 0 ∨ 0 < t' by omega) with h | h
    · rw [sz h]; exact Rat.le_refl
    · have := ls h; grind
  have nS : Near S (1 * S) (dem * (1 * S)) := by
    have := Rat.mul_nonneg d0 s0
    constructor <;> grind
  have nC : Near R (1 * C) (dem * (1 * C)) := by unfold Near at *; grind
  refine ⟨R, S, by unfold szB; rw [hl]; exact iR, nC, hl, fin_of iR, fun _ => he, ?_⟩
  cases bY
  · have hs : Is (sinV lat) S := hs
    have hl2 : ltz (sinV lat) = false := by
      unfold ltz
      rw [order_is hs zero_is, if_neg (by grind)]
      split <;> rfl
    refine ⟨by unfold szB; rw [hl2]; exact hs, nS, hl2, fin_of hs, fun hS => ?_⟩
    unfold eqz
    rw [order_is hs zero_is, if_neg (by grind), if_neg hS]
    rfl
  · have hs : Is (sinV lat) (-S) := hs
    have hpos := ls (ty rfl)
    have hl2 : ltz (sinV lat) = true := by
      unfold ltz
      rw [order_is hs zero_is, if_pos (by grind)]
      rfl
    have hn2 := neg_is hs
    rw [show -(-S) = S by grind] at hn2
    refine ⟨by unfold szB; rw [hl2]; exact hn2, nS, hl2, fin_of hs, fun _ => ?_⟩
    unfold eqz
    rw [order_is hs zero_is, if_pos (by grind)]
    rfl
theorem lon_near {lat lon : Int} {x y : Nat} (h1 : -259200000000 ≤ sgd lat) (h2 : sgd lat ≤ 259200000000) (hx : FOp .mul (cosV lat) (cosV lon) x) (hy : FOp .mul (cosV lat) (sinV lon) y) : hasV y x = true ∧ apt lon (angV y x) ≤ 1 := by
  obtain ⟨z, hz, z1, z2⟩ := cos_low h1 h2
  have a1 : p2 (-500) ≤ 1 / 8 := by decide +kernel
  have a2 : (11 / 10 : Rat) ≤ p2 500 := by decide +kernel
  exact near_angle lon hz (by grind) (by grind) hy hx
end Go.Proofs.Ytbjpkfmencaafae
