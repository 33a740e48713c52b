/-
  How good a rotation is: from the numbers' values to the tests. No program here.
-/
import Derived.Test.YtbobnmaeiohnnadMild
import Derived.Test.YtbobnmaeiohnnadSpin9
namespace Go.Proofs.Ytbobnmaeiohnnad
open Go Go.RowKit

theorem mild_sq {v : Rat} (h : Mild v) : v * v ≤ p2 600 ∧ (v = 0 ∨ p2 (-600) ≤ v * v) := by
  have e := ab_sq v
  have hn := ab_nonneg v
  have q1 : p2 300 * p2 300 = p2 600 := by decide +kernel
  have q2 : p2 (-300) * p2 (-300) = p2 (-600) := by decide +kernel
  have q3 : (0 : Rat) ≤ p2 600 := by decide +kernel
  rcases h with rfl | ⟨h1, h2⟩
  · exact ⟨by rw [Rat.zero_mul]; exact q3, .inl rfl⟩
  · have g1 := Rat.mul_le_mul_of_nonneg_right h2 hn
    have g2 := Rat.mul_le_mul_of_nonneg_left h2 (Rat.le_of_lt (p2_pos 300))
    have g3 := Rat.mul_le_mul_of_nonneg_right h1 hn
    have g4 := Rat.mul_le_mul_of_nonneg_left h1 (Rat.le_of_lt (p2_pos (-300)))
    refine ⟨by grind, .inr (by grind)⟩
theorem fsq_of {t r : Nat} (h : FSq t r) : ∀ v, FloatKind.f64.format.sqrt t = some v → r = v := fun v hv => by
  unfold FSq at h
  rw [hv] at h
  exact h
/-- four numbers of size 1, nearly. -/
structure One4 (w x y z : Nat) (W X Y Z : Rat) : Prop where
  w : Is w W
  x : Is x X
  y : Is y Y
  z : Is z Z
  n : Near (X * X + Y * Y + Z * Z + W * W) 1 (19 / 9007199254740992)
theorem unit_one {a b c d r0 r1 r2 r3 : Nat} {A B C D : Rat} (ia : Is a A) (ib : Is b B) (ic : Is c C) (id : Is d D) (ma : Mild A) (mb : Mild B) (mc : Mild C) (md : Mild D)
    (h : UnitIs a b c d (.returned (.tuple #[.agg #[.float .f64 r0, .float .f64 r1, .float .f64 r2, .float .f64 r3], .bool true]))) : ∃ W X Y Z, One4 r0 r1 r2 r3 W X Y Z := by
  obtain ⟨r, t, ht, hr, h⟩ := h
  rcases h with ⟨h0, p, q, s, u, e, k0, k1, k2, k3⟩ | ⟨_, e⟩
  · simp only [Ending.returned.injEq, Value.tuple.injEq, Array.mk.injEq, List.cons.injEq, Value.agg.injEq, Value.float.injEq, and_true, true_and] at e
    obtain ⟨rfl, rfl, rfl, rfl⟩ := e
    have sa := mild_sq ma
    have sb := mild_sq mb
    have sc := mild_sq mc
    have sd := mild_sq md
    have na := sq_nn A
    have nb := sq_nn B
    have nc := sq_nn C
    have nd := sq_nn D
    have hbig : 4 * p2 600 ≤ p2 900 := by decide +kernel
    have hsm : p2 (-900) ≤ p2 (-600) := by decide +kernel
    by_cases hz : A = 0 ∧ B = 0 ∧ C = 0 ∧ D = 0
    · exfalso
      obtain ⟨rfl, rfl, rfl, rfl⟩ := hz
      cases ht with | op h1 h2 o1 =>
      cases h1 with | op h3 h4 o2 =>
      cases h3 with | op h5 h6 o3 =>
      cases h5 with | op a1 a2 o4 =>
      cases h6 with | op a3 a4 o5 =>
      cases h4 with | op a5 a6 o6 =>
      cases h2 with | op a7 a8 o7 =>
      cases a1; cases a2; cases a3; cases a4; cases a5; cases a6; cases a7; cases a8
      have := (sq_zero (add_zero2 (add_zero2 (add_zero2 (mul_zero_l ia ia o4) (mul_zero_l ib ib o5) o3) (mul_zero_l ic ic o6) o2) (mul_zero_l id id o7) o1) hr).2
      rw [h0] at this
      cases this
    · have hV : p2 (-900) ≤ A * A + B * B + C * C + D * D := by grind
      obtain ⟨b0, b1, b2, b3, i0, i1, i2, i3, n⟩ := unit_gen ia ib ic id rfl hV (by grind) ht (fsq_of hr) k0 k1 k2 k3
      exact ⟨b0, b1, b2, b3, i0, i1, i2, i3, by unfold Near at *; grind⟩
  · simp at e
theorem circle_one (h : Int) : ∃ S C, Is (sinV h) S ∧ Is (cosV h) C ∧ Near (S * S + C * C) 1 (7 / 9007199254740992) := by
  have hq := qOf_range h
  have hrr := rOf_range h
  obtain ⟨σ, γ, u, v, h1, h2, h3, h4, h5, h6, h7, h8, h9⟩ := point (rOf h) (by omega) hrr.1 (ev_evl (sE (rOf h))) (ev_evl (cE (rOf h)))
  have n1 := neg_is h1
  have n2 := neg_is h2
  have key : Near (u * u + v * v) 1 (7 / 9007199254740992) := by
    obtain ⟨p1, q1⟩ := prod_near h3 h3 h5 h6 h5 h6
    obtain ⟨p2', q2⟩ := prod_near h4 h4 h7 h8 h7 h8
    obtain ⟨p3, q3⟩ := h9
    have hb : De + (Es * (7856 / 10000) + 7856 / 10000 * Es + Es * Es) + (Eo 0 * (1 + eta) + (1 + eta) * Eo 0 + Eo 0 * Eo 0) ≤ 7 / 9007199254740992 := by decide +kernel
    generalize Es * (7856 / 10000) + 7856 / 10000 * Es + Es * Es = x1 at *
    generalize Eo 0 * (1 + eta) + (1 + eta) * Eo 0 + Eo 0 * Eo 0 = x2 at *
    generalize De = x3 at *
    constructor <;> grind
  have hS : sinV h = turnS (qOf h) (evl (sE (rOf h))) (evl (cE (rOf h))) := rfl
  have hC : cosV h = turnC (qOf h) (evl (sE (rOf h))) (evl (cE (rOf h))) := rfl
  have h10 : qOf h % 4 = 0 ∨ qOf h % 4 = 1 ∨ qOf h % 4 = 2 ∨ qOf h % 4 = 3 := by omega
  rw [hS, hC]
  unfold turnS turnC
  unfold Near at key
  rcases h10 with e | e | e | e
  all_goals
    rw [e]
    simp
  · exact ⟨u, h1, v, h2, by unfold Near; exact key⟩
  · exact ⟨v, h2, -u, n1, by unfold Near; grind⟩
  · exact ⟨-u, n1, -v, n2, by unfold Near; grind⟩
  · exact ⟨-v, n2, u, h1, by unfold Near; grind⟩
theorem about_one {x y z r0 r1 r2 r3 : Nat} {h : Int} {A B C : Rat} (ia : Is x A) (ib : Is y B) (ic : Is z C) (ma : Mild A) (mb : Mild B) (mc : Mild C)
    (k : AboutIs x y z h (.returned (.tuple #[.agg #[.float .f64 r0, .float .f64 r1, .float .f64 r2, .float .f64 r3], .bool true]))) : ∃ W X Y Z, One4 r0 r1 r2 r3 W X Y Z := by
  obtain ⟨r, t, ht, hr, k⟩ := k
  rcases k with ⟨h0, p, q, s, g0, g1, g2, e, k0, k1, k2, m0, m1, m2⟩ | ⟨_, e⟩
  · simp only [Ending.returned.injEq, Value.tuple.injEq, Array.mk.injEq, List.cons.injEq, Value.agg.injEq, Value.float.injEq, and_true, true_and] at e
    obtain ⟨rfl, rfl, rfl, rfl⟩ := e
    have sa := mild_sq ma
    have sb := mild_sq mb
    have sc := mild_sq mc
    have na := sq_nn A
    have nb := sq_nn B
    have nc := sq_nn C
    have hbig : 4 * p2 600 ≤ p2 900 := by decide +kernel
    have hsm : p2 (-900) ≤ p2 (-600) := by decide +kernel
    have hb0 := p2_pos 600
    by_cases hz : A = 0 ∧ B = 0 ∧ C = 0
    · exfalso
      obtain ⟨rfl, rfl, rfl⟩ := hz
      cases ht with | op h1 h2 o1 =>
      cases h1 with | op h3 h4 o2 =>
      cases h3 with | op a1 a2 o4 =>
      cases h4 with | op a3 a4 o5 =>
      cases h2 with | op a5 a6 o6 =>
      cases a1; cases a2; cases a3; cases a4; cases a5; cases a6
      have := (sq_zero (add_zero2 (add_zero2 (mul_zero_l ia ia o4) (mul_zero_l ib ib o5) o2) (mul_zero_l ic ic o6) o1) hr).2
      rw [h0] at this
      cases this
    · have hV : p2 (-900) ≤ A * A + B * B + C * C := by grind
      obtain ⟨S, Co, iS, iC, nS⟩ := circle_one h
      obtain ⟨b1, b2, b3, i1, i2, i3, n⟩ := about_gen ia ib ic rfl hV (by grind) ht (fsq_of hr) k0 k1 k2 iS iC nS m0 m1 m2
      exact ⟨Co, b1, b2, b3, iC, i1, i2, i3, by unfold Near at *; grind⟩
  · simp at e
/-- the matrix' numbers by their values. -/
structure MatIs (x0 x1 x2 x3 x4 x5 x6 x7 x8 : Nat) (a1 a2 a3 b1 b2 b3 c1 c2 c3 X Y Z W : Rat) : Prop where
  i0 : Is x0 a1
  i1 : Is x1 a2
  i2 : Is x2 a3
  i3 : Is x3 b1
  i4 : Is x4 b2
  i5 : Is x5 b3
  i6 : Is x6 c1
  i7 : Is x7 c2
  i8 : Is x8 c3
  m : Mat a1 a2 a3 b1 b2 b3 c1 c2 c3 X Y Z W
theorem mat_of {w x y z x0 x1 x2 x3 x4 x5 x6 x7 x8 : Nat} {W X Y Z : Rat} (h : One4 w x y z W X Y Z) (k : Made (RowRel w x y z) 3 x0 x1 x2 x3 x4 x5 x6 x7 x8) :
    ∃ a1 a2 a3 b1 b2 b3 c1 c2 c3, MatIs x0 x1 x2 x3 x4 x5 x6 x7 x8 a1 a2 a3 b1 b2 b3 c1 c2 c3 X Y Z W := by
  obtain ⟨e0, e1, e2⟩ := (k.a (by omega)).1 rfl
  obtain ⟨e3, e4, e5⟩ := (k.b (by omega)).2.1 rfl
  obtain ⟨e6, e7, e8⟩ := (k.c (by omega)).2.2 rfl
  have nx := sq_nn X
  have ny := sq_nn Y
  have nz := sq_nn Z
  have nw := sq_nn W
  have hn := h.n.1
  obtain ⟨a1, i0, m0⟩ := diag_gen h.y h.z (by grind) e0
  obtain ⟨a2, i1, m1⟩ := low_gen h.x h.y h.w h.z (by grind) e1
  obtain ⟨a3, i2, m2⟩ := upp_gen h.x h.y h.w h.z (by grind) e2
  obtain ⟨b1, i3, m3⟩ := upp_gen h.y h.z h.w h.x (by grind) e3
  obtain ⟨b2, i4, m4⟩ := diag_gen h.z h.x (by grind) e4
  obtain ⟨b3, i5, m5⟩ := low_gen h.y h.z h.w h.x (by grind) e5
  obtain ⟨c1, i6, m6⟩ := low_gen h.z h.x h.w h.y (by grind) e6
  obtain ⟨c2, i7, m7⟩ := upp_gen h.z h.x h.w h.y (by grind) e7
  obtain ⟨c3, i8, m8⟩ := diag_gen h.x h.y (by grind) e8
  exact ⟨a1, a2, a3, b1, b2, b3, c1, c2, c3, i0, i1, i2, i3, i4, i5, i6, i7, i8, ⟨m0, m1, m2⟩, ⟨m4, m5, m3⟩, ⟨m8, m6, m7⟩, h.n⟩
def nUnit : Nat := 4400016835940974592
theorem nUnit_is : Is nUnit (128 / 9007199254740992) := by unfold Is; decide +kernel
/-- two rows' product is small. -/
theorem dot_small {x1 x2 x3 y1 y2 y3 r : Nat} {a1 a2 a3 b1 b2 b3 : Rat} (i1 : Is x1 a1) (i2 : Is x2 a2) (i3 : Is x3 a3) (j1 : Is y1 b1) (j2 : Is y2 b2) (j3 : Is y3 b3)
    (na : a1 * a1 + a2 * a2 + a3 * a3 ≤ 1001 / 1000) (nb : b1 * b1 + b2 * b2 + b3 * b3 ≤ 1001 / 1000) (hd : Near (a1 * b1 + a2 * b2 + a3 * b3) 0 (67 / 9007199254740992)) (hr : Ev (dtE x1 x2 x3 y1 y2 y3) r) : wiB r nUnit = true := by
  have g1 := amgm a1 b1
  have g2 := amgm a2 b2
  have g3 := amgm a3 b3
  have hbig : (10 : Rat) ≤ p2 900 := by decide +kernel
  have hts : 1000000000000000000000 * tau ≤ 1 := by decide +kernel
  have ht0 := tau_pos
  obtain ⟨t, ht, p, q⟩ := dot_gen i1 i2 i3 j1 j2 j3 g1.1 g1.2 g2.1 g2.2 g3.1 g3.2 (by grind) hr
  obtain ⟨d1, d2⟩ := hd
  refine wi_of ht nUnit_is ?_ ?_ <;> grind
theorem near_one {T : Rat} (T0 : 0 < T) (h : Near (T * T) 1 (112 / 9007199254740992)) : Near T 1 (57 / 9007199254740992) := by
  obtain ⟨h1, h2⟩ := h
  constructor
  · rcases lt_or (1 + 57 / 9007199254740992) T with h | h
    · have g := Rat.mul_le_mul_of_nonneg_left (Rat.le_of_lt h) (Rat.le_of_lt T0)
      grind
    · exact h
  · rcases lt_or T (1 - 57 / 9007199254740992) with h | h
    · have g := Rat.mul_le_mul_of_nonneg_left (Rat.le_of_lt h) (Rat.le_of_lt T0)
      grind
    · grind
/-- a row's length is nearly 1. -/
theorem len_one {x1 x2 x3 t r s : Nat} {a1 a2 a3 : Rat} (i1 : Is x1 a1) (i2 : Is x2 a2) (i3 : Is x3 a3) (n : Near (a1 * a1 + a2 * a2 + a3 * a3) 1 (105 / 9007199254740992)) (ht : Ev (lenE x1 x2 x3) t) (hr : FSq t r) (hs : FOp .sub r 4607182418800017408 s) : wiB s nUnit = true := by
  have hlo : p2 (-900) ≤ 1 / 2 := by decide +kernel
  have hhi : (2 : Rat) ≤ p2 900 := by decide +kernel
  have hb : (1 : Rat) < p2 1000 := by decide +kernel
  have hts : 1000000000000000000000 * tau ≤ 1 := by decide +kernel
  have ht0 := tau_pos
  obtain ⟨n1, n2⟩ := n
  obtain ⟨T, iT, T0, w1, w2⟩ := len_gen i1 i2 i3 rfl (by grind) (by grind) ht (fsq_of hr)
  obtain ⟨o1, o2⟩ := near_one T0 ⟨by grind, by grind⟩
  obtain ⟨d, hd, d1, d2⟩ := sub_le (A := 1 / 1000) iT nOne_is (by grind) (by grind) (by grind) hs
  refine wi_of hd nUnit_is ?_ ?_ <;> grind
end Go.Proofs.Ytbobnmaeiohnnad
