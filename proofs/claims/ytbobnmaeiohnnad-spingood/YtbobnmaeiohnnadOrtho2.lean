/-
  A rotation's matrix: rows, turns, and the way back, within what the document asks. No program here.
-/
import Derived.Test.YtbobnmaeiohnnadOrtho
namespace Go.Proofs.Ytbobnmaeiohnnad
open Go

theorem sq_le {a : Rat} (h : a * a ≤ 1001 / 1000) : a ≤ 1001 / 1000 ∧ -(1001 / 1000) ≤ a := by
  constructor
  · rcases le_or a (1001 / 1000) with h' | h'
    · exact h'
    · have := Rat.mul_le_mul_of_nonneg_left h' (show 0 ≤ a by grind)
      grind
  · rcases le_or (-(1001 / 1000)) a with h' | h'
    · exact h'
    · have := Rat.mul_le_mul_of_nonneg_left (show 1001 / 1000 ≤ -a by grind) (show 0 ≤ -a by grind)
      grind
theorem four_le {E X : Rat} (h : Near (1 + E) 1 (19 / 9007199254740992)) {B : Rat} (x1 : X ≤ B) (x2 : -B ≤ X) : 4 * E * X ≤ 76 / 9007199254740992 * B ∧ -(76 / 9007199254740992 * B) ≤ 4 * E * X := by
  obtain ⟨h1, h2⟩ := h
  have hB : 0 ≤ B := by grind
  have := prod_abs (a := 4 * E) (b := X) (A := 76 / 9007199254740992) (B := B) (by grind) (by grind) x1 x2
  exact this
structure Mat (a1 a2 a3 b1 b2 b3 c1 c2 c3 X Y Z W : Rat) : Prop where
  a : Row1 a1 a2 a3 X Y Z W
  b : Row1 b2 b3 b1 Y Z X W
  c : Row1 c3 c1 c2 Z X Y W
  n : Near (X * X + Y * Y + Z * Z + W * W) 1 (19 / 9007199254740992)
theorem exact_le {P Q R W : Rat} (hn : Near (P * P + Q * Q + R * R + W * W) 1 (19 / 9007199254740992)) :
    (1 - 2 * (Q * Q + R * R)) * (1 - 2 * (Q * Q + R * R)) + 2 * (P * Q - W * R) * (2 * (P * Q - W * R)) + 2 * (P * R + W * Q) * (2 * (P * R + W * Q)) ≤ 1 + 77 / 9007199254740992 ∧ 1 - 77 / 9007199254740992 ≤ (1 - 2 * (Q * Q + R * R)) * (1 - 2 * (Q * Q + R * R)) + 2 * (P * Q - W * R) * (2 * (P * Q - W * R)) + 2 * (P * R + W * Q) * (2 * (P * R + W * Q)) := by
  rw [row_sq]
  have s1 := sq_nn P
  have s2 := sq_nn Q
  have s3 := sq_nn R
  have s4 := sq_nn W
  have := four_le (E := P * P + Q * Q + R * R + W * W - 1) (X := Q * Q + R * R) (B := 1001 / 1000) (by unfold Near at *; grind) (by unfold Near at *; grind) (by grind)
  constructor <;> grind
/-- the sum of a row's squares. -/
theorem row_len {m1 m2 m3 P Q R W : Rat} (h : Row1 m1 m2 m3 P Q R W) (hn : Near (P * P + Q * Q + R * R + W * W) 1 (19 / 9007199254740992)) : Near (m1 * m1 + m2 * m2 + m3 * m3) 1 (105 / 9007199254740992) := by
  obtain ⟨e1, e2⟩ := exact_le hn
  obtain ⟨hd, hl, hu⟩ := h
  clear hn
  generalize 1 - 2 * (Q * Q + R * R) = x1 at *
  generalize 2 * (P * Q - W * R) = x2 at *
  generalize 2 * (P * R + W * Q) = x3 at *
  have s1 := sq_nn x1
  have s2 := sq_nn x2
  have s3 := sq_nn x3
  obtain ⟨u1, l1⟩ := sq_le (a := x1) (by grind)
  obtain ⟨u2, l2⟩ := sq_le (a := x2) (by grind)
  obtain ⟨u3, l3⟩ := sq_le (a := x3) (by grind)
  obtain ⟨p1, q1⟩ := prod_near hd hd u1 l1 u1 l1
  obtain ⟨p2, q2⟩ := prod_near hl hl u2 l2 u2 l2
  obtain ⟨p3, q3⟩ := prod_near hu hu u3 l3 u3 l3
  generalize m1 * m1 = y1 at *
  generalize m2 * m2 = y2 at *
  generalize m3 * m3 = y3 at *
  constructor <;> grind
/-- two rows, one behind the other. -/
theorem rows_dot {a1 a2 a3 b1 b2 b3 P Q R W : Rat} (h : Row1 a1 a2 a3 P Q R W) (k : Row1 b2 b3 b1 Q R P W) (hn : Near (P * P + Q * Q + R * R + W * W) 1 (19 / 9007199254740992)) : Near (a1 * b1 + a2 * b2 + a3 * b3) 0 (67 / 9007199254740992) := by
  obtain ⟨e1, _⟩ := exact_le hn
  obtain ⟨e3, _⟩ := exact_le (P := Q) (Q := R) (R := P) (W := W) (by unfold Near at *; grind)
  have hx := row_dot P Q R W
  have m := amgm P Q
  have sp := sq_nn P
  have sq := sq_nn Q
  have sr := sq_nn R
  have sw := sq_nn W
  obtain ⟨f1, f2⟩ := four_le (E := P * P + Q * Q + R * R + W * W - 1) (X := P * Q) (B := 501 / 1000) (by unfold Near at *; grind) (by unfold Near at *; grind) (by unfold Near at *; grind)
  obtain ⟨hd, hl, hu⟩ := h
  obtain ⟨kd, kl, ku⟩ := k
  clear hn sp sq sr sw m
  generalize 4 * (P * P + Q * Q + R * R + W * W - 1) * (P * Q) = g at *
  generalize 1 - 2 * (Q * Q + R * R) = x1 at *
  generalize 2 * (P * Q - W * R) = x2 at *
  generalize 2 * (P * R + W * Q) = x3 at *
  generalize 1 - 2 * (R * R + P * P) = z2 at *
  generalize 2 * (Q * R - W * P) = z3 at *
  generalize 2 * (Q * P + W * R) = z1 at *
  have s1 := sq_nn x1
  have s2 := sq_nn x2
  have s3 := sq_nn x3
  have s4 := sq_nn z1
  have s5 := sq_nn z2
  have s6 := sq_nn z3
  obtain ⟨u1, l1⟩ := sq_le (a := x1) (by grind)
  obtain ⟨u2, l2⟩ := sq_le (a := x2) (by grind)
  obtain ⟨u3, l3⟩ := sq_le (a := x3) (by grind)
  obtain ⟨v1, o1⟩ := sq_le (a := z1) (by grind)
  obtain ⟨v2, o2⟩ := sq_le (a := z2) (by grind)
  obtain ⟨v3, o3⟩ := sq_le (a := z3) (by grind)
  obtain ⟨p1, q1⟩ := prod_near hd ku u1 l1 v1 o1
  obtain ⟨p2, q2⟩ := prod_near hl kd u2 l2 v2 o2
  obtain ⟨p3, q3⟩ := prod_near hu kl u3 l3 v3 o3
  generalize a1 * b1 = y1 at *
  generalize a2 * b2 = y2 at *
  generalize a3 * b3 = y3 at *
  generalize x1 * z1 = y4 at *
  generalize x2 * z2 = y5 at *
  generalize x3 * z3 = y6 at *
  constructor <;> grind
theorem ab_am (k c : Rat) : 2 * k * ab c ≤ k * k + c * c := by
  have h := sq_nn (k - ab c)
  have e := ab_sq c
  grind
theorem part_near {m x c d : Rat} (h : Near m x d) : Near (m * c) (x * c) (d * ab c) := by
  have l := le_ab c
  obtain ⟨h1, h2⟩ := h
  obtain ⟨p1, p2⟩ := prod_abs (a := m - x) (b := c) (A := d) (B := ab c) (by grind) (by grind) l.1 l.2
  constructor <;> grind
/-- a row upon a vector: the row's own errors. -/
theorem row_turn {m1 m2 m3 P Q R W c1 c2 c3 : Rat} (h : Row1 m1 m2 m3 P Q R W) (hc : c1 * c1 + c2 * c2 + c3 * c3 ≤ 1001 / 1000) :
    Near (m1 * c1 + m2 * c2 + m3 * c3) ((1 - 2 * (Q * Q + R * R)) * c1 + 2 * (P * Q - W * R) * c2 + 2 * (P * R + W * Q) * c3) (84 / 10 / 9007199254740992) := by
  obtain ⟨hd, hl, hu⟩ := h
  obtain ⟨p1, q1⟩ := part_near (c := c1) hd
  obtain ⟨p2, q2⟩ := part_near (c := c2) hl
  obtain ⟨p3, q3⟩ := part_near (c := c3) hu
  have k1 := ab_am (851 / 1000) c1
  have k2 := ab_am (3715 / 10000) c2
  have k3 := ab_am (3715 / 10000) c3
  clear hd hl hu
  generalize m1 * c1 = y1 at *
  generalize m2 * c2 = y2 at *
  generalize m3 * c3 = y3 at *
  generalize (1 - 2 * (Q * Q + R * R)) * c1 = y4 at *
  generalize 2 * (P * Q - W * R) * c2 = y5 at *
  generalize 2 * (P * R + W * Q) * c3 = y6 at *
  generalize c1 * c1 = z1 at *
  generalize c2 * c2 = z2 at *
  generalize c3 * c3 = z3 at *
  generalize ab c1 = z4 at *
  generalize ab c2 = z5 at *
  generalize ab c3 = z6 at *
  constructor <;> grind
/-- a row upon a vector N times as great, reckoned. -/
theorem turn_gen {x1 x2 x3 y1 y2 y3 t : Nat} {m1 m2 m3 c1 c2 c3 N : Rat} (i1 : Is x1 m1) (i2 : Is x2 m2) (i3 : Is x3 m3) (j1 : Is y1 (N * c1)) (j2 : Is y2 (N * c2)) (j3 : Is y3 (N * c3)) (n1 : p2 (-310) ≤ N) (n2 : N ≤ p2 310)
    (hm : m1 * m1 + m2 * m2 + m3 * m3 ≤ 1001 / 1000) (hc : c1 * c1 + c2 * c2 + c3 * c3 ≤ 1001 / 1000) (ht : Ev (dotE x1 x2 x3 y1 y2 y3) t) : ∃ s, Is t (N * s) ∧ Near s (m1 * c1 + m2 * c2 + m3 * c3) (312 / 100 / 9007199254740992) := by
  have hN : 0 < N := by have := p2_pos (-310); grind
  have b1 := amgm m1 c1
  have b2 := amgm m2 c2
  have b3 := amgm m3 c3
  have q1 := Rat.mul_le_mul_of_nonneg_left b1.1 (Rat.le_of_lt hN)
  have r1 := Rat.mul_le_mul_of_nonneg_left b1.2 (Rat.le_of_lt hN)
  have q2 := Rat.mul_le_mul_of_nonneg_left b2.1 (Rat.le_of_lt hN)
  have r2 := Rat.mul_le_mul_of_nonneg_left b2.2 (Rat.le_of_lt hN)
  have q3 := Rat.mul_le_mul_of_nonneg_left b3.1 (Rat.le_of_lt hN)
  have r3 := Rat.mul_le_mul_of_nonneg_left b3.2 (Rat.le_of_lt hN)
  have hm2 := Rat.mul_le_mul_of_nonneg_left hm (Rat.le_of_lt hN)
  have hc2 := Rat.mul_le_mul_of_nonneg_left hc (Rat.le_of_lt hN)
  have hbig : 4 * p2 310 < p2 900 := by decide +kernel
  have hts : 1000000000000000000000 * tau ≤ p2 (-310) := by decide +kernel
  have ht0 := tau_pos
  obtain ⟨f, g, w1, w2⟩ := dot_gen (P1 := N * ((m1 * m1 + c1 * c1) / 2)) (P2 := N * ((m2 * m2 + c2 * c2) / 2)) (P3 := N * ((m3 * m3 + c3 * c3) / 2)) i1 i2 i3 j1 j2 j3 (by grind) (by grind) (by grind) (by grind) (by grind) (by grind) (by grind) ht
  have e : N * (f / N) = f := by rw [Rat.mul_comm]; exact Rat.div_mul_cancel (by grind)
  refine ⟨f / N, by rw [e]; exact g, ?_⟩
  generalize f / N = s at *
  subst e
  have l1 : (s - (m1 * c1 + m2 * c2 + m3 * c3) - 312 / 100 / 9007199254740992) * N ≤ 0 * N := by grind
  have l2 : ((m1 * c1 + m2 * c2 + m3 * c3) - s - 312 / 100 / 9007199254740992) * N ≤ 0 * N := by grind
  have l1 := Rat.le_of_mul_le_mul_right l1 hN
  have l2 := Rat.le_of_mul_le_mul_right l2 hN
  constructor <;> grind
/-- what is turned: how long it is. -/
theorem turned_sq {X Y Z W a b c s1 s2 s3 t1 t2 t3 : Rat} (hn : Near (X * X + Y * Y + Z * Z + W * W) 1 (19 / 9007199254740992)) (hc : a * a + b * b + c * c ≤ 1001 / 1000)
    (h1 : t1 = (1 - 2 * (Y * Y + Z * Z)) * a + 2 * (X * Y - W * Z) * b + 2 * (X * Z + W * Y) * c) (h2 : t2 = (1 - 2 * (Z * Z + X * X)) * b + 2 * (Y * Z - W * X) * c + 2 * (Y * X + W * Z) * a) (h3 : t3 = (1 - 2 * (X * X + Y * Y)) * c + 2 * (Z * X - W * Y) * a + 2 * (Z * Y + W * X) * b)
    (n1 : Near s1 t1 (116 / 10 / 9007199254740992)) (n2 : Near s2 t2 (116 / 10 / 9007199254740992)) (n3 : Near s3 t3 (116 / 10 / 9007199254740992)) :
    Near (s1 * s1 + s2 * s2 + s3 * s3) (a * a + b * b + c * c) (118 / 9007199254740992) ∧ Near (t1 * t1 + t2 * t2 + t3 * t3) (a * a + b * b + c * c) (77 / 9007199254740992) := by
  have e := turn_sq X Y Z W a b c t1 t2 t3 h1 h2 h3
  obtain ⟨f1, f2⟩ := four_le (E := X * X + Y * Y + Z * Z + W * W - 1) (X := (X * b - Y * a) * (X * b - Y * a) + (Y * c - Z * b) * (Y * c - Z * b) + (Z * a - X * c) * (Z * a - X * c)) (B := 1003 / 1000) (by unfold Near at *; grind) (by
      have g : (X * b - Y * a) * (X * b - Y * a) + (Y * c - Z * b) * (Y * c - Z * b) + (Z * a - X * c) * (Z * a - X * c) = (X * X + Y * Y + Z * Z) * (a * a + b * b + c * c) - (X * a + Y * b + Z * c) * (X * a + Y * b + Z * c) := by grind
      rw [g]
      have s := sq_nn (X * a + Y * b + Z * c)
      have sx := sq_nn X
      have sy := sq_nn Y
      have sz := sq_nn Z
      have sw := sq_nn W
      have k1 : X * X + Y * Y + Z * Z ≤ 1 + 19 / 9007199254740992 := by unfold Near at hn; grind
      have k2 := Rat.mul_le_mul_of_nonneg_left hc (show 0 ≤ X * X + Y * Y + Z * Z by grind)
      grind) (by
      have := sq_nn (X * b - Y * a)
      have := sq_nn (Y * c - Z * b)
      have := sq_nn (Z * a - X * c)
      grind)
  clear h1 h2 h3 hn
  generalize 4 * (X * X + Y * Y + Z * Z + W * W - 1) * ((X * b - Y * a) * (X * b - Y * a) + (Y * c - Z * b) * (Y * c - Z * b) + (Z * a - X * c) * (Z * a - X * c)) = g at *
  have w : Near (t1 * t1 + t2 * t2 + t3 * t3) (a * a + b * b + c * c) (77 / 9007199254740992) := by constructor <;> grind
  refine ⟨?_, w⟩
  have l1 := le_ab t1
  have l2 := le_ab t2
  have l3 := le_ab t3
  obtain ⟨p1, q1⟩ := prod_near n1 n1 l1.1 l1.2 l1.1 l1.2
  obtain ⟨p2, q2⟩ := prod_near n2 n2 l2.1 l2.2 l2.1 l2.2
  obtain ⟨p3, q3⟩ := prod_near n3 n3 l3.1 l3.2 l3.1 l3.2
  have k1 := ab_am (577 / 1000) t1
  have k2 := ab_am (577 / 1000) t2
  have k3 := ab_am (577 / 1000) t3
  obtain ⟨w1, w2⟩ := w
  clear l1 l2 l3 n1 n2 n3
  generalize ab t1 = z1 at *
  generalize ab t2 = z2 at *
  generalize ab t3 = z3 at *
  generalize a * a + b * b + c * c = nn at *
  generalize t1 * t1 = y1 at *
  generalize t2 * t2 = y2 at *
  generalize t3 * t3 = y3 at *
  generalize s1 * s1 = x1 at *
  generalize s2 * s2 = x2 at *
  generalize s3 * s3 = x3 at *
  constructor <;> grind
/-- there and back, along one axis: z is reckoned of what was turned. -/
theorem undone {P Q R W a b c s1 s2 s3 t1 t2 t3 z : Rat} (hn : Near (P * P + Q * Q + R * R + W * W) 1 (19 / 9007199254740992)) (hc : a * a + b * b + c * c ≤ 1001 / 1000)
    (h1 : t1 = (1 - 2 * (Q * Q + R * R)) * a + 2 * (P * Q - W * R) * b + 2 * (P * R + W * Q) * c) (h2 : t2 = (1 - 2 * (R * R + P * P)) * b + 2 * (Q * R - W * P) * c + 2 * (Q * P + W * R) * a) (h3 : t3 = (1 - 2 * (P * P + Q * Q)) * c + 2 * (R * P - W * Q) * a + 2 * (R * Q + W * P) * b)
    (n1 : Near s1 t1 (116 / 10 / 9007199254740992)) (n2 : Near s2 t2 (116 / 10 / 9007199254740992)) (n3 : Near s3 t3 (116 / 10 / 9007199254740992))
    (hz : Near z ((1 - 2 * (-Q * -Q + -R * -R)) * s1 + 2 * (-P * -Q - W * -R) * s2 + 2 * (-P * -R + W * -Q) * s3) (116 / 10 / 9007199254740992)) : Near z a (109 / 9007199254740992) := by
  have e := row_back P Q R W a b c
  rw [← h1, ← h2, ← h3] at e
  obtain ⟨x1, _⟩ := exact_le (P := -P) (Q := -Q) (R := -R) (W := W) (by unfold Near at *; grind)
  have sp := sq_nn P
  have sq := sq_nn Q
  have sr := sq_nn R
  have sw := sq_nn W
  have hX : (Q * Q + R * R) * a - P * Q * b - P * R * c ≤ 1003 / 1000 ∧ -(1003 / 1000) ≤ (Q * Q + R * R) * a - P * Q * b - P * R * c := by
    have g1 := amgm (Q * Q + R * R) a
    have g2 := amgm (P * Q) b
    have g3 := amgm (P * R) c
    have k1 : Q * Q + R * R ≤ 1 + 19 / 9007199254740992 := by unfold Near at hn; grind
    have k2 : P * P + Q * Q + R * R ≤ 1 + 19 / 9007199254740992 := by unfold Near at hn; grind
    have k3 : (Q * Q + R * R) * (P * P + Q * Q + R * R) ≤ (1 + 19 / 9007199254740992) * (1 + 19 / 9007199254740992) := by
      have j1 := Rat.mul_le_mul_of_nonneg_right k1 (show 0 ≤ P * P + Q * Q + R * R by grind)
      have j2 := Rat.mul_le_mul_of_nonneg_left k2 (show (0 : Rat) ≤ 1 + 19 / 9007199254740992 by decide +kernel)
      grind
    have k4 : (Q * Q + R * R) * (Q * Q + R * R) + P * Q * (P * Q) + P * R * (P * R) = (Q * Q + R * R) * (P * P + Q * Q + R * R) := by grind
    constructor <;> grind
  obtain ⟨f1, f2⟩ := four_le (E := P * P + Q * Q + R * R + W * W - 1) (by unfold Near at *; grind) hX.1 hX.2
  clear hX h1 h2 h3 hn hc sp sq sr sw
  generalize 4 * (P * P + Q * Q + R * R + W * W - 1) * ((Q * Q + R * R) * a - P * Q * b - P * R * c) = g at *
  generalize 1 - 2 * (-Q * -Q + -R * -R) = y1 at *
  generalize 2 * (-P * -Q - W * -R) = y2 at *
  generalize 2 * (-P * -R + W * -Q) = y3 at *
  obtain ⟨p1, q1⟩ := part_near (c := y1) n1
  obtain ⟨p2, q2⟩ := part_near (c := y2) n2
  obtain ⟨p3, q3⟩ := part_near (c := y3) n3
  have k1 := ab_am (577 / 1000) y1
  have k2 := ab_am (577 / 1000) y2
  have k3 := ab_am (577 / 1000) y3
  obtain ⟨z1, z2⟩ := hz
  rw [Rat.mul_comm s1 y1, Rat.mul_comm t1 y1] at p1 q1
  rw [Rat.mul_comm s2 y2, Rat.mul_comm t2 y2] at p2 q2
  rw [Rat.mul_comm s3 y3, Rat.mul_comm t3 y3] at p3 q3
  clear n1 n2 n3
  generalize y1 * s1 = u1 at *
  generalize y2 * s2 = u2 at *
  generalize y3 * s3 = u3 at *
  generalize y1 * t1 = v1 at *
  generalize y2 * t2 = v2 at *
  generalize y3 * t3 = v3 at *
  generalize ab y1 = w1 at *
  generalize ab y2 = w2 at *
  generalize ab y3 = w3 at *
  generalize y1 * y1 = o1 at *
  generalize y2 * y2 = o2 at *
  generalize y3 * y3 = o3 at *
  constructor <;> grind
end Go.Proofs.Ytbobnmaeiohnnad
