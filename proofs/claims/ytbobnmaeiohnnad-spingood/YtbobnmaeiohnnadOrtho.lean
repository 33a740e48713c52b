/-
  A rotation's matrix: its rows are nearly of length 1, nearly upright to each other; it turns and is undone. No program here.
-/
import Derived.Test.YtbobnmaeiohnnadUnits
namespace Go.Proofs.Ytbobnmaeiohnnad
open Go

def nOne : Nat := 4607182418800017408
def nTwo : Nat := 4611686018427387904
theorem nOne_is : Is nOne 1 := by unfold Is; decide +kernel
theorem nTwo_is : Is nTwo 2 := by unfold Is; decide +kernel
theorem amgm (a b : Rat) : a * b ≤ (a * a + b * b) / 2 ∧ -((a * a + b * b) / 2) ≤ a * b := by
  have h1 := sq_nn (a - b)
  have h2 := sq_nn (a + b)
  constructor <;> grind
def mulE (x y : Nat) : FE := .op .mul (.num x) (.num y)
def diagE (q r : Nat) : FE := .op .sub (.num nOne) (.op .mul (.num nTwo) (.op .add (mulE q q) (mulE r r)))
def lowE (p q w r : Nat) : FE := .op .mul (.num nTwo) (.op .sub (mulE p q) (mulE w r))
def uppE (p r w q : Nat) : FE := .op .mul (.num nTwo) (.op .add (mulE p r) (mulE w q))
/-- one row, from the place that it is the row of. -/
structure Row1 (m1 m2 m3 P Q R W : Rat) : Prop where
  d : Near m1 (1 - 2 * (Q * Q + R * R)) (71 / 10 / 9007199254740992)
  l : Near m2 (2 * (P * Q - W * R)) (31 / 10 / 9007199254740992)
  u : Near m3 (2 * (P * R + W * Q)) (31 / 10 / 9007199254740992)
theorem diag_gen {q r d : Nat} {Q R : Rat} (iq : Is q Q) (ir : Is r R) (h : Q * Q + R * R ≤ 1 + 19 / 9007199254740992) (hd : Ev (diagE q r) d) : ∃ D, Is d D ∧ Near D (1 - 2 * (Q * Q + R * R)) (71 / 10 / 9007199254740992) := by
  unfold diagE mulE at hd
  cases hd with | op h1 h2 hr =>
  cases h1
  cases h2 with | op h3 h4 hm =>
  cases h3
  cases h4 with | op h5 h6 ha =>
  cases h5 with | op h7 h8 hq =>
  cases h6 with | op h9 h10 hrr =>
  cases h7; cases h8; cases h9; cases h10
  have s1 := sq_nn Q
  have s2 := sq_nn R
  have ht := tau_pos
  have hts : 1000000000000000000000 * tau ≤ 1 := by decide +kernel
  have hbig : (1000 : Rat) < p2 1000 := by decide +kernel
  obtain ⟨f1, g1, a1, b1⟩ := mul_le (A := Q * Q) iq iq (by grind) (by grind) (by grind) hq
  obtain ⟨f2, g2, a2, b2⟩ := mul_le (A := R * R) ir ir (by grind) (by grind) (by grind) hrr
  generalize Q * Q = c1 at *
  generalize R * R = c2 at *
  obtain ⟨f3, g3, a3, b3⟩ := add_le (A := c1 + c2 + 1 / 1000000000) g1 g2 (by grind) (by grind) (by grind) ha
  obtain ⟨f4, g4, a4, b4⟩ := mul_le (A := 2 * (c1 + c2) + 1 / 100000000) nTwo_is g3 (by grind) (by grind) (by grind) hm
  obtain ⟨f5, g5, a5, b5⟩ := sub_le (A := 1 + 1 / 10000000) nOne_is g4 (by grind) (by grind) (by grind) hr
  exact ⟨f5, g5, by grind, by grind⟩
theorem low_gen {p q w r d : Nat} {P Q W R : Rat} (ip : Is p P) (iq : Is q Q) (iw : Is w W) (ir : Is r R) (h : P * P + Q * Q + R * R + W * W ≤ 1 + 19 / 9007199254740992) (hd : Ev (lowE p q w r) d) : ∃ D, Is d D ∧ Near D (2 * (P * Q - W * R)) (31 / 10 / 9007199254740992) := by
  unfold lowE mulE at hd
  cases hd with | op h1 h2 hr =>
  cases h1
  cases h2 with | op h3 h4 ha =>
  cases h3 with | op h7 h8 hq =>
  cases h4 with | op h9 h10 hrr =>
  cases h7; cases h8; cases h9; cases h10
  have ht := tau_pos
  have hts : 1000000000000000000000 * tau ≤ 1 := by decide +kernel
  have hbig : (1000 : Rat) < p2 1000 := by decide +kernel
  have m1 := amgm P Q
  have m2 := amgm W R
  have s1 := sq_nn P
  have s2 := sq_nn Q
  have s3 := sq_nn R
  have s4 := sq_nn W
  obtain ⟨f1, g1, a1, b1⟩ := mul_le (A := (P * P + Q * Q) / 2) ip iq m1.1 m1.2 (by grind) hq
  obtain ⟨f2, g2, a2, b2⟩ := mul_le (A := (W * W + R * R) / 2) iw ir m2.1 m2.2 (by grind) hrr
  generalize P * P = c1 at *
  generalize Q * Q = c2 at *
  generalize R * R = c3 at *
  generalize W * W = c4 at *
  generalize P * Q = e1 at *
  generalize W * R = e2 at *
  obtain ⟨m1, m1'⟩ := m1
  obtain ⟨m2, m2'⟩ := m2
  obtain ⟨f3, g3, a3, b3⟩ := sub_le (A := 1 / 2 + 1 / 1000000000) g1 g2 (by grind) (by grind) (by grind) ha
  obtain ⟨f4, g4, a4, b4⟩ := mul_le (A := 1 + 1 / 100000000) nTwo_is g3 (by grind) (by grind) (by grind) hr
  exact ⟨f4, g4, by grind, by grind⟩
theorem upp_gen {p q w r d : Nat} {P Q W R : Rat} (ip : Is p P) (iq : Is q Q) (iw : Is w W) (ir : Is r R) (h : P * P + Q * Q + R * R + W * W ≤ 1 + 19 / 9007199254740992) (hd : Ev (uppE p r w q) d) : ∃ D, Is d D ∧ Near D (2 * (P * R + W * Q)) (31 / 10 / 9007199254740992) := by
  unfold uppE mulE at hd
  cases hd with | op h1 h2 hr =>
  cases h1
  cases h2 with | op h3 h4 ha =>
  cases h3 with | op h7 h8 hq =>
  cases h4 with | op h9 h10 hrr =>
  cases h7; cases h8; cases h9; cases h10
  have ht := tau_pos
  have hts : 1000000000000000000000 * tau ≤ 1 := by decide +kernel
  have hbig : (1000 : Rat) < p2 1000 := by decide +kernel
  have m1 := amgm P R
  have m2 := amgm W Q
  have s1 := sq_nn P
  have s2 := sq_nn Q
  have s3 := sq_nn R
  have s4 := sq_nn W
  obtain ⟨f1, g1, a1, b1⟩ := mul_le (A := (P * P + R * R) / 2) ip ir m1.1 m1.2 (by grind) hq
  obtain ⟨f2, g2, a2, b2⟩ := mul_le (A := (W * W + Q * Q) / 2) iw iq m2.1 m2.2 (by grind) hrr
  generalize P * P = c1 at *
  generalize Q * Q = c2 at *
  generalize R * R = c3 at *
  generalize W * W = c4 at *
  generalize P * R = e1 at *
  generalize W * Q = e2 at *
  obtain ⟨m1, m1'⟩ := m1
  obtain ⟨m2, m2'⟩ := m2
  obtain ⟨f3, g3, a3, b3⟩ := add_le (A := 1 / 2 + 1 / 1000000000) g1 g2 (by grind) (by grind) (by grind) ha
  obtain ⟨f4, g4, a4, b4⟩ := mul_le (A := 1 + 1 / 100000000) nTwo_is g3 (by grind) (by grind) (by grind) hr
  exact ⟨f4, g4, by grind, by grind⟩
/-! the exact rows -/
theorem row_sq (P Q R W : Rat) : (1 - 2 * (Q * Q + R * R)) * (1 - 2 * (Q * Q + R * R)) + 2 * (P * Q - W * R) * (2 * (P * Q - W * R)) + 2 * (P * R + W * Q) * (2 * (P * R + W * Q)) = 1 + 4 * (P * P + Q * Q + R * R + W * W - 1) * (Q * Q + R * R) := by grind
theorem row_dot (P Q R W : Rat) : (1 - 2 * (Q * Q + R * R)) * (2 * (Q * P + W * R)) + 2 * (P * Q - W * R) * (1 - 2 * (R * R + P * P)) + 2 * (P * R + W * Q) * (2 * (Q * R - W * P)) = -(4 * (P * P + Q * Q + R * R + W * W - 1) * (P * Q)) := by grind
/-- there and back, along one axis. -/
theorem row_back (P Q R W a b c : Rat) :
    (1 - 2 * (-Q * -Q + -R * -R)) * ((1 - 2 * (Q * Q + R * R)) * a + 2 * (P * Q - W * R) * b + 2 * (P * R + W * Q) * c) + 2 * (-P * -Q - W * -R) * ((1 - 2 * (R * R + P * P)) * b + 2 * (Q * R - W * P) * c + 2 * (Q * P + W * R) * a) + 2 * (-P * -R + W * -Q) * ((1 - 2 * (P * P + Q * Q)) * c + 2 * (R * P - W * Q) * a + 2 * (R * Q + W * P) * b)
      = a + 4 * (P * P + Q * Q + R * R + W * W - 1) * ((Q * Q + R * R) * a - P * Q * b - P * R * c) := by grind
theorem turn_sq (P Q R W a b c : Rat) (t1 t2 t3 : Rat) (h1 : t1 = (1 - 2 * (Q * Q + R * R)) * a + 2 * (P * Q - W * R) * b + 2 * (P * R + W * Q) * c) (h2 : t2 = (1 - 2 * (R * R + P * P)) * b + 2 * (Q * R - W * P) * c + 2 * (Q * P + W * R) * a) (h3 : t3 = (1 - 2 * (P * P + Q * Q)) * c + 2 * (R * P - W * Q) * a + 2 * (R * Q + W * P) * b) :
    t1 * t1 + t2 * t2 + t3 * t3 = a * a + b * b + c * c + 4 * (P * P + Q * Q + R * R + W * W - 1) * ((P * b - Q * a) * (P * b - Q * a) + (Q * c - R * b) * (Q * c - R * b) + (R * a - P * c) * (R * a - P * c)) := by
  subst h1 h2 h3
  grind
end Go.Proofs.Ytbobnmaeiohnnad
