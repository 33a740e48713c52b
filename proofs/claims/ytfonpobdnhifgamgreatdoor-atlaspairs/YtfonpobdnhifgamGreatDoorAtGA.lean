/-
  How near a window of a face comes to a direction: whole numbers alone. Nothing of the program. A direction in a window is no nearer than the window's nearness. Nothing of the program.
-/
import Derived.Test.YtfonpobdnhifgamGreatDoorAtPA
namespace Go.Proofs.YtfonpobdnhifgamGreatDoor
open Go Go.RowKit

theorem lt_geI (a b : Int) : a < b ∨ b ≤ a := by omega
theorem sq_nn (x : Int) : 0 ≤ x * x := by
  rcases Int.le_total 0 x with h | h
  · exact Int.mul_nonneg h h
  · have := Int.mul_nonneg (a := -x) (b := -x) (by omega) (by omega)
    rw [Int.neg_mul_neg] at this
    exact this
theorem mul_pos_i {x y : Int} (h1 : 0 < x) (h2 : 0 < y) : 0 < x * y := Int.mul_pos h1 h2
/-- a number's sign. -/
def sgV (n : Int) : Int := if n < 0 then -1 else if 0 < n then 1 else 0
/-- the square, with the sign. -/
def ssV (n : Int) : Int := sgV n * (n * n)
theorem ss_pos {n : Int} (h : 0 ≤ n) : ssV n = n * n := by
  unfold ssV sgV
  rw [if_neg (by omega)]
  split
  · rw [Int.one_mul]
  · have : n = 0 := by omega
    subst this
    rfl
theorem ss_neg {n : Int} (h : n ≤ 0) : ssV n = -(n * n) := by
  unfold ssV sgV
  split
  · rw [Int.neg_mul, Int.one_mul]
  · have : n = 0 := by omega
    subst this
    rfl
theorem ss_nn {n : Int} (h : 0 ≤ n) : 0 ≤ ssV n := by rw [ss_pos h]; exact sq_nn n
theorem ss_np {n : Int} (h : n ≤ 0) : ssV n ≤ 0 := by rw [ss_neg h]; have := sq_nn n; omega
theorem ss_scale (n : Int) {k : Int} (hk : 0 < k) : ssV (k * n) = k * k * ssV n := by
  rcases Int.le_total 0 n with h | h
  · rw [ss_pos h, ss_pos (Int.mul_nonneg (by omega) h)]
    grind
  · rw [ss_neg h, ss_neg (by have := Int.mul_nonneg (a := k) (b := -n) (by omega) (by omega); rw [Int.mul_neg] at this; omega)]
    grind
/-- x over u is at most y over v. -/
def LeF (x u y v : Int) : Prop := x * v ≤ y * u
theorem LeF.trans {x u y v z t : Int} (h1 : LeF x u y v) (h2 : LeF y v z t) (hu : 0 < u) (hv : 0 < v) (ht : 0 < t) : LeF x u z t := by
  unfold LeF at *
  have a1 := Int.mul_le_mul_of_nonneg_right h1 (Int.le_of_lt ht)
  have a2 := Int.mul_le_mul_of_nonneg_right h2 (Int.le_of_lt hu)
  have e1 : x * v * t = x * t * v := by grind
  have e2 : y * u * t = y * t * u := by grind
  have e3 : z * v * u = z * u * v := by grind
  rw [e1, e2] at a1
  rw [e3] at a2
  exact Int.le_of_mul_le_mul_right (Int.le_trans a1 a2) hv
/-- Lagrange. -/
theorem cs3 (a b c x y z : Int) : (a * x + b * y + c * z) * (a * x + b * y + c * z) ≤ (a * a + b * b + c * c) * (x * x + y * y + z * z) := by
  have h1 := sq_nn (a * y - b * x)
  have h2 := sq_nn (a * z - c * x)
  have h3 := sq_nn (b * z - c * y)
  have e : (a * a + b * b + c * c) * (x * x + y * y + z * z) - (a * x + b * y + c * z) * (a * x + b * y + c * z) = (a * y - b * x) * (a * y - b * x) + (a * z - c * x) * (a * z - c * x) + (b * z - c * y) * (b * z - c * y) := by grind
  omega
/-- towards the direction the cosine grows. -/
theorem move_up {n D E q p : Int} (hn : 0 < n) (hq : 0 < q) (hp : 0 ≤ p) (hD : 0 ≤ D) (cs : n * n ≤ D * E) : 0 < q * n + p * D ∧ n * n * (q * q * E + 2 * q * p * n + p * p * D) ≤ (q * n + p * D) * (q * n + p * D) * E := by
  have h1 : 0 < q * n := Int.mul_pos hq hn
  have h2 : 0 ≤ p * D := Int.mul_nonneg hp hD
  refine ⟨by omega, ?_⟩
  have h3 : 0 ≤ (D * E - n * n) * (2 * (q * n) * p + p * (p * D)) := Int.mul_nonneg (by omega) (by
    have a1 := Int.mul_nonneg (a := 2 * (q * n)) (b := p) (by omega) hp
    have a2 := Int.mul_nonneg hp h2
    omega)
  have e : (q * n + p * D) * (q * n + p * D) * E - n * n * (q * q * E + 2 * q * p * n + p * p * D) = (D * E - n * n) * (2 * (q * n) * p + p * (p * D)) := by grind
  omega
/-- the foot on an edge. -/
theorem foot_up (a z s m w : Int) : (m * a + z * w) * (m * a + z * w) * s ≤ (a * a + z * z * s) * (m * m * s + w * w) := by
  have h := sq_nn (a * w - z * s * m)
  have e : (a * a + z * z * s) * (m * m * s + w * w) - (m * a + z * w) * (m * a + z * w) * s = (a * w - z * s * m) * (a * w - z * s * m) := by grind
  omega
theorem prod_neg {x y : Int} (h1 : x < 0) (h2 : 0 < y) : x * y < 0 := Int.mul_neg_of_neg_of_pos h1 h2
/-- along an edge to its end. -/
theorem end_up {a z s m w t : Int} (hs : 0 < s) (hm : 0 < m) (hw : w ≤ t * m) (hn : 0 < m * a + z * w) (h1 : a * w ≤ z * s * m) (h2 : a * t ≤ z * s) : 0 ≤ a + z * t ∧ (m * a + z * w) * (m * a + z * w) * (s + t * t) ≤ (a + z * t) * (a + z * t) * (m * m * s + w * w) := by
  have hz : 0 ≤ a + z * t := by
    rcases Int.le_total 0 z with hz | hz
    · have a1 := Int.mul_nonneg hz (show 0 ≤ t * m - w by omega)
      have e1 : z * (t * m - w) = m * (a + z * t) - (m * a + z * w) := by grind
      have a2 : 0 < m * (a + z * t) := by omega
      have := Int.pos_of_mul_pos_right a2 hm
      omega
    · rcases Int.lt_or_eq_of_le hz with hz | hz
      · have p1 : z * s < 0 := prod_neg hz hs
        have p2 : z * s * m < 0 := prod_neg p1 hm
        rcases Int.lt_trichotomy a 0 with ha | ha | ha
        · -- then w > 0, and the sum is below 0
          have hw0 : 0 < w := by
            rcases lt_geI 0 w with h | h
            · exact h
            · have := Int.mul_nonneg (a := -a) (b := -w) (by omega) (by omega)
              rw [Int.neg_mul_neg] at this
              omega
          have b1 := prod_neg hz hw0
          have b2 : m * a < 0 := by rw [Int.mul_comm]; exact prod_neg ha hm
          omega
        · subst ha
          simp at h2
          omega
        · have ht : t < 0 := by
            rcases lt_geI t 0 with h | h
            · exact h
            · have := Int.mul_nonneg (Int.le_of_lt ha) h
              omega
          have b1 := Int.mul_pos (a := -z) (b := -t) (by omega) (by omega)
          rw [Int.neg_mul_neg] at b1
          omega
      · subst hz
        simp only [Int.zero_mul, Int.add_zero] at hn ⊢
        have := Int.pos_of_mul_pos_right hn hm
        omega
  refine ⟨hz, ?_⟩
  have c1 := Int.mul_nonneg hz (show 0 ≤ z * s * m - a * w by omega)
  have c2 := Int.mul_nonneg (Int.le_of_lt hn) (show 0 ≤ z * s - a * t by omega)
  have c3 := Int.mul_nonneg (show 0 ≤ t * m - w by omega) (show 0 ≤ (a + z * t) * (z * s * m - a * w) + (m * a + z * w) * (z * s - a * t) by omega)
  have e : (a + z * t) * (a + z * t) * (m * m * s + w * w) - (m * a + z * w) * (m * a + z * w) * (s + t * t) = (t * m - w) * ((a + z * t) * (z * s * m - a * w) + (m * a + z * w) * (z * s - a * t)) := by grind
  omega
/-- an edge: a point of it that lies towards the direction is no nearer than an end, or the foot. -/
theorem edge_up {a z s m w lo hi : Int} (hs : 0 < s) (hm : 0 < m) (h1 : lo * m ≤ w) (h2 : w ≤ hi * m) (hn : 0 < m * a + z * w) :
    (lo * a < z * s ∧ z * s < hi * a ∧ (m * a + z * w) * (m * a + z * w) * s ≤ (a * a + z * z * s) * (m * m * s + w * w)) ∨
    (0 ≤ a + z * hi ∧ (m * a + z * w) * (m * a + z * w) * (s + hi * hi) ≤ (a + z * hi) * (a + z * hi) * (m * m * s + w * w)) ∨
    (0 ≤ a + z * lo ∧ (m * a + z * w) * (m * a + z * w) * (s + lo * lo) ≤ (a + z * lo) * (a + z * lo) * (m * m * s + w * w)) := by
  have down : a * w ≥ z * s * m → a * lo ≥ z * s → (0 ≤ a + z * lo ∧ (m * a + z * w) * (m * a + z * w) * (s + lo * lo) ≤ (a + z * lo) * (a + z * lo) * (m * m * s + w * w)) := by
    intro q1 q2
    have e1 : -z * -w = z * w := Int.neg_mul_neg z w
    have e2 : -z * -lo = z * lo := Int.neg_mul_neg z lo
    have e3 : -lo * -lo = lo * lo := Int.neg_mul_neg lo lo
    have e4 : -w * -w = w * w := Int.neg_mul_neg w w
    have r := end_up (a := a) (z := -z) (s := s) (m := m) (w := -w) (t := -lo) hs hm (by rw [Int.neg_mul]; omega) (by rw [e1]; exact hn) (by rw [Int.mul_neg, Int.neg_mul, Int.neg_mul]; omega) (by rw [Int.mul_neg, Int.neg_mul]; omega)
    rw [e1, e2, e3, e4] at r
    exact r
  rcases lt_geI 0 a with ha | ha
  · by_cases q1 : z * s < hi * a
    · by_cases q2 : lo * a < z * s
      · exact .inl ⟨q2, q1, foot_up a z s m w⟩
      · refine .inr (.inr (down ?_ (by rw [Int.mul_comm]; omega)))
        have b1 := Int.mul_le_mul_of_nonneg_right (show z * s ≤ lo * a by omega) (Int.le_of_lt hm)
        have b2 := Int.mul_le_mul_of_nonneg_left h1 (Int.le_of_lt ha)
        have e : lo * a * m = a * (lo * m) := by grind
        omega
    · refine .inr (.inl (end_up hs hm h2 hn ?_ (by rw [Int.mul_comm]; omega)))
      have b1 := Int.mul_le_mul_of_nonneg_right (show hi * a ≤ z * s by omega) (Int.le_of_lt hm)
      have b2 := Int.mul_le_mul_of_nonneg_left h2 (Int.le_of_lt ha)
      have e : hi * a * m = a * (hi * m) := by grind
      omega
  · have b0 : m * a ≤ 0 := by
      have := Int.mul_nonneg (a := m) (b := -a) (by omega) (by omega)
      rw [Int.mul_neg] at this
      omega
    have hzw : 0 < z * w := by omega
    rcases Int.lt_trichotomy z 0 with hz | hz | hz
    · have hw : w < 0 := by
        rcases lt_geI w 0 with h | h
        · exact h
        · have := Int.mul_nonneg (a := -z) (b := w) (by omega) h
          rw [Int.neg_mul] at this
          omega
      have p1 : z * s < 0 := prod_neg hz hs
      have p2 : z * s * m < 0 := prod_neg p1 hm
      have hlo : lo < 0 := by
        rcases lt_geI lo 0 with h | h
        · exact h
        · have := Int.mul_nonneg h (Int.le_of_lt hm)
          omega
      have p3 := Int.mul_nonneg (a := -a) (b := -w) (by omega) (by omega)
      have p4 := Int.mul_nonneg (a := -a) (b := -lo) (by omega) (by omega)
      rw [Int.neg_mul_neg] at p3 p4
      exact .inr (.inr (down (by omega) (by omega)))
    · subst hz
      simp at hzw
    · have hw : 0 < w := by
        rcases lt_geI 0 w with h | h
        · exact h
        · have := Int.mul_nonneg (a := z) (b := -w) (by omega) (by omega)
          rw [Int.mul_neg] at this
          omega
      have p1 : 0 < z * s := Int.mul_pos hz hs
      have p2 : 0 < z * s * m := Int.mul_pos p1 hm
      have hhi : 0 < hi := by
        rcases lt_geI 0 hi with h | h
        · exact h
        · have := Int.mul_nonneg (a := -hi) (b := m) (by omega) (Int.le_of_lt hm)
          rw [Int.neg_mul] at this
          omega
      have p3 := Int.mul_nonneg (a := -a) (b := w) (by omega) (by omega)
      have p4 := Int.mul_nonneg (a := -a) (b := hi) (by omega) (by omega)
      rw [Int.neg_mul] at p3 p4
      exact .inr (.inl (end_up hs hm h2 hn (by omega) (by omega)))
/-- away from the direction: of two ends one is as near. -/
theorem seg_up {a b n1 n2 E1 E2 c : Int} (ha : 0 ≤ a) (hb : 0 ≤ b) (hab : 0 < a + b) (_hE1 : 0 < E1) (_hE2 : 0 < E2) (cs : c * c ≤ E1 * E2) (hP : 0 < a * a * E1 + 2 * a * b * c + b * b * E2) (hn : a * n1 + b * n2 ≤ 0) :
    LeF (ssV (a * n1 + b * n2)) (a * a * E1 + 2 * a * b * c + b * b * E2) (ssV n1) E1 ∨ LeF (ssV (a * n1 + b * n2)) (a * a * E1 + 2 * a * b * c + b * b * E2) (ssV n2) E2 := by
  have hx := ss_np hn
  have lift : ∀ {n E : Int}, 0 ≤ n → 0 < E → LeF (ssV (a * n1 + b * n2)) (a * a * E1 + 2 * a * b * c + b * b * E2) (ssV n) E := by
    intro n E h1 h2
    unfold LeF
    have b1 := Int.mul_nonneg (ss_nn h1) (Int.le_of_lt hP)
    have b2 := Int.mul_nonneg (show 0 ≤ -ssV (a * n1 + b * n2) by omega) (Int.le_of_lt h2)
    rw [Int.neg_mul] at b2
    omega
  rcases lt_geI n1 0 with h1 | h1
  · rcases lt_geI n2 0 with h2 | h2
    · rw [ss_neg hn, ss_neg (by omega : n1 ≤ 0), ss_neg (by omega : n2 ≤ 0)]
      generalize hN : a * n1 + b * n2 = N at *
      generalize hE : a * a * E1 + 2 * a * b * c + b * b * E2 = EP at *
      unfold LeF
      rw [Int.neg_mul, Int.neg_mul, Int.neg_mul, Int.neg_mul]
      by_cases q1 : n1 * n1 * EP ≤ N * N * E1
      · exact .inl (by omega)
      by_cases q2 : n2 * n2 * EP ≤ N * N * E2
      · exact .inr (by omega)
      exfalso
      have hNN := sq_nn N
      have hnn : 0 < n1 * n2 := by
        have := Int.mul_pos (a := -n1) (b := -n2) (by omega) (by omega)
        rw [Int.neg_mul_neg] at this
        exact this
      have hmid : N * N * c ≤ n1 * n2 * EP := by
        rcases Int.le_total c 0 with hc | hc
        · have b1 := Int.mul_nonneg hNN (show 0 ≤ -c by omega)
          rw [Int.mul_neg] at b1
          have b2 := Int.mul_pos hnn hP
          omega
        · rcases lt_geI (n1 * n2 * EP) (N * N * c) with h | h
          · exfalso
            -- squares
            have s1 : n1 * n2 * EP * (n1 * n2 * EP) < N * N * c * (N * N * c) := by
              have p0 : 0 ≤ n1 * n2 * EP := Int.mul_nonneg (Int.le_of_lt hnn) (Int.le_of_lt hP)
              have t1 := Int.mul_le_mul_of_nonneg_left (Int.le_of_lt h) p0
              have t2 := Int.mul_lt_mul_of_pos_right h (show 0 < N * N * c by omega)
              omega
            have s2 : N * N * c * (N * N * c) ≤ N * N * E1 * (N * N * E2) := by
              have t := Int.mul_le_mul_of_nonneg_left cs (Int.mul_nonneg hNN hNN)
              have e1 : N * N * (N * N) * (c * c) = N * N * c * (N * N * c) := by grind
              have e2 : N * N * (N * N) * (E1 * E2) = N * N * E1 * (N * N * E2) := by grind
              omega
            have s3 : N * N * E1 * (N * N * E2) ≤ n1 * n1 * EP * (n2 * n2 * EP) := by
              have p1 : 0 ≤ N * N * E2 := Int.mul_nonneg hNN (by omega)
              have p2 : 0 ≤ n1 * n1 * EP := Int.mul_nonneg (sq_nn n1) (by omega)
              have t1 := Int.mul_le_mul_of_nonneg_right (show N * N * E1 ≤ n1 * n1 * EP by omega) p1
              have t2 := Int.mul_le_mul_of_nonneg_left (show N * N * E2 ≤ n2 * n2 * EP by omega) p2
              omega
            have e3 : n1 * n1 * EP * (n2 * n2 * EP) = n1 * n2 * EP * (n1 * n2 * EP) := by grind
            omega
          · exact h
      have z : a * a * (n1 * n1 * EP - N * N * E1) + 2 * (a * b) * (n1 * n2 * EP - N * N * c) + b * b * (n2 * n2 * EP - N * N * E2) = 0 := by
        rw [← hN, ← hE]
        grind
      have t1 := Int.mul_nonneg (sq_nn a) (show 0 ≤ n1 * n1 * EP - N * N * E1 by omega)
      have t2 := Int.mul_nonneg (show 0 ≤ 2 * (a * b) by have := Int.mul_nonneg ha hb; omega) (show 0 ≤ n1 * n2 * EP - N * N * c by omega)
      have t3 := Int.mul_nonneg (sq_nn b) (show 0 ≤ n2 * n2 * EP - N * N * E2 by omega)
      rcases lt_geI 0 a with q | q
      · have := Int.mul_pos (Int.mul_pos q q) (show 0 < n1 * n1 * EP - N * N * E1 by omega)
        omega
      · have q' : 0 < b := by omega
        have := Int.mul_pos (Int.mul_pos q' q') (show 0 < n2 * n2 * EP - N * N * E2 by omega)
        omega
    · exact .inr (lift h2 _hE2)
  · exact .inl (lift h1 _hE1)
end Go.Proofs.YtfonpobdnhifgamGreatDoor
namespace Go.Proofs.YtfonpobdnhifgamGreatDoor
open Go Go.RowKit

/-- a cosine as it is kept: sign times the root of over/under. -/
structure Co where
  sg : Int
  ov : Int
  un : Int
def Co.x (c : Co) : Int := c.sg * c.ov
/-- one that is right. -/
structure Co.Ok (c : Co) : Prop where
  un : 0 < c.un
  sg : (c.sg = 0 ∧ c.ov = 0) ∨ (c.sg = 1 ∧ 0 < c.ov) ∨ (c.sg = -1 ∧ 0 < c.ov)
def cmpZ (x y : Int) : Int := if x < y then -1 else if y < x then 1 else 0
def coCmp (a b : Co) : Int := if a.sg ≠ b.sg then cmpZ a.sg b.sg else a.sg * cmpZ (a.ov * b.un) (b.ov * a.un)
def Co.le (a b : Co) : Prop := LeF a.x a.un b.x b.un
theorem Co.le.trans {a b c : Co} (h1 : a.le b) (h2 : b.le c) (ha : a.Ok) (hb : b.Ok) (hc : c.Ok) : a.le c := LeF.trans h1 h2 ha.un hb.un hc.un
theorem Co.le_total (a b : Co) : a.le b ∨ b.le a := Int.le_total _ _
theorem Co.le_refl (a : Co) : a.le a := Int.le_refl _
theorem cmpZ_neg (x y : Int) : cmpZ (-x) (-y) = -cmpZ x y := by
  unfold cmpZ
  by_cases h1 : x < y
  · rw [if_neg (by omega), if_pos (by omega), if_pos h1]
    rfl
  · by_cases h2 : y < x
    · rw [if_pos (by omega), if_neg h1, if_pos h2]
    · rw [if_neg (by omega), if_neg (by omega), if_neg h1, if_neg h2]
      rfl
theorem cmpZ_lt {x y : Int} (h : x < y) : cmpZ x y = -1 := by unfold cmpZ; rw [if_pos h]
theorem cmpZ_gt {x y : Int} (h : y < x) : cmpZ x y = 1 := by unfold cmpZ; rw [if_neg (by omega), if_pos h]
theorem cmpZ_eq (x : Int) : cmpZ x x = 0 := by unfold cmpZ; rw [if_neg (by omega), if_neg (by omega)]
/-- compared as what they stand for. -/
theorem coCmp_is {a b : Co} (ha : a.Ok) (hb : b.Ok) : coCmp a b = cmpZ (a.x * b.un) (b.x * a.un) := by
  have u1 := ha.un
  have u2 := hb.un
  unfold coCmp Co.x
  rcases ha.sg with ⟨s1, o1⟩ | ⟨s1, o1⟩ | ⟨s1, o1⟩ <;> rcases hb.sg with ⟨s2, o2⟩ | ⟨s2, o2⟩ | ⟨s2, o2⟩ <;> rw [s1, s2]
  · rw [if_neg (by decide)]; simp [cmpZ]
  · rw [if_pos (by decide)]
    have := Int.mul_pos o2 u1
    simp only [Int.zero_mul, Int.one_mul]
    exact Eq.trans (b := -1) rfl (cmpZ_lt this).symm
  · rw [if_pos (by decide)]
    have := Int.mul_pos o2 u1
    simp only [Int.zero_mul, Int.neg_mul, Int.one_mul]
    exact Eq.trans (b := 1) rfl (cmpZ_gt (by omega)).symm
  · rw [if_pos (by decide)]
    have := Int.mul_pos o1 u2
    simp only [Int.zero_mul, Int.one_mul]
    exact Eq.trans (b := 1) rfl (cmpZ_gt (by omega)).symm
  · rw [if_neg (by decide)]; simp only [Int.one_mul]
  · rw [if_pos (by decide)]
    have h1 := Int.mul_pos o1 u2
    have h2 := Int.mul_pos o2 u1
    simp only [Int.neg_mul, Int.one_mul]
    exact Eq.trans (b := 1) rfl (cmpZ_gt (by omega)).symm
  · rw [if_pos (by decide)]
    have := Int.mul_pos o1 u2
    simp only [Int.zero_mul, Int.neg_mul, Int.one_mul]
    exact Eq.trans (b := -1) rfl (cmpZ_lt (by omega)).symm
  · rw [if_pos (by decide)]
    have h1 := Int.mul_pos o1 u2
    have h2 := Int.mul_pos o2 u1
    simp only [Int.neg_mul, Int.one_mul]
    exact Eq.trans (b := -1) rfl (cmpZ_lt (by omega)).symm
  · rw [if_neg (by decide)]
    simp only [Int.neg_mul, Int.one_mul]
    rw [cmpZ_neg]
theorem coCmp_nn {a b : Co} (ha : a.Ok) (hb : b.Ok) : 0 ≤ coCmp a b ↔ b.le a := by
  rw [coCmp_is ha hb]
  unfold Co.le LeF cmpZ
  split
  · omega
  · split <;> omega
theorem coCmp_pos {a b : Co} (ha : a.Ok) (hb : b.Ok) : 0 < coCmp a b ↔ ¬ a.le b := by
  rw [coCmp_is ha hb]
  unfold Co.le LeF cmpZ
  split
  · omega
  · split <;> omega
theorem coCmp_neg {a b : Co} (ha : a.Ok) (hb : b.Ok) : coCmp a b < 0 ↔ ¬ b.le a := by
  rw [coCmp_is ha hb]
  unfold Co.le LeF cmpZ
  split
  · omega
  · split <;> omega
/-- the cosine to a direction. -/
def coTo (d e : Dr) : Co := ⟨sgV (dtV d e), dtV d e * dtV d e, dtV e e⟩
def coFrom (d : Dr) (num den : Int) : Co := ⟨sgV num, num * num * dtV d d, den * den⟩
theorem sg_ok (n : Int) : (sgV n = 0 ∧ n = 0) ∨ (sgV n = 1 ∧ 0 < n) ∨ (sgV n = -1 ∧ n < 0) := by
  unfold sgV
  split
  · exact .inr (.inr ⟨rfl, by omega⟩)
  · split
    · exact .inr (.inl ⟨rfl, by omega⟩)
    · exact .inl ⟨rfl, by omega⟩
theorem sq_pos {n : Int} (h : n ≠ 0) : 0 < n * n := by
  rcases Int.lt_trichotomy n 0 with q | q | q
  · have := Int.mul_pos (a := -n) (b := -n) (by omega) (by omega)
    rw [Int.neg_mul_neg] at this
    exact this
  · exact absurd q h
  · exact Int.mul_pos q q
theorem dt_pos {d : Dr} (h : d.x ≠ 0 ∨ d.y ≠ 0 ∨ d.z ≠ 0) : 0 < dtV d d := by
  unfold dtV
  have h1 := sq_nn d.x
  have h2 := sq_nn d.y
  have h3 := sq_nn d.z
  rcases h with h | h | h <;> have := sq_pos h <;> omega
theorem coTo_ok {d e : Dr} (h : 0 < dtV e e) : (coTo d e).Ok := by
  refine ⟨h, ?_⟩
  show (sgV (dtV d e) = 0 ∧ dtV d e * dtV d e = 0) ∨ (sgV (dtV d e) = 1 ∧ 0 < dtV d e * dtV d e) ∨ (sgV (dtV d e) = -1 ∧ 0 < dtV d e * dtV d e)
  rcases sg_ok (dtV d e) with ⟨h1, h2⟩ | ⟨h1, h2⟩ | ⟨h1, h2⟩
  · exact .inl ⟨h1, by rw [h2]; rfl⟩
  · exact .inr (.inl ⟨h1, sq_pos (by omega)⟩)
  · exact .inr (.inr ⟨h1, sq_pos (by omega)⟩)
theorem coFrom_ok {d : Dr} {num den : Int} (h : 0 < dtV d d) (hd : 0 < den) : (coFrom d num den).Ok := by
  refine ⟨Int.mul_pos hd hd, ?_⟩
  show (sgV num = 0 ∧ num * num * dtV d d = 0) ∨ (sgV num = 1 ∧ 0 < num * num * dtV d d) ∨ (sgV num = -1 ∧ 0 < num * num * dtV d d)
  rcases sg_ok num with ⟨h1, h2⟩ | ⟨h1, h2⟩ | ⟨h1, h2⟩
  · exact .inl ⟨h1, by rw [h2]; simp⟩
  · exact .inr (.inl ⟨h1, Int.mul_pos (sq_pos (by omega)) h⟩)
  · exact .inr (.inr ⟨h1, Int.mul_pos (sq_pos (by omega)) h⟩)
theorem coTo_x (d e : Dr) : (coTo d e).x = ssV (dtV d e) := rfl
/-- a window: a cell as seen from its face. -/
structure Wn where
  o : Int
  l : Int
  r : Int
  b : Int
  t : Int
def Wn.holdsB (w : Wn) (d : Dr) : Bool := decide (w.l * d.x ≤ d.y * w.o) && (decide (d.y * w.o ≤ w.r * d.x) && (decide (w.b * d.x ≤ d.z * w.o) && decide (d.z * w.o ≤ w.t * d.x)))
def Wn.corners (w : Wn) (d : Dr) : List Co := [coTo d ⟨w.o, w.l, w.b⟩, coTo d ⟨w.o, w.l, w.t⟩, coTo d ⟨w.o, w.r, w.b⟩, coTo d ⟨w.o, w.r, w.t⟩]
def ftB (d : Dr) (o u lo hi : Int) : Bool := !(decide (d.z * (o * o + u * u) ≤ lo * (d.x * o + d.y * u)) || decide (hi * (d.x * o + d.y * u) ≤ d.z * (o * o + u * u)))
def ftV (d : Dr) (o u : Int) : Co := ⟨1, (d.x * o + d.y * u) * (d.x * o + d.y * u) + d.z * d.z * (o * o + u * u), o * o + u * u⟩
def ftL (d : Dr) (o u lo hi : Int) : List Co := if ftB d o u lo hi then [ftV d o u] else []
def miV (d : Dr) : Dr := ⟨d.x, d.z, d.y⟩
def Wn.feet (w : Wn) (d : Dr) : List Co := ftL d w.o w.l w.b w.t ++ ftL d w.o w.r w.b w.t ++ ftL (miV d) w.o w.b w.l w.r ++ ftL (miV d) w.o w.t w.l w.r
def Wn.all (w : Wn) (d : Dr) : List Co := w.corners d ++ w.feet d
structure Wn.Ok (w : Wn) : Prop where
  o : 0 < w.o
  lr : w.l < w.r
  bt : w.b < w.t
/-- it lies in the window. -/
structure Wn.In (w : Wn) (e : Dr) : Prop where
  x : 0 < e.x
  l : w.l * e.x ≤ e.y * w.o
  r : e.y * w.o ≤ w.r * e.x
  b : w.b * e.x ≤ e.z * w.o
  t : e.z * w.o ≤ w.t * e.x
theorem ft_ok {d : Dr} {o u lo hi : Int} (ho : 0 < o) (hlh : lo < hi) (h : ftB d o u lo hi = true) : (ftV d o u).Ok := by
  unfold ftB at h
  simp only [Bool.not_eq_true', Bool.or_eq_false_iff, decide_eq_false_iff_not] at h
  obtain ⟨h1, h2⟩ := h
  have hs : 0 < o * o + u * u := by have := Int.mul_pos ho ho; have := sq_nn u; omega
  have ha : 0 < d.x * o + d.y * u := by
    rcases lt_geI 0 (d.x * o + d.y * u) with q | q
    · exact q
    · have := Int.mul_nonneg (a := hi - lo) (b := -(d.x * o + d.y * u)) (by omega) (by omega)
      have e : (hi - lo) * -(d.x * o + d.y * u) = lo * (d.x * o + d.y * u) - hi * (d.x * o + d.y * u) := by grind
      omega
  refine ⟨hs, .inr (.inl ⟨rfl, ?_⟩)⟩
  show 0 < (d.x * o + d.y * u) * (d.x * o + d.y * u) + d.z * d.z * (o * o + u * u)
  have h3 := Int.mul_pos ha ha
  have h4 := Int.mul_nonneg (sq_nn d.z) (Int.le_of_lt hs)
  omega
theorem ftL_ok {d : Dr} {o u lo hi : Int} (ho : 0 < o) (hlh : lo < hi) : ∀ c ∈ ftL d o u lo hi, c.Ok := by
  intro c hc
  unfold ftL at hc
  split at hc
  · rename_i h
    rw [List.mem_singleton] at hc
    subst hc
    exact ft_ok ho hlh h
  · cases hc
theorem Wn.all_ok {w : Wn} (h : w.Ok) (d : Dr) : ∀ c ∈ w.all d, c.Ok := by
  intro c hc
  unfold Wn.all Wn.corners Wn.feet at hc
  simp only [List.mem_append, List.mem_cons, List.not_mem_nil, or_false] at hc
  have k : ∀ u v, (coTo d ⟨w.o, u, v⟩).Ok := fun u v => coTo_ok (dt_pos (.inl (by show w.o ≠ 0; have := h.o; omega)))
  rcases hc with (rfl | rfl | rfl | rfl) | ((hc | hc) | hc) | hc
  · exact k _ _
  · exact k _ _
  · exact k _ _
  · exact k _ _
  · exact ftL_ok h.o h.bt c hc
  · exact ftL_ok h.o h.bt c hc
  · exact ftL_ok h.o h.lr c hc
  · exact ftL_ok h.o h.lr c hc
/-- the first edge that is met. -/
theorem first_met : ∀ (l : List (Int × Int)), (∀ p ∈ l, 0 ≤ p.1) → (∃ p ∈ l, p.2 < 0) → ∃ k ∈ l, k.2 < 0 ∧ ∀ j ∈ l, 0 ≤ j.1 * -k.2 + k.1 * j.2
  | [], _, h => by obtain ⟨p, hp, _⟩ := h; cases hp
  | a :: l, hx, h => by
    have ha := hx a (List.mem_cons_self ..)
    have hl : ∀ p ∈ l, 0 ≤ p.1 := fun p hp => hx p (List.mem_cons_of_mem _ hp)
    by_cases q : ∃ p ∈ l, p.2 < 0
    · obtain ⟨k, hk, k2, hj⟩ := first_met l hl q
      have hk1 := hl k hk
      by_cases q2 : 0 ≤ a.1 * -k.2 + k.1 * a.2
      · refine ⟨k, List.mem_cons_of_mem _ hk, k2, fun j hjm => ?_⟩
        rcases List.mem_cons.1 hjm with rfl | hjm
        · exact q2
        · exact hj j hjm
      · -- then a is met ahead of k
        have a2 : a.2 < 0 := by
          rcases lt_geI a.2 0 with h1 | h1
          · exact h1
          · have t1 := Int.mul_nonneg ha (show 0 ≤ -k.2 by omega)
            have t2 := Int.mul_nonneg hk1 h1
            omega
        refine ⟨a, List.mem_cons_self .., a2, fun j hjm => ?_⟩
        rcases List.mem_cons.1 hjm with rfl | hjm
        · have e : j.1 * -j.2 + j.1 * j.2 = 0 := by grind
          omega
        · have hj1 := hl j hjm
          rcases lt_geI j.2 0 with h1 | h1
          · have t := hj j hjm
            have t1 : LeF a.1 (-a.2) k.1 (-k.2) := by
              unfold LeF
              have e : k.1 * -a.2 = -(k.1 * a.2) := Int.mul_neg _ _
              omega
            have t2 : LeF k.1 (-k.2) j.1 (-j.2) := by
              unfold LeF
              have e : k.1 * -j.2 = -(k.1 * j.2) := Int.mul_neg _ _
              omega
            have t3 := t1.trans t2 (by omega) (by omega) (by omega)
            unfold LeF at t3
            have e : a.1 * -j.2 = -(a.1 * j.2) := Int.mul_neg _ _
            omega
          · have t1 := Int.mul_nonneg hj1 (show 0 ≤ -a.2 by omega)
            have t2 := Int.mul_nonneg ha h1
            omega
    · obtain ⟨p, hp, hp2⟩ := h
      rcases List.mem_cons.1 hp with rfl | hp
      · refine ⟨p, List.mem_cons_self .., hp2, fun j hjm => ?_⟩
        rcases List.mem_cons.1 hjm with rfl | hjm
        · have e : j.1 * -j.2 + j.1 * j.2 = 0 := by grind
          omega
        · have h1 : 0 ≤ j.2 := by
            rcases lt_geI j.2 0 with h | h
            · exact absurd ⟨j, hjm, h⟩ q
            · exact h
          have t1 := Int.mul_nonneg (hl j hjm) (show 0 ≤ -p.2 by omega)
          have t2 := Int.mul_nonneg ha h1
          omega
      · exact absurd ⟨p, hp, hp2⟩ q
/-- a point of an edge, by which way: one of what is told is as near. -/
theorem on_edge {d : Dr} {o u lo hi X Y Z : Int} (ho : 0 < o) (hX : 0 < X) (hY : Y * o = u * X) (h1 : lo * X ≤ Z * o) (h2 : Z * o ≤ hi * X) (hn : 0 < d.x * X + d.y * Y + d.z * Z) :
    ∃ c ∈ coTo d ⟨o, u, lo⟩ :: coTo d ⟨o, u, hi⟩ :: ftL d o u lo hi, LeF ((d.x * X + d.y * Y + d.z * Z) * (d.x * X + d.y * Y + d.z * Z)) (X * X + Y * Y + Z * Z) c.x c.un := by
  have hs : 0 < o * o + u * u := by have := Int.mul_pos ho ho; have := sq_nn u; omega
  have e1 : X * (d.x * o + d.y * u) + d.z * (Z * o) = o * (d.x * X + d.y * Y + d.z * Z) := by
    have : d.y * (u * X) = d.y * (Y * o) := by rw [hY]
    grind
  have e2 : X * X * (o * o + u * u) + Z * o * (Z * o) = o * o * (X * X + Y * Y + Z * Z) := by
    have : u * X * (u * X) = Y * o * (Y * o) := by rw [hY]
    grind
  have hoo : 0 < o * o := Int.mul_pos ho ho
  have r := edge_up (a := d.x * o + d.y * u) (z := d.z) (s := o * o + u * u) (m := X) (w := Z * o) (lo := lo) (hi := hi) hs hX h1 h2 (by rw [e1]; exact Int.mul_pos ho hn)
  rw [e1, e2] at r
  generalize d.x * X + d.y * Y + d.z * Z = n at *
  generalize X * X + Y * Y + Z * Z = E at *
  have cut : ∀ {p q : Int}, o * n * (o * n) * p ≤ q * (o * o * E) → n * n * p ≤ q * E := by
    intro p q h
    have a1 : o * n * (o * n) * p = o * o * (n * n * p) := by grind
    have a2 : q * (o * o * E) = o * o * (q * E) := by grind
    rw [a1, a2] at h
    exact Int.le_of_mul_le_mul_left h hoo
  rcases r with ⟨f1, f2, f3⟩ | ⟨f1, f2⟩ | ⟨f1, f2⟩
  · have hb : ftB d o u lo hi = true := by
      unfold ftB
      simp only [Bool.not_eq_true', Bool.or_eq_false_iff, decide_eq_false_iff_not]
      omega
    refine ⟨ftV d o u, by unfold ftL; rw [if_pos hb]; simp, ?_⟩
    have := cut f3
    unfold LeF ftV Co.x
    simp only [Int.one_mul]
    exact this
  · refine ⟨coTo d ⟨o, u, hi⟩, by simp, ?_⟩
    have := cut f2
    have e3 : dtV d ⟨o, u, hi⟩ = d.x * o + d.y * u + d.z * hi := rfl
    unfold LeF
    rw [coTo_x, e3, ss_pos f1]
    show n * n * (o * o + u * u + hi * hi) ≤ _
    exact this
  · refine ⟨coTo d ⟨o, u, lo⟩, by simp, ?_⟩
    have := cut f2
    have e3 : dtV d ⟨o, u, lo⟩ = d.x * o + d.y * u + d.z * lo := rfl
    unfold LeF
    rw [coTo_x, e3, ss_pos f1]
    show n * n * (o * o + u * u + lo * lo) ≤ _
    exact this
/-- towards the direction. -/
theorem near_pos {w : Wn} (hw : w.Ok) {d e : Dr} (he : w.In e) (hd : w.holdsB d = false) (hn : 0 < dtV d e) : ∃ c ∈ w.all d, (coTo d e).le c := by
  have ho := hw.o
  have hlr := hw.lr
  have hbt := hw.bt
  have x0 := he.x
  -- the four edges
  obtain ⟨k, hk, k2, hj⟩ := first_met [(e.y * w.o - w.l * e.x, d.y * w.o - w.l * d.x), (w.r * e.x - e.y * w.o, w.r * d.x - d.y * w.o), (e.z * w.o - w.b * e.x, d.z * w.o - w.b * d.x), (w.t * e.x - e.z * w.o, w.t * d.x - d.z * w.o)]
    (by
      intro p hp
      have h1 := he.l
      have h2 := he.r
      have h3 := he.b
      have h4 := he.t
      simp only [List.mem_cons, List.not_mem_nil, or_false] at hp
      rcases hp with rfl | rfl | rfl | rfl <;> simp only <;> omega)
    (by
      unfold Wn.holdsB at hd
      simp only [Bool.and_eq_false_iff, decide_eq_false_iff_not] at hd
      rcases hd with h | h | h | h
      · exact ⟨_, List.mem_cons_self .., by simp only; omega⟩
      · exact ⟨_, List.mem_cons_of_mem _ (List.mem_cons_self ..), by simp only; omega⟩
      · exact ⟨_, List.mem_cons_of_mem _ (List.mem_cons_of_mem _ (List.mem_cons_self ..)), by simp only; omega⟩
      · exact ⟨_, List.mem_cons_of_mem _ (List.mem_cons_of_mem _ (List.mem_cons_of_mem _ (List.mem_cons_self ..))), by simp only; omega⟩)
  have k1 : 0 ≤ k.1 := by
    have h1 := he.l
    have h2 := he.r
    have h3 := he.b
    have h4 := he.t
    simp only [List.mem_cons, List.not_mem_nil, or_false] at hk
    rcases hk with rfl | rfl | rfl | rfl <;> simp only <;> omega
  -- where it is met
  obtain ⟨q, hq⟩ : ∃ q, q = -k.2 := ⟨_, rfl⟩
  obtain ⟨p, hp⟩ : ∃ p, p = k.1 := ⟨_, rfl⟩
  have q0 : 0 < q := by omega
  have p0 : 0 ≤ p := by omega
  obtain ⟨X, hX⟩ : ∃ X, X = q * e.x + p * d.x := ⟨_, rfl⟩
  obtain ⟨Y, hY⟩ : ∃ Y, Y = q * e.y + p * d.y := ⟨_, rfl⟩
  obtain ⟨Z, hZ⟩ : ∃ Z, Z = q * e.z + p * d.z := ⟨_, rfl⟩
  have g1 : w.l * X ≤ Y * w.o := by
    have := hj _ (List.mem_cons_self ..)
    simp only at this
    rw [← hq, ← hp] at this
    rw [hX, hY]
    have e1 : (q * e.y + p * d.y) * w.o - w.l * (q * e.x + p * d.x) = (e.y * w.o - w.l * e.x) * q + p * (d.y * w.o - w.l * d.x) := by grind
    omega
  have g2 : Y * w.o ≤ w.r * X := by
    have := hj _ (List.mem_cons_of_mem _ (List.mem_cons_self ..))
    simp only at this
    rw [← hq, ← hp] at this
    rw [hX, hY]
    have e1 : w.r * (q * e.x + p * d.x) - (q * e.y + p * d.y) * w.o = (w.r * e.x - e.y * w.o) * q + p * (w.r * d.x - d.y * w.o) := by grind
    omega
  have g3 : w.b * X ≤ Z * w.o := by
    have := hj _ (List.mem_cons_of_mem _ (List.mem_cons_of_mem _ (List.mem_cons_self ..)))
    simp only at this
    rw [← hq, ← hp] at this
    rw [hX, hZ]
    have e1 : (q * e.z + p * d.z) * w.o - w.b * (q * e.x + p * d.x) = (e.z * w.o - w.b * e.x) * q + p * (d.z * w.o - w.b * d.x) := by grind
    omega
  have g4 : Z * w.o ≤ w.t * X := by
    have := hj _ (List.mem_cons_of_mem _ (List.mem_cons_of_mem _ (List.mem_cons_of_mem _ (List.mem_cons_self ..))))
    simp only at this
    rw [← hq, ← hp] at this
    rw [hX, hZ]
    have e1 : w.t * (q * e.x + p * d.x) - (q * e.z + p * d.z) * w.o = (w.t * e.x - e.z * w.o) * q + p * (w.t * d.x - d.z * w.o) := by grind
    omega
  -- it is nearer
  have hD : 0 ≤ dtV d d := by
    unfold dtV
    have h1 := sq_nn d.x
    have h2 := sq_nn d.y
    have h3 := sq_nn d.z
    omega
  have mv := move_up (n := dtV d e) (D := dtV d d) (E := dtV e e) hn q0 p0 hD (cs3 d.x d.y d.z e.x e.y e.z)
  have en : q * dtV d e + p * dtV d d = d.x * X + d.y * Y + d.z * Z := by
    rw [hX, hY, hZ]
    unfold dtV
    grind
  have eE : q * q * dtV e e + 2 * q * p * dtV d e + p * p * dtV d d = X * X + Y * Y + Z * Z := by
    rw [hX, hY, hZ]
    unfold dtV
    grind
  rw [en, eE] at mv
  obtain ⟨nB, mv⟩ := mv
  have x1 : 0 < X := by
    have t1 : 0 ≤ (w.r - w.l) * X := by
      have e1 : (w.r - w.l) * X = w.r * X - w.l * X := by grind
      omega
    have t2 : 0 ≤ X := by
      rcases lt_geI X 0 with h | h
      · have := Int.mul_pos (a := w.r - w.l) (b := -X) (by omega) (by omega)
        rw [Int.mul_neg] at this
        omega
      · exact h
    rcases Int.lt_or_eq_of_le t2 with h | h
    · exact h
    · rw [← h] at g1 g2 g3 g4
      simp only [Int.mul_zero] at g1 g2 g3 g4
      have y0 : Y = 0 := by
        have := Int.le_antisymm g2 g1
        rcases Int.mul_eq_zero.1 this with h | h
        · exact h
        · omega
      have z0 : Z = 0 := by
        have := Int.le_antisymm g4 g3
        rcases Int.mul_eq_zero.1 this with h | h
        · exact h
        · omega
      rw [← h, y0, z0] at nB
      simp at nB
  have eB : 0 < X * X + Y * Y + Z * Z := by
    have h1 := Int.mul_pos x1 x1
    have h2 := sq_nn Y
    have h3 := sq_nn Z
    omega
  have eE0 : 0 < dtV e e := dt_pos (.inl (by omega))
  have fin : ∀ c : Co, c.Ok → LeF ((d.x * X + d.y * Y + d.z * Z) * (d.x * X + d.y * Y + d.z * Z)) (X * X + Y * Y + Z * Z) c.x c.un → (coTo d e).le c := by
    intro c hc h
    refine LeF.trans (y := (d.x * X + d.y * Y + d.z * Z) * (d.x * X + d.y * Y + d.z * Z)) (v := X * X + Y * Y + Z * Z) ?_ h eE0 eB hc.un
    unfold LeF
    rw [coTo_x, ss_pos (Int.le_of_lt hn)]
    exact mv
  have hok := Wn.all_ok hw d
  have mir : d.x * X + d.z * Z + d.y * Y = d.x * X + d.y * Y + d.z * Z := by omega
  have mirE : X * X + Z * Z + Y * Y = X * X + Y * Y + Z * Z := by omega
  have mc : ∀ u v, coTo (miV d) ⟨w.o, u, v⟩ = coTo d ⟨w.o, v, u⟩ := by
    intro u v
    have a1 : dtV (miV d) ⟨w.o, u, v⟩ = dtV d ⟨w.o, v, u⟩ := by show d.x * w.o + d.z * u + d.y * v = d.x * w.o + d.y * v + d.z * u; omega
    have a2 : dtV ⟨w.o, u, v⟩ ⟨w.o, u, v⟩ = dtV ⟨w.o, v, u⟩ ⟨w.o, v, u⟩ := by show w.o * w.o + u * u + v * v = w.o * w.o + v * v + u * u; omega
    unfold coTo
    rw [a1, a2]
  simp only [List.mem_cons, List.not_mem_nil, or_false] at hk
  rcases hk with rfl | rfl | rfl | rfl
  · have hy : Y * w.o = w.l * X := by
      rw [hX, hY]
      simp only at hq hp
      rw [hq, hp]
      grind
    obtain ⟨c, hc, hle⟩ := on_edge (d := d) ho x1 hy g3 g4 nB
    have hm : c ∈ w.all d := by
      unfold Wn.all Wn.corners Wn.feet
      simp only [List.mem_cons] at hc
      rcases hc with rfl | rfl | hc <;> simp [*]
    exact ⟨c, hm, fin c (hok c hm) hle⟩
  · have hy : Y * w.o = w.r * X := by
      rw [hX, hY]
      simp only at hq hp
      rw [hq, hp]
      grind
    obtain ⟨c, hc, hle⟩ := on_edge (d := d) ho x1 hy g3 g4 nB
    have hm : c ∈ w.all d := by
      unfold Wn.all Wn.corners Wn.feet
      simp only [List.mem_cons] at hc
      rcases hc with rfl | rfl | hc <;> simp [*]
    exact ⟨c, hm, fin c (hok c hm) hle⟩
  · have hz : Z * w.o = w.b * X := by
      rw [hX, hZ]
      simp only at hq hp
      rw [hq, hp]
      grind
    obtain ⟨c, hc, hle⟩ := on_edge (d := miV d) ho x1 hz g1 g2 (by show 0 < d.x * X + d.z * Z + d.y * Y; omega)
    rw [mc, mc] at hc
    have hle' : LeF ((d.x * X + d.z * Z + d.y * Y) * (d.x * X + d.z * Z + d.y * Y)) (X * X + Z * Z + Y * Y) c.x c.un := hle
    rw [mir, mirE] at hle'
    have hm : c ∈ w.all d := by
      unfold Wn.all Wn.corners Wn.feet
      simp only [List.mem_cons] at hc
      rcases hc with rfl | rfl | hc <;> simp [*]
    exact ⟨c, hm, fin c (hok c hm) hle'⟩
  · have hz : Z * w.o = w.t * X := by
      rw [hX, hZ]
      simp only at hq hp
      rw [hq, hp]
      grind
    obtain ⟨c, hc, hle⟩ := on_edge (d := miV d) ho x1 hz g1 g2 (by show 0 < d.x * X + d.z * Z + d.y * Y; omega)
    rw [mc, mc] at hc
    have hle' : LeF ((d.x * X + d.z * Z + d.y * Y) * (d.x * X + d.z * Z + d.y * Y)) (X * X + Z * Z + Y * Y) c.x c.un := hle
    rw [mir, mirE] at hle'
    have hm : c ∈ w.all d := by
      unfold Wn.all Wn.corners Wn.feet
      simp only [List.mem_cons] at hc
      rcases hc with rfl | rfl | hc <;> simp [*]
    exact ⟨c, hm, fin c (hok c hm) hle'⟩
/-- a point between two others, away from the direction. -/
theorem between {d P Q : Dr} {a b k : Int} {e : Dr} (ha : 0 ≤ a) (hb : 0 ≤ b) (hab : 0 < a + b) (hk : 0 < k) (hP : 0 < dtV P P) (hQ : 0 < dtV Q Q) (he : 0 < dtV e e) (ex : k * e.x = a * P.x + b * Q.x) (ey : k * e.y = a * P.y + b * Q.y) (ez : k * e.z = a * P.z + b * Q.z) (hn : dtV d e ≤ 0) : (coTo d e).le (coTo d P) ∨ (coTo d e).le (coTo d Q) := by
  have eN : k * dtV d e = a * dtV d P + b * dtV d Q := by unfold dtV; grind
  have eE : k * k * dtV e e = a * a * dtV P P + 2 * a * b * dtV P Q + b * b * dtV Q Q := by
    have h1 : (k * e.x) * (k * e.x) = (a * P.x + b * Q.x) * (a * P.x + b * Q.x) := by rw [ex]
    have h2 : (k * e.y) * (k * e.y) = (a * P.y + b * Q.y) * (a * P.y + b * Q.y) := by rw [ey]
    have h3 : (k * e.z) * (k * e.z) = (a * P.z + b * Q.z) * (a * P.z + b * Q.z) := by rw [ez]
    unfold dtV
    grind
  have hkk : 0 < k * k := Int.mul_pos hk hk
  have r := seg_up (a := a) (b := b) (n1 := dtV d P) (n2 := dtV d Q) (E1 := dtV P P) (E2 := dtV Q Q) (c := dtV P Q) ha hb hab hP hQ (cs3 P.x P.y P.z Q.x Q.y Q.z) (by rw [← eE]; exact Int.mul_pos hkk he) (by
    rw [← eN]
    have := Int.mul_nonneg (a := k) (b := -dtV d e) (by omega) (by omega)
    rw [Int.mul_neg] at this
    omega)
  rw [← eN, ← eE, ss_scale _ hk] at r
  have cut : ∀ {y v : Int}, LeF (k * k * ssV (dtV d e)) (k * k * dtV e e) y v → LeF (ssV (dtV d e)) (dtV e e) y v := by
    intro y v h
    unfold LeF at h ⊢
    have a1 : k * k * ssV (dtV d e) * v = k * k * (ssV (dtV d e) * v) := by grind
    have a2 : y * (k * k * dtV e e) = k * k * (y * dtV e e) := by grind
    rw [a1, a2] at h
    exact Int.le_of_mul_le_mul_left h hkk
  exact r.imp (fun h => cut h) (fun h => cut h)
theorem le_of_signs {d e c : Dr} (he : 0 < dtV e e) (hc : 0 < dtV c c) (h1 : dtV d e ≤ 0) (h2 : 0 ≤ dtV d c) : (coTo d e).le (coTo d c) := by
  unfold Co.le LeF
  rw [coTo_x, coTo_x]
  have a1 := Int.mul_nonneg (ss_nn h2) (Int.le_of_lt he)
  have a2 := Int.mul_nonneg (show 0 ≤ -ssV (dtV d e) by have := ss_np h1; omega) (Int.le_of_lt hc)
  rw [Int.neg_mul] at a2
  show ssV (dtV d e) * dtV c c ≤ ssV (dtV d c) * dtV e e
  omega
/-- away from the direction. -/
theorem near_neg {w : Wn} (hw : w.Ok) {d e : Dr} (he : w.In e) (hn : dtV d e ≤ 0) : ∃ c ∈ w.all d, (coTo d e).le c := by
  have ho := hw.o
  have hlr := hw.lr
  have hbt := hw.bt
  have x0 := he.x
  have e1 := he.l
  have e2 := he.r
  have e3 := he.b
  have e4 := he.t
  have eE : 0 < dtV e e := dt_pos (.inl (by omega))
  have edge : ∀ u, dtV ⟨w.o * e.x, u * e.x, w.o * e.z⟩ ⟨w.o * e.x, u * e.x, w.o * e.z⟩ > 0 := fun u => dt_pos (.inl (by have := Int.mul_pos ho x0; show w.o * e.x ≠ 0; omega))
  have corn : ∀ u v, 0 < dtV ⟨w.o, u, v⟩ ⟨w.o, u, v⟩ := fun u v => dt_pos (.inl (by show w.o ≠ 0; omega))
  have step : ∀ u, (coTo d e).le (coTo d ⟨w.o * e.x, u * e.x, w.o * e.z⟩) → (coTo d e).le (coTo d ⟨w.o, u, w.b⟩) ∨ (coTo d e).le (coTo d ⟨w.o, u, w.t⟩) := by
    intro u h
    by_cases q : dtV d ⟨w.o * e.x, u * e.x, w.o * e.z⟩ ≤ 0
    · have r := between (d := d) (P := ⟨w.o, u, w.b⟩) (Q := ⟨w.o, u, w.t⟩) (a := w.t * e.x - e.z * w.o) (b := e.z * w.o - w.b * e.x) (k := w.t - w.b) (e := ⟨w.o * e.x, u * e.x, w.o * e.z⟩) (by omega) (by omega)
        (by have := Int.mul_pos (a := w.t - w.b) (b := e.x) (by omega) x0; have a1 : (w.t - w.b) * e.x = w.t * e.x - w.b * e.x := by grind
            omega)
        (by omega) (corn _ _) (corn _ _) (edge u) (by simp only; grind) (by simp only; grind) (by simp only; grind) q
      exact r.imp (fun r => h.trans r (coTo_ok eE) (coTo_ok (edge u)) (coTo_ok (corn _ _))) (fun r => h.trans r (coTo_ok eE) (coTo_ok (edge u)) (coTo_ok (corn _ _)))
    · by_cases q1 : 0 ≤ dtV d ⟨w.o, u, w.b⟩
      · exact .inl (le_of_signs eE (corn _ _) hn q1)
      · by_cases q2 : 0 ≤ dtV d ⟨w.o, u, w.t⟩
        · exact .inr (le_of_signs eE (corn _ _) hn q2)
        · exfalso
          have a1 : (w.t - w.b) * dtV d ⟨w.o * e.x, u * e.x, w.o * e.z⟩ = (w.t * e.x - e.z * w.o) * dtV d ⟨w.o, u, w.b⟩ + (e.z * w.o - w.b * e.x) * dtV d ⟨w.o, u, w.t⟩ := by unfold dtV; grind
          have a2 := Int.mul_pos (a := w.t - w.b) (b := dtV d ⟨w.o * e.x, u * e.x, w.o * e.z⟩) (by omega) (by omega)
          have a3 := Int.mul_nonneg (a := w.t * e.x - e.z * w.o) (b := -dtV d ⟨w.o, u, w.b⟩) (by omega) (by omega)
          have a4 := Int.mul_nonneg (a := e.z * w.o - w.b * e.x) (b := -dtV d ⟨w.o, u, w.t⟩) (by omega) (by omega)
          rw [Int.mul_neg] at a3 a4
          omega
  have r := between (d := d) (P := ⟨w.o * e.x, w.l * e.x, w.o * e.z⟩) (Q := ⟨w.o * e.x, w.r * e.x, w.o * e.z⟩) (a := w.r * e.x - e.y * w.o) (b := e.y * w.o - w.l * e.x) (k := (w.r - w.l) * e.x * w.o) (e := e) (by omega) (by omega)
    (by have := Int.mul_pos (a := w.r - w.l) (b := e.x) (by omega) x0; have a1 : (w.r - w.l) * e.x = w.r * e.x - w.l * e.x := by grind
        omega)
    (Int.mul_pos (Int.mul_pos (by omega) x0) ho) (edge _) (edge _) eE (by simp only; grind) (by simp only; grind) (by simp only; grind) hn
  have hm : ∀ c ∈ w.corners d, c ∈ w.all d := fun c hc => List.mem_append_left _ hc
  rcases r with r | r
  · rcases step _ r with h | h
    · exact ⟨_, hm _ (by simp [Wn.corners]), h⟩
    · exact ⟨_, hm _ (by simp [Wn.corners]), h⟩
  · rcases step _ r with h | h
    · exact ⟨_, hm _ (by simp [Wn.corners]), h⟩
    · exact ⟨_, hm _ (by simp [Wn.corners]), h⟩
theorem near_self {d e : Dr} (hd : 0 < dtV d d) : (coTo d e).le (coTo d d) := by
  unfold Co.le LeF
  rw [coTo_x, coTo_x]
  show ssV (dtV d e) * dtV d d ≤ ssV (dtV d d) * dtV e e
  rw [ss_pos (Int.le_of_lt hd)]
  have c : dtV d e * dtV d e ≤ dtV d d * dtV e e := cs3 d.x d.y d.z e.x e.y e.z
  have a1 := Int.mul_le_mul_of_nonneg_right c (Int.le_of_lt hd)
  have a2 : dtV d d * dtV e e * dtV d d = dtV d d * dtV d d * dtV e e := by grind
  rcases Int.le_total 0 (dtV d e) with h | h
  · rw [ss_pos h]
    omega
  · rw [ss_neg h, Int.neg_mul]
    have := Int.mul_nonneg (sq_nn (dtV d e)) (Int.le_of_lt hd)
    omega
/-- WHAT LIES IN A WINDOW IS NO NEARER THAN ITS NEARNESS. -/
theorem near_all {w : Wn} (hw : w.Ok) {d e : Dr} (he : w.In e) : (w.holdsB d = true → 0 < dtV d d → (coTo d e).le (coTo d d)) ∧ (w.holdsB d = false → ∃ c ∈ w.all d, (coTo d e).le c) := by
  refine ⟨fun _ hd => near_self hd, fun h => ?_⟩
  rcases lt_geI 0 (dtV d e) with q | q
  · exact near_pos hw he h q
  · exact near_neg hw he q
end Go.Proofs.YtfonpobdnhifgamGreatDoor
