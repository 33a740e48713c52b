/-
  The series' errors. The circle: sines and cosines by their errors. The circle: a point of it, as it is reckoned, and the sum of its squares. The circle: the sum of the squares; comparing.
-/
import Derived.Test.YtngdemhhcablmakDoorSinOf
import Derived.Test.YtngdemhhcablmakDoorBndA
namespace Go.Proofs.YtngdemhhcablmakDoor
open Go

def cq (o k : Nat) : Rat := (if k % 2 = 1 then -1 else 1) / ((fct (2 * k + o) : Nat) : Rat)
def aq (o k : Nat) : Rat := 1 / ((fct (2 * k + o) : Nat) : Rat)
def vq (o k : Nat) : Rat := (dv (FloatKind.f64.format.read (CB o k))).getD 0
def dq (o k : Nat) : Rat := if cq o k ≤ vq o k then vq o k - cq o k else cq o k - vq o k
theorem coef_is : ∀ (o : Fin 2) (k : Fin 8), dv (FloatKind.f64.format.read (CB o.val (k.val + 1))) = some (vq o.val (k.val + 1)) := by decide +kernel
theorem cq_abs : ∀ (o : Fin 2) (k : Fin 8), cq o.val (k.val + 1) ≤ aq o.val (k.val + 1) ∧ -aq o.val (k.val + 1) ≤ cq o.val (k.val + 1) := by decide +kernel
theorem coef_bd (o k : Nat) (ho : o < 2) (h1 : 1 ≤ k) (h2 : k ≤ 8) : Bd (.num (CB o k)) (cq o k) (dq o k) := by
  obtain ⟨j, rfl⟩ : ∃ j, k = j + 1 := ⟨k - 1, by omega⟩
  refine Bd.num (coef_is ⟨o, ho⟩ ⟨j, by omega⟩) ?_
  unfold Near dq
  split <;> constructor <;> grind

def kp (o j : Nat) : Int := if o = 0 then [-44, -37, -29, -22, -15, -10, -5, -1].getD j 0 else [-49, -40, -33, -25, -19, -12, -7, -3].getD j 0
def ks (o j : Nat) : Int := if o = 0 then [-36, -28, -21, -15, -9, -4, 0, 1].getD j 0 else [-40, -32, -25, -18, -12, -6, -2, 1].getD j 0
def Bq (o : Nat) : Nat → Rat
  | 0 => aq o 8
  | j + 1 => aq o (7 - j) + 5 / 8 * Bq o j
def er (o : Nat) : Nat → Rat
  | 0 => dq o 8
  | j + 1 => dq o (7 - j) + (5 / 8 * er o j + p2 (kp o j - 54)) + p2 (ks o j - 54)
theorem fits : ∀ (o : Fin 2) (j : Fin 7), 5 / 8 * Bq o.val j.val + 5 / 8 * er o.val j.val < p2 (kp o.val j.val) ∧ Bq o.val (j.val + 1) + (dq o.val (7 - j.val) + (5 / 8 * er o.val j.val + p2 (kp o.val j.val - 54))) < p2 (ks o.val j.val) ∧ -1021 ≤ kp o.val j.val ∧ kp o.val j.val ≤ 1000 ∧ -1021 ≤ ks o.val j.val ∧ ks o.val j.val ≤ 1000 := by decide +kernel

def H (o : Nat) (z : Rat) : Nat → Rat
  | 0 => cq o 8
  | j + 1 => cq o (7 - j) + z * H o z j
theorem hor_bd {ze : FE} {z : Rat} (hz : Bd ze z 0) (z1 : z ≤ 5 / 8) (z2 : -(5 / 8) ≤ z) (o : Nat) (ho : o < 2) : ∀ j, j ≤ 7 → Bd (horE ze o j) (H o z j) (er o j) ∧ H o z j ≤ Bq o j ∧ -Bq o j ≤ H o z j
  | 0, _ => ⟨coef_bd o 8 ho (by omega) (by omega), (cq_abs ⟨o, ho⟩ ⟨7, by omega⟩).1, (cq_abs ⟨o, ho⟩ ⟨7, by omega⟩).2⟩
  | j + 1, hj => by
    obtain ⟨i1, i2, i3⟩ := hor_bd hz z1 z2 o ho j (by omega)
    obtain ⟨f1, f2, f3, f4, f5, f6⟩ := fits ⟨o, ho⟩ ⟨j, by omega⟩
    simp only at f1 f2 f3 f4 f5 f6
    have hc := coef_bd o (7 - j) ho (by omega) (by omega)
    have ha := cq_abs ⟨o, ho⟩ ⟨6 - j, by omega⟩
    simp only at ha
    rw [show 6 - j + 1 = 7 - j by omega] at ha
    have hp := prod_abs z1 z2 i2 i3
    have hm := Bd.mul hz i1 (5 / 8) (Bq o j) z1 z2 i2 i3 (kp o j) f3 f4 (by grind)
    have e0 : (0 : Rat) * Bq o j + 5 / 8 * er o j + 0 * er o j + p2 (kp o j - 54) = 5 / 8 * er o j + p2 (kp o j - 54) := by grind
    rw [e0] at hm
    have hB : Bq o (j + 1) = aq o (7 - j) + 5 / 8 * Bq o j := rfl
    have hH : H o z (j + 1) = cq o (7 - j) + z * H o z j := rfl
    rw [hB] at f2 ⊢
    rw [hH]
    refine ⟨Bd.add hc hm (ks o j) f5 f6 (by grind) (by grind), by grind, by grind⟩
end Go.Proofs.YtngdemhhcablmakDoor
namespace Go.Proofs.YtngdemhhcablmakDoor
open Go

theorem pow_abs {z b : Rat} (h1 : z ≤ b) (h2 : -b ≤ z) : ∀ n : Nat, z ^ n ≤ b ^ n ∧ -(b ^ n) ≤ z ^ n
  | 0 => by rw [Rat.pow_zero, Rat.pow_zero]; exact ⟨Rat.le_refl, by decide⟩
  | n + 1 => by
    obtain ⟨i1, i2⟩ := pow_abs h1 h2 n
    rw [Rat.pow_succ, Rat.pow_succ]
    exact prod_abs i1 i2 h1 h2
theorem cq0 : cq 0 1 = -1/2 ∧ cq 0 2 = 1/24 ∧ cq 0 3 = -1/720 ∧ cq 0 4 = 1/40320 ∧ cq 0 5 = -1/3628800 ∧ cq 0 6 = 1/479001600 ∧ cq 0 7 = -1/87178291200 ∧ cq 0 8 = 1/20922789888000 := by decide +kernel
theorem cq1 : cq 1 1 = -1/6 ∧ cq 1 2 = 1/120 ∧ cq 1 3 = -1/5040 ∧ cq 1 4 = 1/362880 ∧ cq 1 5 = -1/39916800 ∧ cq 1 6 = 1/6227020800 ∧ cq 1 7 = -1/1307674368000 ∧ cq 1 8 = 1/355687428096000 := by decide +kernel
def Cz (z : Rat) : Rat := 1 + z * H 0 z 7
def Sz (z : Rat) : Rat := 1 + z * H 1 z 7
set_option maxHeartbeats 2000000 in
theorem circle_is (z : Rat) : Cz z * Cz z + z * (Sz z * Sz z) = 1 + ((1 / 3201186852864000) * z ^ 9 + (-1 / 7113748561920000) * z ^ 10 + (1 / 93901481017344000) * z ^ 11 + (-1 / 3073139378749440000) * z ^ 12 + (1 / 186437122310799360000) * z ^ 13 + (-1 / 18070059547046707200000) * z ^ 14 + (1 / 2555622707368034304000000) * z ^ 15 + (-1 / 496131554923714392883200000) * z ^ 16 + (1 / 126513546505547170185216000000) * z ^ 17) := by
  obtain ⟨a1, a2, a3, a4, a5, a6, a7, a8⟩ := cq0
  obtain ⟨b1, b2, b3, b4, b5, b6, b7, b8⟩ := cq1
  unfold Cz Sz
  simp only [H, Nat.sub_zero, Nat.reduceSub, a1, a2, a3, a4, a5, a6, a7, a8, b1, b2, b3, b4, b5, b6, b7, b8]
  grind
theorem circle_poly {z : Rat} (z1 : z ≤ 5 / 8) (z2 : -(5 / 8) ≤ z) : Near (Cz z * Cz z + z * (Sz z * Sz z)) 1 (1 / 100000000000000000) := by
  rw [circle_is]
  have h9 := pow_abs z1 z2 9
  rw [show ((5 : Rat) / 8) ^ 9 = 1953125 / 134217728 by decide +kernel] at h9
  generalize z ^ 9 = y9 at *
  have h10 := pow_abs z1 z2 10
  rw [show ((5 : Rat) / 8) ^ 10 = 9765625 / 1073741824 by decide +kernel] at h10
  generalize z ^ 10 = y10 at *
  have h11 := pow_abs z1 z2 11
  rw [show ((5 : Rat) / 8) ^ 11 = 48828125 / 8589934592 by decide +kernel] at h11
  generalize z ^ 11 = y11 at *
  have h12 := pow_abs z1 z2 12
  rw [show ((5 : Rat) / 8) ^ 12 = 244140625 / 68719476736 by decide +kernel] at h12
  generalize z ^ 12 = y12 at *
  have h13 := pow_abs z1 z2 13
  rw [show ((5 : Rat) / 8) ^ 13 = 1220703125 / 549755813888 by decide +kernel] at h13
  generalize z ^ 13 = y13 at *
  have h14 := pow_abs z1 z2 14
  rw [show ((5 : Rat) / 8) ^ 14 = 6103515625 / 4398046511104 by decide +kernel] at h14
  generalize z ^ 14 = y14 at *
  have h15 := pow_abs z1 z2 15
  rw [show ((5 : Rat) / 8) ^ 15 = 30517578125 / 35184372088832 by decide +kernel] at h15
  generalize z ^ 15 = y15 at *
  have h16 := pow_abs z1 z2 16
  rw [show ((5 : Rat) / 8) ^ 16 = 152587890625 / 281474976710656 by decide +kernel] at h16
  generalize z ^ 16 = y16 at *
  have h17 := pow_abs z1 z2 17
  rw [show ((5 : Rat) / 8) ^ 17 = 762939453125 / 2251799813685248 by decide +kernel] at h17
  generalize z ^ 17 = y17 at *
  constructor
  · grind
  · grind
end Go.Proofs.YtngdemhhcablmakDoor
namespace Go.Proofs.YtngdemhhcablmakDoor
open Go

theorem Bd.exact {e : FE} {x : Nat} {v : Rat} (h : Ev e x) (hv : Is x v) : Bd e v 0 := fun r hr => by
  rcases h.same hr with rfl | ⟨n, _⟩
  · exact ⟨v, hv, near_zero v Rat.le_refl⟩
  · obtain ⟨s, m, i, e1, _⟩ := is_number hv
    unfold Nan at n
    rw [e1] at n
    cases n
theorem Bd.sub {a b : FE} {u v d1 d2 : Rat} (ha : Bd a u d1) (hb : Bd b v d2) (k : Int) (k1 : -1021 ≤ k) (k2 : k ≤ 1000) (h1 : u - v + d1 + d2 < p2 k) (h2 : -p2 k < u - v - d1 - d2) : Bd (.op .sub a b) (u - v) (d1 + d2 + p2 (k - 54)) := fun r hr => by
  cases hr with
  | op ea eb h =>
    obtain ⟨s, s1, s2, s3⟩ := ha _ ea
    obtain ⟨t, t1, t2, t3⟩ := hb _ eb
    obtain ⟨w, w1, w2, w3⟩ := sub_near s1 t1 k k1 k2 (by grind) (by grind) h
    exact ⟨w, w1, by grind, by grind⟩

theorem one_is : Is one 1 := by unfold Is; decide +kernel
def Eo (o : Nat) : Rat := 0 + (5 / 8 * er o 7 + p2 (kp o 7 - 54)) + p2 (1 - 54)
theorem fits7 : ∀ o : Fin 2, 5 / 8 * Bq o.val 7 + 5 / 8 * er o.val 7 < p2 (kp o.val 7) ∧ 1 + 5 / 8 * Bq o.val 7 + (5 / 8 * er o.val 7 + p2 (kp o.val 7 - 54)) < p2 1 ∧ -1021 ≤ kp o.val 7 ∧ kp o.val 7 ≤ 1000 ∧ cq o.val 1 + 5 / 8 * Bq o.val 6 ≤ 0 ∧ Bq o.val 7 ≤ 1 := by decide +kernel

def eta : Rat := 1 / 1125899906842624
theorem ser_bd {ze : FE} {z : Rat} (hz : Bd ze z 0) (z1 : z ≤ 5 / 8) (z2 : -eta ≤ z) (o : Nat) (ho : o < 2) :
    Bd (seriesE ze o) (1 + z * H o z 7) (Eo o) ∧ 1 + z * H o z 7 ≤ 1 + eta ∧ -(1 + eta) ≤ 1 + z * H o z 7 := by
  have he : eta ≤ 5 / 8 ∧ 0 ≤ eta := by decide +kernel
  have z3 : -(5 / 8) ≤ z := by grind
  obtain ⟨i1, i2, i3⟩ := hor_bd hz z1 z3 o ho 7 (by omega)
  obtain ⟨_, j2, j3⟩ := hor_bd hz z1 z3 o ho 6 (by omega)
  obtain ⟨f1, f2, f3, f4, f5, f6⟩ := fits7 ⟨o, ho⟩
  simp only at f1 f2 f3 f4 f5 f6
  have h6 := prod_abs z1 z3 j2 j3
  have h7 : H o z 7 = cq o 1 + z * H o z 6 := rfl
  have hn : H o z 7 ≤ 0 := by rw [h7]; grind
  have hp := prod_abs z1 z3 i2 i3
  have hm := Bd.mul hz i1 (5 / 8) (Bq o 7) z1 z3 i2 i3 (kp o 7) f3 f4 (by grind)
  have e0 : (0 : Rat) * Bq o 7 + 5 / 8 * er o 7 + 0 * er o 7 + p2 (kp o 7 - 54) = 5 / 8 * er o 7 + p2 (kp o 7 - 54) := by grind
  rw [e0] at hm
  have q1 := Rat.mul_nonneg (show 0 ≤ z + eta by grind) (show 0 ≤ -H o z 7 by grind)
  have q2 := Rat.mul_nonneg he.2 (show 0 ≤ 1 + H o z 7 by grind)
  refine ⟨Bd.add (Bd.num one_is (near_zero 1 Rat.le_refl)) hm 1 (by omega) (by omega) (by grind) (by grind), by grind, by grind⟩

/-- the turn of a second, as the nearest number. -/
def rho : Rat := (dv (FloatKind.f64.format.read radB)).getD 0
theorem rho_is : Is radB rho := by unfold Is; decide +kernel
theorem int_bd (r : Int) (h1 : r ≤ 162000000000) (h2 : -162000000000 ≤ r) : Bd (.num (floatOfInt .f64 r)) (r : Rat) (p2 (38 - 54)) := by
  have hv := abs_val r 0 (decide (r < 0)) (.inl rfl)
  have e0 : p2 0 = 1 := by decide
  have hl : (162000000000 : Rat) < p2 38 := by decide +kernel
  have g1 : (r : Rat) ≤ ((162000000000 : Int) : Rat) := Rat.intCast_le_intCast.2 h1
  have g2 : ((-162000000000 : Int) : Rat) ≤ (r : Rat) := Rat.intCast_le_intCast.2 h2
  have c1 : ((162000000000 : Int) : Rat) = 162000000000 := rfl
  have c2 : ((-162000000000 : Int) : Rat) = -162000000000 := rfl
  rw [c1] at g1
  rw [c2] at g2
  have hr : sgn (decide (r < 0)) ((r.natAbs : Rat) * p2 0) = (r : Rat) := by rw [hv, e0]; grind
  obtain ⟨v, v1, v2⟩ := round_near (decide (r < 0)) r.natAbs 0 38 (by rw [hr]; grind) (by rw [hr]; grind) (by omega) (by omega)
  rw [hr] at v2
  exact Bd.num v1 v2
theorem x_fits : 162000000000 * rho + (p2 (38 - 54) * rho + 162000000000 * 0 + p2 (38 - 54) * 0) < p2 0 ∧ 162000000000 * rho + (p2 (38 - 54) * rho + 162000000000 * 0 + p2 (38 - 54) * 0 + p2 (0 - 54)) ≤ 7855 / 10000 ∧ 0 ≤ rho ∧ (7855 / 10000 : Rat) * (7855 / 10000) < 1 := by decide +kernel
theorem x_bd (r : Int) (h1 : r ≤ 162000000000) (h2 : -162000000000 ≤ r) {x : Nat} (hx : Ev (xE r) x) : ∃ X, Is x X ∧ X ≤ 7855 / 10000 ∧ -(7855 / 10000) ≤ X := by
  obtain ⟨f1, f2, f3, _⟩ := x_fits
  have g1 : (r : Rat) ≤ ((162000000000 : Int) : Rat) := Rat.intCast_le_intCast.2 h1
  have g2 : ((-162000000000 : Int) : Rat) ≤ (r : Rat) := Rat.intCast_le_intCast.2 h2
  have c1 : ((162000000000 : Int) : Rat) = 162000000000 := rfl
  have c2 : ((-162000000000 : Int) : Rat) = -162000000000 := rfl
  rw [c1] at g1
  rw [c2] at g2
  obtain ⟨X, x1, x2, x3⟩ := Bd.mul (int_bd r h1 h2) (Bd.num rho_is (near_zero rho Rat.le_refl)) 162000000000 rho g1 g2 Rat.le_refl (by grind) 0 (by omega) (by omega) f1 x hx
  have hp := prod_abs g1 g2 (Rat.le_refl (a := rho)) (by grind)
  exact ⟨X, x1, by grind, by grind⟩

def Es : Rat := 0 * (1 + eta) + 7855 / 10000 * Eo 1 + 0 * Eo 1 + p2 (0 - 54)
def De : Rat := p2 (0 - 54) * ((1 + eta) * (1 + eta)) + 1 / 100000000000000000
theorem s_fits : 7855 / 10000 * (1 + eta) + (0 * (1 + eta) + 7855 / 10000 * Eo 1 + 0 * Eo 1) < p2 0 ∧ p2 (0 - 54) ≤ eta ∧ (7855 / 10000 : Rat) * (7855 / 10000) + p2 (0 - 54) ≤ 5 / 8 ∧ 7855 / 10000 * (1 + eta) ≤ 7856 / 10000 := by decide +kernel
/-- A point as it is reckoned. -/
theorem point (r : Int) (h1 : r ≤ 162000000000) (h2 : -162000000000 ≤ r) {s c : Nat} (hs : Ev (sE r) s) (hc : Ev (cE r) c) :
    ∃ σ γ S C, Is s S ∧ Is c C ∧ Near S σ Es ∧ Near C γ (Eo 0) ∧ σ ≤ 7856 / 10000 ∧ -(7856 / 10000) ≤ σ ∧ γ ≤ 1 + eta ∧ -(1 + eta) ≤ γ ∧ Near (σ * σ + γ * γ) 1 De := by
  obtain ⟨g1, g2, g3, g4⟩ := s_fits
  have hsx : ∃ x, Ev (xE r) x := by
    cases hs with
    | op ha _ _ => exact ⟨_, ha⟩
  have hcz : ∃ z, Ev (zE r) z := by
    cases hc with
    | op _ hb _ => cases hb with
      | op hz _ _ => exact ⟨_, hz⟩
  obtain ⟨x, ex⟩ := hsx
  obtain ⟨zz, ez⟩ := hcz
  obtain ⟨X, x1, x2, x3⟩ := x_bd r h1 h2 ex
  have bx := Bd.exact ex x1
  have f4 := x_fits.2.2.2
  have p0 : p2 0 = 1 := by decide
  obtain ⟨z, z1, z2⟩ := Bd.mul bx bx (7855 / 10000) (7855 / 10000) x2 x3 x2 x3 0 (by omega) (by omega) (by grind) zz ez
  have ee : (0 : Rat) * (7855 / 10000) + 7855 / 10000 * 0 + 0 * 0 + p2 (0 - 54) = p2 (0 - 54) := by grind
  rw [ee] at z2
  have bz := Bd.exact ez z1
  have hxx := prod_abs x2 x3 x2 x3
  have sq : 0 ≤ X * X := by
    rcases (show 0 ≤ X ∨ X ≤ 0 by grind) with h | h
    · exact Rat.mul_nonneg h h
    · have := Rat.mul_nonneg (show 0 ≤ -X by grind) (show 0 ≤ -X by grind)
      grind
  obtain ⟨n1, n2⟩ := z2
  have zz1 : z ≤ 5 / 8 := by grind
  have zz2 : -eta ≤ z := by grind
  have zz3 : -(5 / 8) ≤ z := by
    have : eta ≤ 5 / 8 := by decide +kernel
    grind
  obtain ⟨c1, c2, c3⟩ := ser_bd bz zz1 zz2 0 (by omega)
  obtain ⟨s1, s2, s3⟩ := ser_bd bz zz1 zz2 1 (by omega)
  obtain ⟨C, C1, C2⟩ := c1 c hc
  obtain ⟨S, S1, S2⟩ := Bd.mul bx s1 (7855 / 10000) (1 + eta) x2 x3 s2 s3 0 (by omega) (by omega) g1 s hs
  have hb := prod_abs x2 x3 s2 s3
  have hq := prod_abs s2 s3 s2 s3
  have hci := circle_poly zz1 zz3
  refine ⟨X * (1 + z * H 1 z 7), 1 + z * H 0 z 7, S, C, S1, C1, S2, C2, by grind, by grind, c2, c3, ?_⟩
  obtain ⟨i1, i2⟩ := hci
  have hC : Cz z = 1 + z * H 0 z 7 := rfl
  have hS : Sz z = 1 + z * H 1 z 7 := rfl
  rw [hC, hS] at i1 i2
  generalize 1 + z * H 0 z 7 = γ at *
  generalize 1 + z * H 1 z 7 = σ at *
  have hd := prod_abs (a := X * X - z) (A := p2 (0 - 54)) (b := σ * σ) (B := (1 + eta) * (1 + eta)) (by grind) (by grind) hq.1 hq.2
  unfold De Near
  clear c1 s1 C2 S2 bz bx hs hc ex ez
  constructor <;> grind

def tiny : Rat := (dv (FloatKind.f64.format.read 4382569440205035030)).getD 0
theorem l_fits : True := trivial
end Go.Proofs.YtngdemhhcablmakDoor
namespace Go.Proofs.YtngdemhhcablmakDoor
open Go

/-- Comparing two numbers. -/
theorem order_is {x y : Nat} {u v : Rat} (hx : Is x u) (hy : Is y v) : FloatKind.f64.format.order x y = some (if u < v then .lt else if u = v then .eq else .gt) := by
  obtain ⟨s, m, i, e1, rfl⟩ := is_number hx
  obtain ⟨t, n, j, e2, rfl⟩ := is_number hy
  unfold Ieee.Format.order
  rw [e1, e2]
  show some (compare (Ieee.signed s m (i - min i j).toNat) (Ieee.signed t n (j - min i j).toNat)) = _
  rw [← signed_val s m i (min i j) (by omega), ← signed_val t n j (min i j) (by omega)]
  generalize Ieee.signed s m (i - min i j).toNat = a
  generalize Ieee.signed t n (j - min i j).toNat = b
  have hp := p2_pos (min i j)
  generalize p2 (min i j) = P at *
  congr 1
  rcases Int.lt_trichotomy a b with h | h | h
  · have hr : (a : Rat) < (b : Rat) := Rat.intCast_lt_intCast.2 h
    rw [if_pos (Rat.mul_lt_mul_of_pos_right hr hp)]
    exact Int.compare_eq_lt.2 h
  · subst h
    rw [if_neg (by grind), if_pos rfl]
    exact Int.compare_eq_eq.2 rfl
  · have hr : (b : Rat) < (a : Rat) := Rat.intCast_lt_intCast.2 h
    have := Rat.mul_lt_mul_of_pos_right hr hp
    rw [if_neg (by grind), if_neg (by grind)]
    exact Int.compare_eq_gt.2 h

theorem ng_low (x : Nat) : ngB x % 9223372036854775808 = x % 9223372036854775808 := by
  have h : (x ^^^ 2 ^ 63) % 2 ^ 63 = (x % 2 ^ 63) ^^^ (2 ^ 63 % 2 ^ 63) := Nat.xor_mod_two_pow
  rw [Nat.mod_self, Nat.xor_zero] at h
  exact h
theorem ng_top (x : Nat) : (ngB x / 9223372036854775808 % 2 == 1) = !(x / 9223372036854775808 % 2 == 1) := by
  have h : (x ^^^ 2 ^ 63) / 2 ^ 63 = x / 2 ^ 63 ^^^ 2 ^ 63 / 2 ^ 63 := Nat.xor_div_two_pow
  have h1 : ngB x / 9223372036854775808 = x / 9223372036854775808 ^^^ 1 := h
  rw [h1]
  generalize x / 9223372036854775808 = q
  have h2 : (q ^^^ 1) % 2 ^ 1 = (q % 2 ^ 1) ^^^ (1 % 2 ^ 1) := Nat.xor_mod_two_pow
  have h3 : (q ^^^ 1) % 2 = (q % 2) ^^^ 1 := h2
  rw [h3]
  rcases (show q % 2 = 0 ∨ q % 2 = 1 by omega) with h | h <;> rw [h] <;> rfl
theorem neg_read (x : Nat) : FloatKind.f64.format.read (ngB x) = (FloatKind.f64.format.read x).opposite := by
  unfold Ieee.Format.read
  simp only [f64_sw, f64_bn, f64_ir, f64_lp]
  rw [ng_low, ng_top]
  generalize x % 9223372036854775808 = q
  split
  · rfl
  · split
    · rfl
    · split <;> rfl
theorem neg_is {x : Nat} {v : Rat} (h : Is x v) : Is (ngB x) (-v) := by
  obtain ⟨s, m, i, e, rfl⟩ := is_number h
  unfold Is
  rw [neg_read, e]
  show dv (.number (!s) m i) = _
  rw [dv_number]
  cases s <;> simp [sgn]
theorem neg_neg (x : Nat) : ngB (ngB x) = x := by
  show (x ^^^ 2 ^ 63) ^^^ 2 ^ 63 = x
  rw [Nat.xor_assoc, Nat.xor_self, Nat.xor_zero]

theorem tiny_is : Is 4382569440205035030 tiny := by unfold Is; decide +kernel
theorem tinyn_is : Is (ngB 4382569440205035030) (-tiny) := by unfold Is; decide +kernel
def Ep : Rat := Es * (7856 / 10000) + 7856 / 10000 * Es + Es * Es + p2 (0 - 54)
def Eq : Rat := Eo 0 * (1 + eta) + (1 + eta) * Eo 0 + Eo 0 * Eo 0 + p2 (1 - 54)
def Et : Rat := Ep + Eq + p2 (1 - 54)
theorem t_fits : (7856 / 10000 : Rat) * (7856 / 10000) + (Es * (7856 / 10000) + 7856 / 10000 * Es + Es * Es) < p2 0 ∧ (1 + eta) * (1 + eta) + (Eo 0 * (1 + eta) + (1 + eta) * Eo 0 + Eo 0 * Eo 0) < p2 1 ∧ 1 + De + Ep + Eq < p2 1 ∧ De + Et < p2 (-40) ∧ De + Et + p2 (-40 - 54) < tiny ∧ 0 ≤ De ∧ 0 ≤ Ep ∧ 0 ≤ Eq := by decide +kernel
/-- The sum of the squares, less 1. -/
theorem squares {a b : Nat} {σ γ u v : Rat} (ha : Is a u) (hb : Is b v) (hu : Near u σ Es) (hv : Near v γ (Eo 0)) (s1 : σ ≤ 7856 / 10000) (s2 : -(7856 / 10000) ≤ σ) (c1 : γ ≤ 1 + eta) (c2 : -(1 + eta) ≤ γ) (hn : Near (σ * σ + γ * γ) 1 De) {r : Nat}
    (hr : Ev (.op .sub (.op .add (.op .mul (.num a) (.num a)) (.op .mul (.num b) (.num b))) (.num one)) r ∨ Ev (.op .sub (.op .add (.op .mul (.num b) (.num b)) (.op .mul (.num a) (.num a))) (.num one)) r) :
    ∃ y, Is r y ∧ y < tiny ∧ -tiny < y := by
  obtain ⟨f1, f2, f3, f4, f5, f6, f7, f8⟩ := t_fits
  obtain ⟨n1, n2⟩ := hn
  have ba := Bd.num ha hu
  have bb := Bd.num hb hv
  have bp : Bd (.op .mul (.num a) (.num a)) (σ * σ) Ep := Bd.mul ba ba _ _ s1 s2 s1 s2 0 (by omega) (by omega) f1
  have bq : Bd (.op .mul (.num b) (.num b)) (γ * γ) Eq := Bd.mul bb bb _ _ c1 c2 c1 c2 1 (by omega) (by omega) f2
  have t1 : (2 : Rat) = p2 1 := by decide
  have bt : Bd (.op .add (.op .mul (.num a) (.num a)) (.op .mul (.num b) (.num b))) (σ * σ + γ * γ) Et := Bd.add bp bq 1 (by omega) (by omega) (by grind) (by grind)
  have bt' : Bd (.op .add (.op .mul (.num b) (.num b)) (.op .mul (.num a) (.num a))) (γ * γ + σ * σ) (Eq + Ep + p2 (1 - 54)) := Bd.add bq bp 1 (by omega) (by omega) (by grind) (by grind)
  have e1 : Eq + Ep + p2 (1 - 54) = Et := by unfold Et; grind
  have e2 : γ * γ + σ * σ = σ * σ + γ * γ := by grind
  rw [e1, e2] at bt'
  have b1 : Bd (.num one) 1 0 := Bd.num one_is (near_zero 1 Rat.le_refl)
  rcases hr with hr | hr
  · obtain ⟨y, y1, y2, y3⟩ := Bd.sub bt b1 (-40) (by omega) (by omega) (by grind) (by grind) r hr
    exact ⟨y, y1, by grind, by grind⟩
  · obtain ⟨y, y1, y2, y3⟩ := Bd.sub bt' b1 (-40) (by omega) (by omega) (by grind) (by grind) r hr
    exact ⟨y, y1, by grind, by grind⟩
end Go.Proofs.YtngdemhhcablmakDoor
