/-
  The circle: a point of it, as it is reckoned, and the sum of its squares.
-/
import Derived.Test.YtfamndjiaebmbafDoorCircle2
namespace Go.Proofs.YtfamndjiaebmbafDoor
open Go

theorem Bd.exact {e : FE} {x : Nat} {v : Rat} (h : Ev e x) (hv : Is x v) : Bd e v 0 := fun r hr => by
  rcases h.same hr with rfl | ⟨n, _⟩
  · exact ⟨v, hv, near_zero v Rat.le_refl⟩
  · obtain ⟨s, m, i, e1, _⟩ := is_number hv
    unfold Nan at n
    rw [e1] at n
    cases n
theorem Bd.sub {a b : FE} {u v d1 d2 : Rat} (ha : Bd a u d1) (hb : Bd b v d2) (k : Int) (k1 : -1021 ≤ k) (k2 : k ≤ 1000) (h1 : u - v + d1 + d2 < p2 k) (h2 : -p2 k < u - v - d1 - d2) : Bd (.op .sub a b) (u - v) (d1 + d2 + p2 (k - 54)) := fun r hr => by
  cases hr with
  | op ea eb h =>
    obtain ⟨s, s1, s2, s3⟩ := ha _ ea
    obtain ⟨t, t1, t2, t3⟩ := hb _ eb
    obtain ⟨w, w1, w2, w3⟩ := sub_near s1 t1 k k1 k2 (by grind) (by grind) h
    exact ⟨w, w1, by grind, by grind⟩

theorem one_is : Is one 1 := by unfold Is; decide +kernel
def Eo (o : Nat) : Rat := 0 + (5 / 8 * er o 7 + p2 (kp o 7 - 54)) + p2 (1 - 54)
theorem fits7 : ∀ o : Fin 2, 5 / 8 * Bq o.val 7 + 5 / 8 * er o.val 7 < p2 (kp o.val 7) ∧ 1 + 5 / 8 * Bq o.val 7 + (5 / 8 * er o.val 7 + p2 (kp o.val 7 - 54)) < p2 1 ∧ -1021 ≤ kp o.val 7 ∧ kp o.val 7 ≤ 1000 ∧ cq o.val 1 + 5 / 8 * Bq o.val 6 ≤ 0 ∧ Bq o.val 7 ≤ 1 := by decide +kernel

def eta : Rat := 1 / 1125899906842624
theorem ser_bd {ze : FE} {z : Rat} (hz : Bd ze z 0) (z1 : z ≤ 5 / 8) (z2 : -eta ≤ z) (o : Nat) (ho : o < 2) :
    Bd (seriesE ze o) (1 + z * H o z 7) (Eo o) ∧ 1 + z * H o z 7 ≤ 1 + eta ∧ -(1 + eta) ≤ 1 + z * H o z 7 := by
  have he : eta ≤ 5 / 8 ∧ 0 ≤ eta := by decide +kernel
  have z3 : -(5 / 8) ≤ z := by grind
  obtain ⟨i1, i2, i3⟩ := hor_bd hz z1 z3 o ho 7 (by omega)
  obtain ⟨_, j2, j3⟩ := hor_bd hz z1 z3 o ho 6 (by omega)
  obtain ⟨f1, f2, f3, f4, f5, f6⟩ := fits7 ⟨o, ho⟩
  simp only at f1 f2 f3 f4 f5 f6
  have h6 := prod_abs z1 z3 j2 j3
  have h7 : H o z 7 = cq o 1 + z * H o z 6 := rfl
  have hn : H o z 7 ≤ 0 := by rw [h7]; grind
  have hp := prod_abs z1 z3 i2 i3
  have hm := Bd.mul hz i1 (5 / 8) (Bq o 7) z1 z3 i2 i3 (kp o 7) f3 f4 (by grind)
  have e0 : (0 : Rat) * Bq o 7 + 5 / 8 * er o 7 + 0 * er o 7 + p2 (kp o 7 - 54) = 5 / 8 * er o 7 + p2 (kp o 7 - 54) := by grind
  rw [e0] at hm
  have q1 := Rat.mul_nonneg (show 0 ≤ z + eta by grind) (show 0 ≤ -H o z 7 by grind)
  have q2 := Rat.mul_nonneg he.2 (show 0 ≤ 1 + H o z 7 by grind)
  refine ⟨Bd.add (Bd.num one_is (near_zero 1 Rat.le_refl)) hm 1 (by omega) (by omega) (by grind) (by grind), by grind, by grind⟩

/-- the turn of a second, as the nearest number. -/
def rho : Rat := (dv (FloatKind.f64.format.read radB)).getD 0
theorem rho_is : Is radB rho := by unfold Is; decide +kernel
theorem int_bd (r : Int) (h1 : r ≤ 162000000000) (h2 : -162000000000 ≤ r) : Bd (.num (floatOfInt .f64 r)) (r : Rat) (p2 (38 - 54)) := by
  have hv := abs_val r 0 (decide (r < 0)) (.inl rfl)
  have e0 : p2 0 = 1 := by decide
  have hl : (162000000000 : Rat) < p2 38 := by decide +kernel
  have g1 : (r : Rat) ≤ ((162000000000 : Int) : Rat) := Rat.intCast_le_intCast.2 h1
  have g2 : ((-162000000000 : Int) : Rat) ≤ (r : Rat) := Rat.intCast_le_intCast.2 h2
  have c1 : ((162000000000 : Int) : Rat) = 162000000000 := rfl
  have c2 : ((-162000000000 : Int) : Rat) = -162000000000 := rfl
  rw [c1] at g1
  rw [c2] at g2
  have hr : sgn (decide (r < 0)) ((r.natAbs : Rat) * p2 0) = (r : Rat) := by rw [hv, e0]; grind
  obtain ⟨v, v1, v2⟩ := round_near (decide (r < 0)) r.natAbs 0 38 (by rw [hr]; grind) (by rw [hr]; grind) (by omega) (by omega)
  rw [hr] at v2
  exact Bd.num v1 v2
theorem x_fits : 162000000000 * rho + (p2 (38 - 54) * rho + 162000000000 * 0 + p2 (38 - 54) * 0) < p2 0 ∧ 162000000000 * rho + (p2 (38 - 54) * rho + 162000000000 * 0 + p2 (38 - 54) * 0 + p2 (0 - 54)) ≤ 7855 / 10000 ∧ 0 ≤ rho ∧ (7855 / 10000 : Rat) * (7855 / 10000) < 1 := by decide +kernel
theorem x_bd (r : Int) (h1 : r ≤ 162000000000) (h2 : -162000000000 ≤ r) {x : Nat} (hx : Ev (xE r) x) : ∃ X, Is x X ∧ X ≤ 7855 / 10000 ∧ -(7855 / 10000) ≤ X := by
  obtain ⟨f1, f2, f3, _⟩ := x_fits
  have g1 : (r : Rat) ≤ ((162000000000 : Int) : Rat) := Rat.intCast_le_intCast.2 h1
  have g2 : ((-162000000000 : Int) : Rat) ≤ (r : Rat) := Rat.intCast_le_intCast.2 h2
  have c1 : ((162000000000 : Int) : Rat) = 162000000000 := rfl
  have c2 : ((-162000000000 : Int) : Rat) = -162000000000 := rfl
  rw [c1] at g1
  rw [c2] at g2
  obtain ⟨X, x1, x2, x3⟩ := Bd.mul (int_bd r h1 h2) (Bd.num rho_is (near_zero rho Rat.le_refl)) 162000000000 rho g1 g2 Rat.le_refl (by grind) 0 (by omega) (by omega) f1 x hx
  have hp := prod_abs g1 g2 (Rat.le_refl (a := rho)) (by grind)
  exact ⟨X, x1, by grind, by grind⟩

def Es : Rat := 0 * (1 + eta) + 7855 / 10000 * Eo 1 + 0 * Eo 1 + p2 (0 - 54)
def De : Rat := p2 (0 - 54) * ((1 + eta) * (1 + eta)) + 1 / 100000000000000000
theorem s_fits : 7855 / 10000 * (1 + eta) + (0 * (1 + eta) + 7855 / 10000 * Eo 1 + 0 * Eo 1) < p2 0 ∧ p2 (0 - 54) ≤ eta ∧ (7855 / 10000 : Rat) * (7855 / 10000) + p2 (0 - 54) ≤ 5 / 8 ∧ 7855 / 10000 * (1 + eta) ≤ 7856 / 10000 := by decide +kernel
/-- A point as it is reckoned. -/
theorem point (r : Int) (h1 : r ≤ 162000000000) (h2 : -162000000000 ≤ r) {s c : Nat} (hs : Ev (sE r) s) (hc : Ev (cE r) c) :
    ∃ σ γ S C, Is s S ∧ Is c C ∧ Near S σ Es ∧ Near C γ (Eo 0) ∧ σ ≤ 7856 / 10000 ∧ -(7856 / 10000) ≤ σ ∧ γ ≤ 1 + eta ∧ -(1 + eta) ≤ γ ∧ Near (σ * σ + γ * γ) 1 De := by
  obtain ⟨g1, g2, g3, g4⟩ := s_fits
  have hsx : ∃ x, Ev (xE r) x := by
    cases hs with
    | op ha _ _ => exact ⟨_, ha⟩
  have hcz : ∃ z, Ev (zE r) z := by
    cases hc with
    | op _ hb _ => cases hb with
      | op hz _ _ => exact ⟨_, hz⟩
  obtain ⟨x, ex⟩ := hsx
  obtain ⟨zz, ez⟩ := hcz
  obtain ⟨X, x1, x2, x3⟩ := x_bd r h1 h2 ex
  have bx := Bd.exact ex x1
  have f4 := x_fits.2.2.2
  have p0 : p2 0 = 1 := by decide
  obtain ⟨z, z1, z2⟩ := Bd.mul bx bx (7855 / 10000) (7855 / 10000) x2 x3 x2 x3 0 (by omega) (by omega) (by grind) zz ez
  have ee : (0 : Rat) * (7855 / 10000) + 7855 / 10000 * 0 + 0 * 0 + p2 (0 - 54) = p2 (0 - 54) := by grind
  rw [ee] at z2
  have bz := Bd.exact ez z1
  have hxx := prod_abs x2 x3 x2 x3
  have sq : 0 ≤ X * X := by
    rcases (show 0 ≤ X ∨ X ≤ 0 by grind) with h | h
    · exact Rat.mul_nonneg h h
    · have := Rat.mul_nonneg (show 0 ≤ -X by grind) (show 0 ≤ -X by grind)
      grind
  obtain ⟨n1, n2⟩ := z2
  have zz1 : z ≤ 5 / 8 := by grind
  have zz2 : -eta ≤ z := by grind
  have zz3 : -(5 / 8) ≤ z := by
    have : eta ≤ 5 / 8 := by decide +kernel
    grind
  obtain ⟨c1, c2, c3⟩ := ser_bd bz zz1 zz2 0 (by omega)
  obtain ⟨s1, s2, s3⟩ := ser_bd bz zz1 zz2 1 (by omega)
  obtain ⟨C, C1, C2⟩ := c1 c hc
  obtain ⟨S, S1, S2⟩ := Bd.mul bx s1 (7855 / 10000) (1 + eta) x2 x3 s2 s3 0 (by omega) (by omega) g1 s hs
  have hb := prod_abs x2 x3 s2 s3
  have hq := prod_abs s2 s3 s2 s3
  have hci := circle_poly zz1 zz3
  refine ⟨X * (1 + z * H 1 z 7), 1 + z * H 0 z 7, S, C, S1, C1, S2, C2, by grind, by grind, c2, c3, ?_⟩
  obtain ⟨i1, i2⟩ := hci
  have hC : Cz z = 1 + z * H 0 z 7 := rfl
  have hS : Sz z = 1 + z * H 1 z 7 := rfl
  rw [hC, hS] at i1 i2
  generalize 1 + z * H 0 z 7 = γ at *
  generalize 1 + z * H 1 z 7 = σ at *
  have hd := prod_abs (a := X * X - z) (A := p2 (0 - 54)) (b := σ * σ) (B := (1 + eta) * (1 + eta)) (by grind) (by grind) hq.1 hq.2
  unfold De Near
  clear c1 s1 C2 S2 bz bx hs hc ex ez
  constructor <;> grind

def tiny : Rat := (dv (FloatKind.f64.format.read 4382569440205035030)).getD 0
theorem l_fits : True := trivial
end Go.Proofs.YtfamndjiaebmbafDoor
