/-
  A point as it is reckoned, against the polynomials at its own x.
-/
import Derived.Test.YtfamndjiaebmbafDoorGap
namespace Go.Proofs.YtfamndjiaebmbafDoor
open Go

theorem h_abs {z : Rat} (z1 : z ≤ 5 / 8) (z2 : -(5 / 8) ≤ z) (o : Nat) (ho : o < 2) : ∀ j, j ≤ 7 → H o z j ≤ Bq o j ∧ -Bq o j ≤ H o z j
  | 0, _ => ⟨(cq_abs ⟨o, ho⟩ ⟨7, by omega⟩).1, (cq_abs ⟨o, ho⟩ ⟨7, by omega⟩).2⟩
  | j + 1, hj => by
    obtain ⟨i2, i3⟩ := h_abs z1 z2 o ho j (by omega)
    have ha := cq_abs ⟨o, ho⟩ ⟨6 - j, by omega⟩
    simp only at ha
    rw [show 6 - j + 1 = 7 - j by omega] at ha
    have hp := prod_abs z1 z2 i2 i3
    have hB : Bq o (j + 1) = aq o (7 - j) + 5 / 8 * Bq o j := rfl
    have hH : H o z (j + 1) = cq o (7 - j) + z * H o z j := rfl
    rw [hB, hH]
    exact ⟨by grind, by grind⟩
theorem bq_small : ∀ (o : Fin 2) (j : Fin 8), Bq o.val j.val ≤ 6 / 10 := by decide +kernel
theorem h_lip {z v e : Rat} (z1 : z ≤ 5 / 8) (z2 : -(5 / 8) ≤ z) (v1 : v ≤ 5 / 8) (v2 : -(5 / 8) ≤ v) (he : Near z v e) (o : Nat) (ho : o < 2) : ∀ j, j ≤ 7 → Near (H o z j) (H o v j) (2 * e)
  | 0, _ => by
    obtain ⟨e1, e2⟩ := he
    exact near_zero _ (by grind)
  | j + 1, hj => by
    have ih := h_lip z1 z2 v1 v2 he o ho j (by omega)
    have hb := h_abs v1 v2 o ho j (by omega)
    have hs := bq_small ⟨o, ho⟩ ⟨j, by omega⟩
    simp only at hs
    obtain ⟨e1, e2⟩ := he
    obtain ⟨i1, i2⟩ := ih
    have hz : H o z (j + 1) = cq o (7 - j) + z * H o z j := rfl
    have hv : H o v (j + 1) = cq o (7 - j) + v * H o v j := rfl
    rw [hz, hv]
    have p1 := prod_abs (a := z) (A := 5 / 8) (b := H o z j - H o v j) (B := 2 * e) z1 z2 (by grind) (by grind)
    have p2' := prod_abs (a := z - v) (A := e) (b := H o v j) (B := 6 / 10) (by grind) (by grind) (by grind) (by grind)
    constructor <;> grind
theorem ser_lip {z v e : Rat} (z1 : z ≤ 5 / 8) (z2 : -(5 / 8) ≤ z) (v1 : v ≤ 5 / 8) (v2 : -(5 / 8) ≤ v) (he : Near z v e) (o : Nat) (ho : o < 2) : Near (1 + z * H o z 7) (1 + v * H o v 7) (2 * e) := by
  have ih := h_lip z1 z2 v1 v2 he o ho 7 (by omega)
  have hb := h_abs v1 v2 o ho 7 (by omega)
  have hs := bq_small ⟨o, ho⟩ ⟨7, by omega⟩
  simp only at hs
  obtain ⟨e1, e2⟩ := he
  obtain ⟨i1, i2⟩ := ih
  have p1 := prod_abs (a := z) (A := 5 / 8) (b := H o z 7 - H o v 7) (B := 2 * e) z1 z2 (by grind) (by grind)
  have p2' := prod_abs (a := z - v) (A := e) (b := H o v 7) (B := 6 / 10) (by grind) (by grind) (by grind) (by grind)
  constructor <;> grind

theorem x_near (r : Int) (h1 : r ≤ 162000000000) (h2 : -162000000000 ≤ r) {x : Nat} (hx : Ev (xE r) x) : ∃ X, Is x X ∧ X ≤ 7855 / 10000 ∧ -(7855 / 10000) ≤ X ∧ Near X ((r : Rat) * rho) xerr := by
  obtain ⟨f1, f2, f3, _⟩ := x_fits
  have g1 : (r : Rat) ≤ ((162000000000 : Int) : Rat) := Rat.intCast_le_intCast.2 h1
  have g2 : ((-162000000000 : Int) : Rat) ≤ (r : Rat) := Rat.intCast_le_intCast.2 h2
  have c1 : ((162000000000 : Int) : Rat) = 162000000000 := rfl
  have c2 : ((-162000000000 : Int) : Rat) = -162000000000 := rfl
  rw [c1] at g1
  rw [c2] at g2
  obtain ⟨X, x1, x2, x3⟩ := Bd.mul (int_bd r h1 h2) (Bd.num rho_is (near_zero rho Rat.le_refl)) 162000000000 rho g1 g2 Rat.le_refl (by grind) 0 (by omega) (by omega) f1 x hx
  have hp := prod_abs g1 g2 (Rat.le_refl (a := rho)) (by grind)
  have he : p2 (38 - 54) * rho + 162000000000 * 0 + p2 (38 - 54) * 0 + p2 (0 - 54) = xerr := by unfold xerr; grind
  exact ⟨X, x1, by grind, by grind, by grind, by grind⟩

/-- a bound of all errors of a point. -/
def Ept : Rat := 1 / 1000000000000000
theorem ept_fits : Es + 2 * p2 (0 - 54) ≤ Ept ∧ Eo 0 + 2 * p2 (0 - 54) ≤ Ept ∧ (7855 / 10000 : Rat) * (7855 / 10000) ≤ 5 / 8 ∧ eta ≤ 5 / 8 := by decide +kernel
theorem point_x (r : Int) (h1 : r ≤ 162000000000) (h2 : -162000000000 ≤ r) {s c : Nat} (hs : Ev (sE r) s) (hc : Ev (cE r) c) :
    ∃ X S C, Is s S ∧ Is c C ∧ Near S (fS X) Ept ∧ Near C (fC X) Ept ∧ X ≤ 7855 / 10000 ∧ -(7855 / 10000) ≤ X ∧ Near X ((r : Rat) * rho) xerr := by
  obtain ⟨g1, g2, g3, g4⟩ := s_fits
  obtain ⟨q1, q2, q3, q4⟩ := ept_fits
  have hsx : ∃ x, Ev (xE r) x := by
    cases hs with
    | op ha _ _ => exact ⟨_, ha⟩
  have hcz : ∃ z, Ev (zE r) z := by
    cases hc with
    | op _ hb _ => cases hb with
      | op hz _ _ => exact ⟨_, hz⟩
  obtain ⟨x, ex⟩ := hsx
  obtain ⟨zz, ez⟩ := hcz
  obtain ⟨X, x1, x2, x3, x4⟩ := x_near r h1 h2 ex
  have bx := Bd.exact ex x1
  have f4 := x_fits.2.2.2
  have p0 : p2 0 = 1 := by decide
  obtain ⟨z, z1, z2⟩ := Bd.mul bx bx (7855 / 10000) (7855 / 10000) x2 x3 x2 x3 0 (by omega) (by omega) (by grind) zz ez
  have ee : (0 : Rat) * (7855 / 10000) + 7855 / 10000 * 0 + 0 * 0 + p2 (0 - 54) = p2 (0 - 54) := by grind
  rw [ee] at z2
  have bz := Bd.exact ez z1
  have hxx := prod_abs x2 x3 x2 x3
  have sq : 0 ≤ X * X := by
    rcases (show 0 ≤ X ∨ X ≤ 0 by grind) with h | h
    · exact Rat.mul_nonneg h h
    · have := Rat.mul_nonneg (show 0 ≤ -X by grind) (show 0 ≤ -X by grind)
      grind
  have zz1 : z ≤ 5 / 8 := by have := z2.1; grind
  have zz2 : -eta ≤ z := by have := z2.2; grind
  have zz3 : -(5 / 8) ≤ z := by grind
  have w1 : X * X ≤ 5 / 8 := by grind
  have w2 : -(5 / 8) ≤ X * X := by grind
  obtain ⟨c1, c2, c3⟩ := ser_bd bz zz1 zz2 0 (by omega)
  obtain ⟨s1, s2, s3⟩ := ser_bd bz zz1 zz2 1 (by omega)
  obtain ⟨C, C1, C2⟩ := c1 c hc
  obtain ⟨S, S1, S2⟩ := Bd.mul bx s1 (7855 / 10000) (1 + eta) x2 x3 s2 s3 0 (by omega) (by omega) g1 s hs
  have l0 := ser_lip zz1 zz3 w1 w2 z2 0 (by omega)
  have l1 := ser_lip zz1 zz3 w1 w2 z2 1 (by omega)
  have hES : Near S (X * (1 + z * H 1 z 7)) Es := S2
  have hS : fS X = X * (1 + X * X * H 1 (X * X) 7) := rfl
  have hC : fC X = 1 + X * X * H 0 (X * X) 7 := rfl
  refine ⟨X, S, C, S1, C1, ?_, ?_, x2, x3, x4⟩
  · rw [hS]
    generalize 1 + z * H 1 z 7 = a at *
    generalize 1 + X * X * H 1 (X * X) 7 = b at *
    obtain ⟨m1, m2⟩ := l1
    obtain ⟨n1, n2⟩ := hES
    have pp := prod_abs (a := X) (A := 1) (b := a - b) (B := 2 * p2 (0 - 54)) (by grind) (by grind) (by grind) (by grind)
    constructor <;> grind
  · rw [hC]
    obtain ⟨m1, m2⟩ := l0
    obtain ⟨n1, n2⟩ := C2
    constructor <;> grind
end Go.Proofs.YtfamndjiaebmbafDoor
