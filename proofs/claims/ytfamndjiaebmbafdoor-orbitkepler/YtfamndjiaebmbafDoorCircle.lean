/-
  The series' errors.
-/
import Derived.Test.YtfamndjiaebmbafDoorSinOf
import Derived.Test.YtfamndjiaebmbafDoorBound
namespace Go.Proofs.YtfamndjiaebmbafDoor
open Go

def cq (o k : Nat) : Rat := (if k % 2 = 1 then -1 else 1) / ((fct (2 * k + o) : Nat) : Rat)
def aq (o k : Nat) : Rat := 1 / ((fct (2 * k + o) : Nat) : Rat)
def vq (o k : Nat) : Rat := (dv (FloatKind.f64.format.read (CB o k))).getD 0
def dq (o k : Nat) : Rat := if cq o k ≤ vq o k then vq o k - cq o k else cq o k - vq o k
theorem coef_is : ∀ (o : Fin 2) (k : Fin 8), dv (FloatKind.f64.format.read (CB o.val (k.val + 1))) = some (vq o.val (k.val + 1)) := by decide +kernel
theorem cq_abs : ∀ (o : Fin 2) (k : Fin 8), cq o.val (k.val + 1) ≤ aq o.val (k.val + 1) ∧ -aq o.val (k.val + 1) ≤ cq o.val (k.val + 1) := by decide +kernel
theorem coef_bd (o k : Nat) (ho : o < 2) (h1 : 1 ≤ k) (h2 : k ≤ 8) : Bd (.num (CB o k)) (cq o k) (dq o k) := by
  obtain ⟨j, rfl⟩ : ∃ j, k = j + 1 := ⟨k - 1, by omega⟩
  refine Bd.num (coef_is ⟨o, ho⟩ ⟨j, by omega⟩) ?_
  unfold Near dq
  split <;> constructor <;> grind

def kp (o j : Nat) : Int := if o = 0 then [-44, -37, -29, -22, -15, -10, -5, -1].getD j 0 else [-49, -40, -33, -25, -19, -12, -7, -3].getD j 0
def ks (o j : Nat) : Int := if o = 0 then [-36, -28, -21, -15, -9, -4, 0, 1].getD j 0 else [-40, -32, -25, -18, -12, -6, -2, 1].getD j 0
def Bq (o : Nat) : Nat → Rat
  | 0 => aq o 8
  | j + 1 => aq o (7 - j) + 5 / 8 * Bq o j
def er (o : Nat) : Nat → Rat
  | 0 => dq o 8
  | j + 1 => dq o (7 - j) + (5 / 8 * er o j + p2 (kp o j - 54)) + p2 (ks o j - 54)
theorem fits : ∀ (o : Fin 2) (j : Fin 7), 5 / 8 * Bq o.val j.val + 5 / 8 * er o.val j.val < p2 (kp o.val j.val) ∧ Bq o.val (j.val + 1) + (dq o.val (7 - j.val) + (5 / 8 * er o.val j.val + p2 (kp o.val j.val - 54))) < p2 (ks o.val j.val) ∧ -1021 ≤ kp o.val j.val ∧ kp o.val j.val ≤ 1000 ∧ -1021 ≤ ks o.val j.val ∧ ks o.val j.val ≤ 1000 := by decide +kernel

def H (o : Nat) (z : Rat) : Nat → Rat
  | 0 => cq o 8
  | j + 1 => cq o (7 - j) + z * H o z j
theorem hor_bd {ze : FE} {z : Rat} (hz : Bd ze z 0) (z1 : z ≤ 5 / 8) (z2 : -(5 / 8) ≤ z) (o : Nat) (ho : o < 2) : ∀ j, j ≤ 7 → Bd (horE ze o j) (H o z j) (er o j) ∧ H o z j ≤ Bq o j ∧ -Bq o j ≤ H o z j
  | 0, _ => ⟨coef_bd o 8 ho (by omega) (by omega), (cq_abs ⟨o, ho⟩ ⟨7, by omega⟩).1, (cq_abs ⟨o, ho⟩ ⟨7, by omega⟩).2⟩
  | j + 1, hj => by
    obtain ⟨i1, i2, i3⟩ := hor_bd hz z1 z2 o ho j (by omega)
    obtain ⟨f1, f2, f3, f4, f5, f6⟩ := fits ⟨o, ho⟩ ⟨j, by omega⟩
    simp only at f1 f2 f3 f4 f5 f6
    have hc := coef_bd o (7 - j) ho (by omega) (by omega)
    have ha := cq_abs ⟨o, ho⟩ ⟨6 - j, by omega⟩
    simp only at ha
    rw [show 6 - j + 1 = 7 - j by omega] at ha
    have hp := prod_abs z1 z2 i2 i3
    have hm := Bd.mul hz i1 (5 / 8) (Bq o j) z1 z2 i2 i3 (kp o j) f3 f4 (by grind)
    have e0 : (0 : Rat) * Bq o j + 5 / 8 * er o j + 0 * er o j + p2 (kp o j - 54) = 5 / 8 * er o j + p2 (kp o j - 54) := by grind
    rw [e0] at hm
    have hB : Bq o (j + 1) = aq o (7 - j) + 5 / 8 * Bq o j := rfl
    have hH : H o z (j + 1) = cq o (7 - j) + z * H o z j := rfl
    rw [hB] at f2 ⊢
    rw [hH]
    refine ⟨Bd.add hc hm (ks o j) f5 f6 (by grind) (by grind), by grind, by grind⟩
end Go.Proofs.YtfamndjiaebmbafDoor
