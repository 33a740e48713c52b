/-
  Numbers that are 0 or neither too small nor too great; tests; nought. No program here.
-/
import Derived.Test.YtbjpkfmencaafafDoorDots
import Derived.Test.YtbjpkfmencaafafDoorBits1
import Derived.Test.YtbjpkfmencaafafDoorSinIs
namespace Go.Proofs.YtbjpkfmencaafafDoor
open Go Go.RowKit

def geB (x y : Nat) : Bool := FloatKind.f64.format.order x y == some .gt || FloatKind.f64.format.order x y == some .eq
theorem is_of_number {x : Nat} {s : Bool} {m : Nat} {i : Int} (h : FloatKind.f64.format.read x = .number s m i) : ∃ v, Is x v := ⟨sgn s ((m : Rat) * p2 i), by unfold Is; rw [h]; exact dv_number s m i⟩
/-- a value that is 0 or lies between. -/
def Mild (v : Rat) : Prop := v = 0 ∨ (p2 (-300) ≤ ab v ∧ ab v ≤ p2 300)
theorem m300_is : Is 3256102530588868608 (p2 (-300)) := by unfold Is; decide +kernel
theorem p300_is : Is 5958262307011166208 (p2 300) := by unfold Is; decide +kernel
theorem zero_is : Is 0 0 := by unfold Is; decide +kernel
def mildB (x : Nat) : Bool :=
  let y := if FloatKind.f64.format.order x 0 == some .lt then Op.negFloat .f64 x else x
  FloatKind.f64.format.order y 0 == some .eq || (geB y 3256102530588868608 && leB y 5958262307011166208)
theorem mild_spec {x : Nat} (h : mildB x = true) : ∃ v, Is x v ∧ Mild v := by
  unfold mildB at h
  cases e : FloatKind.f64.format.read x with
  | nan s k =>
    exfalso
    have hn : Nan x := by unfold Nan; rw [e]; rfl
    have ho : ∀ y, FloatKind.f64.format.order x y = none := fun y => order_nan_left y hn
    unfold geB leB at h
    simp [ho] at h
  | infinity s =>
    exfalso
    have hx : FloatKind.f64.format.read (ngB x) = .infinity (!s) := by rw [neg_read, e]; rfl
    have hneg : Op.negFloat .f64 x = ngB x := rfl
    rw [hneg] at h
    unfold geB leB Ieee.Format.order at h
    have z0 : FloatKind.f64.format.read 0 = .number false 0 (-1074) := by decide +kernel
    have z1 : FloatKind.f64.format.read 5958262307011166208 = .number false 4503599627370496 248 := by decide +kernel
    cases s
    · rw [e, z0] at h
      simp only [Ieee.Datum.order] at h
      simp [e, z1] at h
    · rw [e, z0] at h
      simp only [Ieee.Datum.order] at h
      simp [hx, z1] at h
  | number s m i =>
    obtain ⟨v, hv⟩ := is_of_number e
    refine ⟨v, hv, ?_⟩
    have hneg : Op.negFloat .f64 x = ngB x := rfl
    rw [hneg] at h
    rw [order_is hv zero_is] at h
    by_cases hlt : v < 0
    · rw [if_pos hlt] at h
      have hn := neg_is hv
      simp only [beq_self_eq_true, if_true] at h
      unfold geB leB at h
      rw [order_is hn zero_is, order_is hn m300_is, order_is hn p300_is] at h
      right
      have ea : ab v = -v := by unfold ab; rw [if_neg (by grind)]
      rw [ea, if_neg (by grind), if_neg (by grind)] at *
      refine ⟨?_, ?_⟩
      · rcases lt_or (-v) (p2 (-300)) with h' | h'
        · exfalso
          simp [h'] at h
        · exact h'
      · rcases lt_or (p2 300) (-v) with h' | h'
        · exfalso
          have a1 : ¬ (-v < p2 300) := by grind
          have a2 : ¬ (-v = p2 300) := by grind
          simp [a1, a2] at h
        · exact h'
    · rw [if_neg hlt] at h
      have hb : ((some (if v = 0 then Ordering.eq else Ordering.gt) : Option Ordering) == some Ordering.lt) = false := by split <;> rfl
      rw [hb] at h
      simp only [Bool.false_eq_true, if_false] at h
      unfold geB leB at h
      rw [order_is hv zero_is, order_is hv m300_is, order_is hv p300_is, if_neg hlt] at h
      by_cases h0 : v = 0
      · exact .inl h0
      right
      have ea : ab v = v := by unfold ab; rw [if_pos (by grind)]
      rw [ea]
      rw [if_neg h0] at h
      refine ⟨?_, ?_⟩
      · rcases lt_or v (p2 (-300)) with h' | h'
        · exfalso
          simp [h'] at h
        · exact h'
      · rcases lt_or (p2 300) v with h' | h'
        · exfalso
          have a1 : ¬ (v < p2 300) := by grind
          have a2 : ¬ (v = p2 300) := by grind
          simp [a1, a2] at h
        · exact h'
/-- within. -/
def wiB (x m : Nat) : Bool := leB x m && geB x (Op.negFloat .f64 m)
theorem wi_of {x m : Nat} {u v : Rat} (hx : Is x u) (hm : Is m v) (h1 : u ≤ v) (h2 : -v ≤ u) : wiB x m = true := by
  have hn : Is (Op.negFloat .f64 m) (-v) := neg_is hm
  unfold wiB leB geB
  rw [order_is hx hm, order_is hx hn]
  have a : ((some (if u < v then Ordering.lt else if u = v then Ordering.eq else Ordering.gt) == some Ordering.lt) || (some (if u < v then Ordering.lt else if u = v then Ordering.eq else Ordering.gt) == some Ordering.eq)) = true := by
    by_cases h : u < v
    · rw [if_pos h]; rfl
    · rw [if_neg h, if_pos (by grind)]; rfl
  have b : ((some (if u < -v then Ordering.lt else if u = -v then Ordering.eq else Ordering.gt) == some Ordering.gt) || (some (if u < -v then Ordering.lt else if u = -v then Ordering.eq else Ordering.gt) == some Ordering.eq)) = true := by
    rw [if_neg (by grind)]
    split <;> rfl
  rw [a, b]
  rfl
/-! nought -/
theorem big1 : (0 : Rat) < p2 1000 := p2_pos _
theorem mul_zero_l {x y r : Nat} {v : Rat} (hx : Is x 0) (hy : Is y v) (hr : FOp .mul x y r) : Is r 0 := by
  have e : (0 : Rat) * v = 0 := Rat.zero_mul v
  obtain ⟨t, ht, _, hz⟩ := mul_gen hx hy (by rw [e]; decide +kernel) hr
  rw [hz e] at ht
  exact ht
theorem mul_zero_r {x y r : Nat} {v : Rat} (hx : Is x v) (hy : Is y 0) (hr : FOp .mul x y r) : Is r 0 := by
  have e : v * (0 : Rat) = 0 := Rat.mul_zero v
  obtain ⟨t, ht, _, hz⟩ := mul_gen hx hy (by rw [e]; decide +kernel) hr
  rw [hz e] at ht
  exact ht
theorem add_zero2 {x y r : Nat} (hx : Is x 0) (hy : Is y 0) (hr : FOp .add x y r) : Is r 0 := by
  have e : (0 : Rat) + 0 = 0 := by decide +kernel
  obtain ⟨t, ht, _, hz⟩ := add_gen hx hy (by rw [e]; decide +kernel) hr
  rw [hz e] at ht
  exact ht
theorem sub_zero2 {x y r : Nat} (hx : Is x 0) (hy : Is y 0) (hr : FOp .sub x y r) : Is r 0 := by
  have e : (0 : Rat) - 0 = 0 := by decide +kernel
  obtain ⟨t, ht, _, hz⟩ := sub_gen hx hy (by rw [e]; decide +kernel) hr
  rw [hz e] at ht
  exact ht
theorem is_zero_read {x : Nat} (h : Is x 0) : ∃ s i, FloatKind.f64.format.read x = .number s 0 i := by
  obtain ⟨s, m, i, e, hv⟩ := is_number h
  have hp := p2_pos i
  have hm : m = 0 := by
    rcases Nat.eq_zero_or_pos m with h0 | h0
    · exact h0
    · have hmp : (0 : Rat) < (m : Rat) * p2 i := Rat.mul_pos (Rat.natCast_pos.2 h0) hp
      cases s
      · have hv : (0 : Rat) = (m : Rat) * p2 i := hv
        grind
      · have hv : (0 : Rat) = -((m : Rat) * p2 i) := hv
        grind
  subst hm
  exact ⟨s, i, e⟩
theorem sq_zero {t r : Nat} (h : Is t 0) (hr : FSq t r) : Is r 0 := by
  obtain ⟨s, i, e⟩ := is_zero_read h
  have hq : FloatKind.f64.format.sqrt t = some (FloatKind.f64.format.nearest s 0 i) := by
    unfold Ieee.Format.sqrt
    rw [e]
    rfl
  unfold FSq at hr
  rw [hq] at hr
  have hr : r = _ := hr
  have hn : FloatKind.f64.format.nearest s 0 i = if s then 9223372036854775808 else 0 := by
    unfold Ieee.Format.nearest
    rw [if_pos rfl]
    cases s <;> decide
  rw [hn] at hr
  subst hr
  cases s
  · unfold Is; decide +kernel
  · unfold Is; decide +kernel
end Go.Proofs.YtbjpkfmencaafafDoor
