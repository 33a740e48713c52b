/-
  The document's test, of two reckoned points.
-/
import Derived.Test.YtbjpkfmencaafaeRep
import Derived.Test.YtbjpkfmencaafaeRel
namespace Go.Proofs.Ytbjpkfmencaafae
open Go

def del : Rat := 1 / 9007199254740992
theorem del_is : p2 (-53) = del ∧ 0 ≤ del ∧ del ≤ 1 / 10 := by decide +kernel
/-- two products, one upon the other. -/
theorem twice {l a U z c : Rat} (ha : 0 ≤ a) (hz : 0 ≤ z) (hc : 0 ≤ c) (hl : Near l (a * U) (del * (a * U))) (hU : Near U (z * c) (del * (z * c))) :
    z * (a * c) - 2 * del * (z * (a * c)) ≤ l ∧ l ≤ z * (a * c) + 3 * del * (z * (a * c)) := by
  obtain ⟨_, d0, d1⟩ := del_is
  obtain ⟨l1, l2⟩ := hl
  obtain ⟨u1, u2⟩ := hU
  have zc := Rat.mul_nonneg hz hc
  have q1 := Rat.mul_nonneg ha (show 0 ≤ U - (z * c - del * (z * c)) by grind)
  have q2 := Rat.mul_nonneg ha (show 0 ≤ z * c + del * (z * c) - U by grind)
  have q3 := Rat.mul_nonneg ha zc
  have e1 : a * (z * c) = z * (a * c) := by grind
  have e2 : a * (U - (z * c - del * (z * c))) = a * U - (a * (z * c) - del * (a * (z * c))) := by grind
  have e3 : a * (z * c + del * (z * c) - U) = a * (z * c) + del * (a * (z * c)) - a * U := by grind
  rw [e2] at q1
  rw [e3] at q2
  rw [e1] at q1 q2 q3
  generalize z * (a * c) = P at *
  generalize a * U = V at *
  clear u1 u2 zc e1 e2 e3
  have r1 : 0 ≤ V - (P - del * P) := q1
  have r2 : 0 ≤ P + del * P - V := q2
  have s1 := Rat.mul_nonneg (show 0 ≤ 1 - del by grind) r1
  have s2 := Rat.mul_nonneg (show 0 ≤ 1 + del by grind) r2
  have s3 := Rat.mul_nonneg (Rat.mul_nonneg d0 d0) (show 0 ≤ P by grind)
  have s4 := Rat.mul_nonneg (Rat.mul_nonneg d0 (show 0 ≤ 1 - del by grind)) (show 0 ≤ P by grind)
  constructor <;> grind
theorem turn_fits : 0 < 15 / 10000000000000 - 3 * del * 2 - 3 * del * 2 := by decide +kernel
/-- which way the test goes. -/
theorem which {l r a U c W z s k : Rat} (hz : 0 < z) (ha : 0 ≤ a) (ha1 : a ≤ 11 / 10) (hc : 0 ≤ c) (hc1 : c ≤ 11 / 10) (hs : 0 ≤ s) (hs1 : s ≤ 11 / 10) (hk : 0 ≤ k) (hk1 : k ≤ 11 / 10)
    (hl : Near l (a * U) (del * (a * U))) (hU : Near U (z * c) (del * (z * c))) (hr : Near r (k * W) (del * (k * W))) (hW : Near W (z * s) (del * (z * s))) :
    (15 / 10000000000000 ≤ a * c - k * s → r < l) ∧ (15 / 10000000000000 ≤ k * s - a * c → l < r) := by
  obtain ⟨l1, l2⟩ := twice ha (Rat.le_of_lt hz) hc hl hU
  obtain ⟨r1, r2⟩ := twice hk (Rat.le_of_lt hz) hs hr hW
  have hp := (prod_abs ha1 (show -(11 / 10) ≤ a by grind) hc1 (show -(11 / 10) ≤ c by grind)).1
  have hq := (prod_abs hk1 (show -(11 / 10) ≤ k by grind) hs1 (show -(11 / 10) ≤ s by grind)).1
  have p0 := Rat.mul_nonneg ha hc
  have q0 := Rat.mul_nonneg hk hs
  generalize a * c = P at *
  generalize k * s = R at *
  have tf := turn_fits
  obtain ⟨_, d0, _⟩ := del_is
  have m1 := Rat.mul_nonneg d0 (show 0 ≤ 2 - P by grind)
  have m2 := Rat.mul_nonneg d0 (show 0 ≤ 2 - R by grind)
  have m3 := Rat.mul_nonneg d0 p0
  have m4 := Rat.mul_nonneg d0 q0
  constructor
  · intro h
    have hh : 0 < P - R - 2 * del * P - 3 * del * R := by grind
    have := Rat.mul_pos hz hh
    grind
  · intro h
    have hh : 0 < R - P - 2 * del * R - 3 * del * P := by grind
    have := Rat.mul_pos hz hh
    grind
end Go.Proofs.Ytbjpkfmencaafae
