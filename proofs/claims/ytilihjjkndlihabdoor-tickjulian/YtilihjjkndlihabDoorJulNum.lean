/-
  The one Julian date that the law asks first.
-/
namespace Go.Proofs.YtilihjjkndlihabDoor

theorem lowest_two (q r c : Int) (hr : 0 < r) (e : q * 2 = c * r) (hc : c % 2 = 1) (h : Int.gcd q r = 1) : q = c ∧ r = 2 := by
  have h1 : r ∣ q * 2 := ⟨c, by rw [e, Int.mul_comm]⟩
  have h2 : r.natAbs ∣ q.natAbs * 2 := by
    have := Int.natAbs_dvd_natAbs.2 h1
    rw [Int.natAbs_mul] at this
    exact this
  have hcop : Nat.Coprime r.natAbs q.natAbs := by
    have : Nat.gcd q.natAbs r.natAbs = 1 := h
    rw [Nat.gcd_comm] at this
    exact this
  have h3 := Nat.le_of_dvd (by decide) (hcop.dvd_of_dvd_mul_left h2)
  rcases (show r = 1 ∨ r = 2 by omega) with rfl | rfl
  · omega
  · omega
theorem first_two {q r g : Int} (hg : 0 < g) (e1 : 211813444800000000 = g * q) (e2 : 86400000000 = g * r) (e3 : Int.gcd q r = 1) : q = 4903089 ∧ r = 2 := by
  have hr : 0 < r := by
    rcases (show 0 < r ∨ r ≤ 0 by omega) with h | h
    · exact h
    · have := Int.mul_nonpos_of_nonneg_of_nonpos (Int.le_of_lt hg) h
      omega
  have a : g * (q * 2) = g * q * 2 := by ac_rfl
  have b : g * (4903089 * r) = g * r * 4903089 := by ac_rfl
  have c1 : g * (q * 2) = g * (4903089 * r) := by omega
  exact lowest_two q r 4903089 hr (Int.eq_of_mul_eq_mul_left (by omega) c1) (by omega) e3
end Go.Proofs.YtilihjjkndlihabDoor
