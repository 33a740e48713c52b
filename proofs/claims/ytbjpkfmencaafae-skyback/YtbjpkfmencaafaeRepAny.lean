/-
  Any angle's sine and cosine: signs, and a reckoned point of a quadrant.
-/
import Derived.Test.YtbjpkfmencaafaeRepOf
namespace Go.Proofs.Ytbjpkfmencaafae
open Go

def backQ (bx bY : Bool) (t : Int) : Int := if bx && bY then 648000000000 + t else if bx then 648000000000 - t else if bY then 1296000000000 - t else t
theorem sgn_neg (v : Rat) : sgn true (-v) = v := by show -(-v) = v; grind
theorem rep_any (a : Int) : ∃ (t : Int) (S C : Rat) (bx bY : Bool), Is (sinV a) (sgn bY S) ∧ Is (cosV a) (sgn bx C) ∧ Rep t S C ∧ 0 ≤ t ∧ t ≤ 324000000000 ∧ (t = 0 → S = 0) ∧ (t = 324000000000 → C = 0) ∧ (bY = true → 0 < t) ∧ (bx = true → t < 324000000000) ∧ nrm a = backQ bx bY t := by
  have hn := nrm_range a
  have hqr := qOf_range a
  have hr := rOf_range a
  have hrd : rOf a = nrm a - qOf a * 324000000000 := rfl
  obtain ⟨X, S, C, s1, c1, x0, x1, c2, hp, hm, hz⟩ := part (rOf a) (by omega) hr.1
  have eS : sinV a = turnS (qOf a) (sV (rOf a)) (cV (rOf a)) := rfl
  have eC : cosV a = turnC (qOf a) (sV (rOf a)) (cV (rOf a)) := rfl
  rw [eS, eC]
  clear eS eC
  generalize sV (rOf a) = sv at *
  generalize cV (rOf a) = cv at *
  generalize rOf a = r at *
  generalize nrm a = n at *
  generalize qOf a = q at *
  have sn := neg_is s1
  have cn := neg_is c1
  have hq5 : q = 0 ∨ q = 1 ∨ q = 2 ∨ q = 3 ∨ q = 4 := by omega
  have rr : (324000000000 : Int) - (324000000000 + r) = -r := by omega
  have rr2 : (324000000000 : Int) - (324000000000 - r) = r := by omega
  rcases hq5 with rfl | rfl | rfl | rfl | rfl
  · obtain ⟨s2, x2⟩ := hp (by omega)
    exact ⟨r, S, C, false, false, s1, c1, ⟨X, x0, x1, .inl ⟨by omega, x2, s2, c2⟩⟩, by omega, by omega, hz, fun h => by omega, fun h => Bool.noConfusion h, fun h => Bool.noConfusion h, by show n = r; omega⟩
  · by_cases h : r ≤ 0
    · obtain ⟨s2, x2⟩ := hm h
      exact ⟨324000000000 + r, C, -S, false, false, c1, sn, ⟨X, x0, x1, .inr ⟨by omega, by rw [rr]; exact x2, c2, s2⟩⟩, by omega, by omega, fun h => by omega, fun h => by rw [hz (by omega)]; exact Rat.neg_zero, fun h => Bool.noConfusion h, fun h => Bool.noConfusion h, by show n = 324000000000 + r; omega⟩
    · obtain ⟨s2, x2⟩ := hp (by omega)
      exact ⟨324000000000 - r, C, S, true, false, c1, sn, ⟨X, x0, x1, .inr ⟨by omega, by rw [rr2]; exact x2, c2, s2⟩⟩, by omega, by omega, fun h => by omega, fun h => by omega, fun h => Bool.noConfusion h, fun _ => by omega, by show n = 648000000000 - (324000000000 - r); omega⟩
  · by_cases h : r ≤ 0
    · obtain ⟨s2, x2⟩ := hm h
      exact ⟨-r, -S, C, true, false, sn, cn, ⟨X, x0, x1, .inl ⟨by omega, x2, s2, c2⟩⟩, by omega, by omega, fun h => by rw [hz (by omega)]; exact Rat.neg_zero, fun h => by omega, fun h => Bool.noConfusion h, fun _ => by omega, by show n = 648000000000 - -r; omega⟩
    · obtain ⟨s2, x2⟩ := hp (by omega)
      exact ⟨r, S, C, true, true, sn, cn, ⟨X, x0, x1, .inl ⟨by omega, x2, s2, c2⟩⟩, by omega, by omega, fun h => by omega, fun h => by omega, fun _ => by omega, fun _ => by omega, by show n = 648000000000 + r; omega⟩
  · by_cases h : r < 0
    · obtain ⟨s2, x2⟩ := hm (by omega)
      exact ⟨324000000000 + r, C, -S, true, true, cn, by rw [sgn_neg]; exact s1, ⟨X, x0, x1, .inr ⟨by omega, by rw [rr]; exact x2, c2, s2⟩⟩, by omega, by omega, fun h => by omega, fun h => by omega, fun _ => by omega, fun _ => by omega, by show n = 648000000000 + (324000000000 + r); omega⟩
    · obtain ⟨s2, x2⟩ := hp (by omega)
      exact ⟨324000000000 - r, C, S, false, true, cn, s1, ⟨X, x0, x1, .inr ⟨by omega, by rw [rr2]; exact x2, c2, s2⟩⟩, by omega, by omega, fun h => by omega, fun h => hz (by omega), fun _ => by omega, fun h => Bool.noConfusion h, by show n = 1296000000000 - (324000000000 - r); omega⟩
  · obtain ⟨s2, x2⟩ := hm (by omega)
    exact ⟨-r, -S, C, false, true, by rw [sgn_neg]; exact s1, c1, ⟨X, x0, x1, .inl ⟨by omega, x2, s2, c2⟩⟩, by omega, by omega, fun h => by omega, fun h => by omega, fun _ => by omega, fun h => Bool.noConfusion h, by show n = 1296000000000 - -r; omega⟩
end Go.Proofs.Ytbjpkfmencaafae
