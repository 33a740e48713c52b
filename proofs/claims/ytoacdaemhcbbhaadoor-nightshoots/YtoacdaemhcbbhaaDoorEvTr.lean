/-
  Tracks: what is wrong with one, how high it is, where it is above a level. Nothing of the program.
-/
import Derived.Test.YtoacdaemhcbbhaaDoorEvNum
namespace Go.Proofs.YtoacdaemhcbbhaaDoor

structure Tr where
  fr : Int
  st : Int
  L : List Int
def Tr.h (t : Tr) (i : Nat) : Int := t.L.getD i 0
def Tr.n (t : Tr) : Nat := t.L.length
def Tr.last (t : Tr) : Int := t.fr + ((t.L.length : Int) - 1) * t.st
def isTime (x : Int) : Bool := decide (-300000000000000000 ≤ x) && decide (x ≤ 300000000000000000)
def flat (l : List Int) : Bool := l.all fun h => decide (-1099511627776 ≤ h) && decide (h ≤ 1099511627776)
def trE (t : Tr) : Int := if t.L.length < 2 ∨ 4000 < t.L.length then 2 else if isTime t.fr = false ∨ t.st < 1 ∨ isTime t.last = false then 3 else if flat t.L = false then 5 else 0
structure TrOk (t : Tr) : Prop where
  n1 : 2 ≤ t.L.length
  n2 : t.L.length ≤ 4000
  f1 : -300000000000000000 ≤ t.fr
  f2 : t.fr ≤ 300000000000000000
  s1 : 1 ≤ t.st
  l1 : -300000000000000000 ≤ t.last
  l2 : t.last ≤ 300000000000000000
  hs : flat t.L = true
theorem isTime_of {x : Int} (h : isTime x = true) : -300000000000000000 ≤ x ∧ x ≤ 300000000000000000 := by
  unfold isTime at h
  rw [Bool.and_eq_true] at h
  exact ⟨of_decide_eq_true h.1, of_decide_eq_true h.2⟩
theorem isTime_iff {x : Int} : isTime x = true ↔ -300000000000000000 ≤ x ∧ x ≤ 300000000000000000 := by
  refine ⟨isTime_of, fun h => ?_⟩
  unfold isTime
  rw [decide_eq_true h.1, decide_eq_true h.2]
  rfl
theorem bool_true {b : Bool} (h : ¬ b = false) : b = true := by cases b <;> simp_all
theorem ok_of {t : Tr} (h : trE t = 0) : TrOk t := by
  unfold trE at h
  split at h
  · cases h
  · rename_i a
    split at h
    · cases h
    · rename_i b
      split at h
      · cases h
      · rename_i c
        have e1 := isTime_of (bool_true (fun k => b (.inl k)))
        have e2 := isTime_of (bool_true (fun k => b (.inr (.inr k))))
        have e3 : ¬ t.st < 1 := fun k => b (.inr (.inl k))
        exact ⟨by omega, by omega, e1.1, e1.2, by omega, e2.1, e2.2, bool_true c⟩
theorem TrOk.err {t : Tr} (h : TrOk t) : trE t = 0 := by
  have a := h.n1
  have b := h.n2
  have c := h.s1
  unfold trE
  rw [if_neg (by omega), if_neg, if_neg]
  · rw [h.hs]
    exact Bool.noConfusion
  · rw [isTime_iff.2 ⟨h.f1, h.f2⟩, isTime_iff.2 ⟨h.l1, h.l2⟩]
    rintro (k | k | k)
    · cases k
    · omega
    · cases k
theorem trE_range (t : Tr) : trE t = 0 ∨ trE t = 2 ∨ trE t = 3 ∨ trE t = 5 := by
  unfold trE
  split
  · simp
  · split
    · simp
    · split <;> simp
theorem flat_at {l : List Int} (h : flat l = true) (i : Nat) : -1099511627776 ≤ l.getD i 0 ∧ l.getD i 0 ≤ 1099511627776 := by
  by_cases hi : i < l.length
  · unfold flat at h
    rw [List.all_eq_true] at h
    have e : l.getD i 0 = l[i] := by simp [List.getD, List.getElem?_eq_getElem hi]
    rw [e]
    have := h _ (List.getElem_mem hi)
    rw [Bool.and_eq_true] at this
    exact ⟨of_decide_eq_true this.1, of_decide_eq_true this.2⟩
  · have e : l.getD i 0 = 0 := by simp [List.getD, List.getElem?_eq_none (Nat.le_of_not_lt hi)]
    rw [e]
    decide
/-- the steps together. -/
theorem TrOk.span {t : Tr} (h : TrOk t) : ((t.L.length : Int) - 1) * t.st ≤ 600000000000000000 := by
  have a := h.f1
  have b := h.l2
  unfold Tr.last at b
  omega
theorem TrOk.step {t : Tr} (h : TrOk t) : t.st ≤ 600000000000000000 := by
  have a := h.span
  have b := h.n1
  have c := h.s1
  have d : 1 * t.st ≤ ((t.L.length : Int) - 1) * t.st := Int.mul_le_mul_of_nonneg_right (by omega) (by omega)
  omega
theorem TrOk.at_ {t : Tr} (h : TrOk t) {i : Nat} (hi : i < t.L.length) : 0 ≤ (i : Int) * t.st ∧ (i : Int) * t.st ≤ ((t.L.length : Int) - 1) * t.st := by
  have c := h.s1
  exact ⟨Int.mul_nonneg (by omega) (by omega), Int.mul_le_mul_of_nonneg_right (by omega) (by omega)⟩
/-! heights -/
def idx (t : Tr) (x : Int) : Nat := ((x - t.fr) / t.st).toNat
def rest (t : Tr) (x : Int) : Int := x - t.fr - (idx t x : Int) * t.st
def heightV (t : Tr) (x : Int) : Int := if idx t x = t.L.length - 1 then t.h (idx t x) else t.h (idx t x) + (t.h (idx t x + 1) - t.h (idx t x)) * rest t x / t.st
def htE (t : Tr) (x : Int) : Int := if trE t ≠ 0 then trE t else if x < t.fr ∨ t.last < x then 3 else 0
def htV (t : Tr) (x : Int) : Int := if htE t x = 0 then heightV t x else 0
def aboveV (t : Tr) (lev x : Int) : Bool := if t.L.length ≤ idx t x + 1 then decide (lev < t.h (t.L.length - 1)) else decide (0 < (t.h (idx t x) - lev) * (t.st - rest t x) + (t.h (idx t x + 1) - lev) * rest t x)
theorem idx_is {t : Tr} (h : TrOk t) {x : Int} (h1 : t.fr ≤ x) (h2 : x ≤ t.last) : ((x - t.fr) / t.st = (idx t x : Int)) ∧ idx t x < t.L.length ∧ 0 ≤ rest t x ∧ rest t x < t.st := by
  have c := h.s1
  have n1 := h.n1
  have e0 : 0 ≤ (x - t.fr) / t.st := Int.ediv_nonneg (by omega) (by omega)
  have e : (x - t.fr) / t.st = (idx t x : Int) := by
    unfold idx
    omega
  have a1 := Int.mul_ediv_self_le (x := x - t.fr) (k := t.st) (by omega)
  have a2 := Int.lt_mul_ediv_self_add (x := x - t.fr) (k := t.st) (by omega)
  rw [e] at a1 a2
  have a3 : (x - t.fr) / t.st < (t.L.length : Int) := by
    rw [Int.ediv_lt_iff_lt_mul (by omega)]
    unfold Tr.last at h2
    have : ((t.L.length : Int) - 1) * t.st = (t.L.length : Int) * t.st - t.st := by rw [Int.sub_mul, Int.one_mul]
    omega
  refine ⟨e, by omega, ?_, ?_⟩
  · unfold rest
    rw [Int.mul_comm]
    omega
  · unfold rest
    rw [Int.mul_comm]
    omega
/-- it rises behind, it sets ahead of: in whole numbers. -/
theorem rise_iff {n c d : Int} (hc : 0 < c) : n / c < d ↔ n < c * d := by
  rw [Int.ediv_lt_iff_lt_mul hc, Int.mul_comm]
theorem set_iff {n c d : Int} (hc : 0 < c) : d < -(-n / c) ↔ c * d < n := by
  have e : -n / c < -d ↔ -n < c * -d := rise_iff hc
  rw [Int.mul_neg] at e
  constructor
  · intro h
    have := e.1 (by omega)
    omega
  · intro h
    have := e.2 (by omega)
    omega
end Go.Proofs.YtoacdaemhcbbhaaDoor
