/-
  What happens along a track, as the program reckons it: the same as the document's. Nothing of the program's text.
-/
import Derived.Test.YthhhomlgcefalahDoorEvEv
namespace Go.Proofs.YthhhomlgcefalahDoor

def downV (a b c : Int) : Int := a * b / c
def upV (a b c : Int) : Int := a * b / c + (if 0 < a * b % c then 1 else 0)
theorem up_neg {n c : Int} (hc : 0 < c) : n / c + (if 0 < n % c then 1 else 0) = -(-n / c) := by
  have h1 := Int.mul_ediv_add_emod n c
  have h2 := Int.emod_nonneg n (show c ≠ 0 by omega)
  have h3 := Int.emod_lt_of_pos n hc
  by_cases h : 0 < n % c
  · rw [if_pos h]
    have : -n / c = -(n / c) - 1 := by
      have := (Int.ediv_emod_unique (a := -n) (b := c) (r := c - n % c) (q := -(n / c) - 1) hc).2 ⟨by
        rw [Int.mul_sub, Int.mul_neg, Int.mul_one]
        omega, by omega, by omega⟩
      exact this.1
    omega
  · rw [if_neg h]
    have : -n / c = -(n / c) := by
      have := (Int.ediv_emod_unique (a := -n) (b := c) (r := 0) (q := -(n / c)) hc).2 ⟨by
        rw [Int.mul_neg]
        omega, by omega, by omega⟩
      exact this.1
    omega
theorem upV_is {a b c : Int} (hc : 0 < c) : upV a b c = -(-(a * b) / c) := up_neg hc
/-! a share of the whole lies in it -/
theorem down_in {a b c : Int} (ha : 0 ≤ a) (hb : 0 ≤ b) (hbc : b ≤ c) (hc : 0 < c) : 0 ≤ downV a b c ∧ downV a b c ≤ a := by
  unfold downV
  refine ⟨Int.ediv_nonneg (Int.mul_nonneg ha hb) (by omega), ?_⟩
  refine Int.ediv_le_of_le_mul hc ?_
  exact Int.mul_le_mul_of_nonneg_left hbc ha
theorem up_in {a b c : Int} (ha : 0 ≤ a) (hb : 0 ≤ b) (hbc : b ≤ c) (hc : 0 < c) : 0 ≤ upV a b c ∧ upV a b c ≤ a := by
  have h := down_in ha hb hbc hc
  unfold downV at h
  refine ⟨by unfold upV; split <;> omega, ?_⟩
  rw [upV_is hc]
  have : -a ≤ -(a * b) / c := by
    rw [Int.le_ediv_iff_mul_le hc, Int.neg_mul]
    have := Int.mul_le_mul_of_nonneg_left hbc ha
    omega
  omega
/-! heights -/
theorem height_zero {t : Tr} {x : Int} (h : rest t x = 0) : heightV t x = t.h (idx t x) := by
  unfold heightV
  rw [h, Int.mul_zero, Int.zero_ediv, Int.add_zero]
  split <;> rfl
theorem rest_last {t : Tr} (h : TrOk t) {x : Int} (h2 : x ≤ t.last) (he : idx t x = t.L.length - 1) (h0 : 0 ≤ rest t x) : rest t x = 0 := by
  have n1 := h.n1
  have e : (idx t x : Int) = (t.L.length : Int) - 1 := by omega
  unfold rest at h0 ⊢
  rw [e] at h0 ⊢
  unfold Tr.last at h2
  omega
theorem height_next {t : Tr} (h : TrOk t) {x : Int} (h1 : t.fr ≤ x) (h2 : x ≤ t.last) (hr : rest t x ≠ 0) : idx t x + 1 < t.L.length := by
  have a := idx_is h h1 h2
  have b : idx t x ≠ t.L.length - 1 := fun e => hr (rest_last h h2 e a.2.2.1)
  omega
theorem height_up {t : Tr} {x : Int} (hn : idx t x + 1 < t.L.length) : heightV t x = t.h (idx t x) + downV (t.h (idx t x + 1) - t.h (idx t x)) (rest t x) t.st := by
  unfold heightV downV
  rw [if_neg (by omega)]
theorem height_down {t : Tr} (hs : 1 ≤ t.st) {x : Int} (hn : idx t x + 1 < t.L.length) : heightV t x = t.h (idx t x) - upV (t.h (idx t x) - t.h (idx t x + 1)) (rest t x) t.st := by
  rw [upV_is (by omega)]
  unfold heightV
  rw [if_neg (by omega)]
  have : -((t.h (idx t x) - t.h (idx t x + 1)) * rest t x) = (t.h (idx t x + 1) - t.h (idx t x)) * rest t x := by
    rw [← Int.neg_mul]
    congr 1
    omega
  rw [this]
  omega
/-! rises and sets -/
theorem cross_rise {t : Tr} {lev : Int} {i : Nat} (h1 : t.h i ≤ lev) (h2 : lev < t.h (i + 1)) : crossV t lev i = [⟨1, t.fr + (i : Int) * t.st + downV t.st (lev - t.h i) (t.h (i + 1) - t.h i), i⟩] := by
  unfold crossV downV
  rw [if_pos ⟨by omega, by omega⟩, show -(t.h i - lev) = lev - t.h i by omega, show t.h (i + 1) - lev - (t.h i - lev) = t.h (i + 1) - t.h i by omega]
theorem cross_set {t : Tr} {lev : Int} {i : Nat} (h1 : lev < t.h i) (h2 : t.h (i + 1) ≤ lev) : crossV t lev i = [⟨2, t.fr + (i : Int) * t.st + upV t.st (t.h i - lev) (t.h i - t.h (i + 1)), if t.h (i + 1) = lev then (i : Int) + 1 else i⟩] := by
  rw [upV_is (by omega)]
  unfold crossV
  rw [if_neg (by omega), if_pos ⟨by omega, by omega⟩, show t.h i - lev - (t.h (i + 1) - lev) = t.h i - t.h (i + 1) by omega, Int.mul_neg]
  have e : (if t.h (i + 1) - lev = 0 then (i : Int) + 1 else i) = if t.h (i + 1) = lev then (i : Int) + 1 else i := by
    by_cases q : t.h (i + 1) = lev
    · rw [if_pos (by omega), if_pos q]
    · rw [if_neg (by omega), if_neg q]
  rw [e, Int.sub_eq_add_neg]
theorem cross_nil {t : Tr} {lev : Int} {i : Nat} (h : lev < t.h i ↔ lev < t.h (i + 1)) : crossV t lev i = [] := by
  unfold crossV
  rw [if_neg (by omega), if_neg (by omega)]
/-! peaks and dips -/
theorem turn_mid {t : Tr} {lev : Int} {i k : Nat} (h : t.h (i - 1) = t.h i) : turnV t lev i k = [] := by
  unfold turnV
  rw [if_pos (.inr h)]
theorem turn_end {t : Tr} {lev : Int} {i k : Nat} (h : k = t.L.length - 1) : turnV t lev i k = [] := by
  unfold turnV
  rw [if_pos (.inl h)]
def kindV (t : Tr) (lev : Int) (i n : Nat) : Int :=
  if n = t.L.length then 0
  else if t.h (i - 1) < t.h i ∧ t.h n < t.h i ∧ lev < t.h i then 3
  else if t.h i < t.h (i - 1) ∧ t.h i < t.h n ∧ t.h i ≤ lev then 4
  else 0
theorem turn_kind {t : Tr} {lev : Int} {i k : Nat} (hk : k < t.L.length) : turnV t lev i k = if kindV t lev i (k + 1) = 0 then [] else [⟨kindV t lev i (k + 1), t.fr + (i : Int) * t.st, i⟩] := by
  unfold turnV kindV
  by_cases h : k = t.L.length - 1
  · rw [if_pos (.inl h), if_pos (show k + 1 = t.L.length by omega), if_pos rfl]
  · rw [if_neg (show ¬ k + 1 = t.L.length by omega)]
    by_cases he : t.h (i - 1) = t.h i
    · rw [if_pos (.inr he), if_neg (show ¬ (t.h (i - 1) < t.h i ∧ t.h (k + 1) < t.h i ∧ lev < t.h i) by omega), if_neg (show ¬ (t.h i < t.h (i - 1) ∧ t.h i < t.h (k + 1) ∧ t.h i ≤ lev) by omega), if_pos rfl]
    · rw [if_neg (by omega)]
      split
      · rw [if_neg (by decide)]
      · split
        · rw [if_neg (by decide)]
        · rw [if_pos rfl]
/-- the rows of equal heights, one behind the other. -/
theorem turns_row {t : Tr} {lev : Int} {i k : Nat} (h1 : 1 ≤ i) (h : IsEnd t i k) : turns t lev k = turns t lev (i - 1) ++ turnV t lev i k := by
  have hi : i < t.L.length := by have := h.le; have := h.lt; omega
  have key : ∀ d, i + d ≤ k → turns t lev (i + d) = turns t lev (i - 1) ++ turnV t lev i k := by
    intro d
    induction d with
    | zero =>
      intro _
      obtain ⟨m, rfl⟩ : ∃ m, i = m + 1 := ⟨i - 1, by omega⟩
      rw [Nat.add_zero, Nat.add_sub_cancel]
      show turns t lev m ++ turnV t lev (m + 1) (runEnd t (m + 1) t.L.length) = _
      rw [(runEnd_is hi).unique h]
    | succ d ih =>
      intro hd
      rw [← ih (by omega)]
      show turns t lev (i + d) ++ turnV t lev (i + d + 1) _ = _
      rw [turn_mid, List.append_nil]
      rw [Nat.add_sub_cancel, h.same (i + d) (by omega) (by omega), h.same (i + d + 1) (by omega) (by omega)]
  have := key (k - i) (by have := h.le; omega)
  rwa [show i + (k - i) = k by have := h.le; omega] at this
theorem turns_last {t : Tr} {lev : Int} (h : 2 ≤ t.L.length) : turns t lev (t.L.length - 1) = turns t lev (t.L.length - 2) := by
  obtain ⟨m, hm⟩ : ∃ m, t.L.length = m + 2 := ⟨t.L.length - 2, by omega⟩
  rw [hm, show m + 2 - 1 = m + 1 by omega, show m + 2 - 2 = m by omega]
  show turns t lev m ++ turnV t lev (m + 1) (runEnd t (m + 1) t.L.length) = _
  have hr := runEnd_is (t := t) (i := m + 1) (by omega)
  rw [turn_end (by have := hr.le; have := hr.lt; omega), List.append_nil]
/-! the first rise or set -/
theorem crosses_kind (t : Tr) (lev : Int) : ∀ c, ∀ e ∈ crosses t lev c, e.k ≤ 2
  | 0, e, h => by cases h
  | c + 1, e, h => by
    unfold crosses at h
    rcases List.mem_append.1 h with h | h
    · exact crosses_kind t lev c e h
    · unfold crossV at h
      split at h
      · rw [List.mem_singleton] at h
        subst h
        show (1 : Int) ≤ 2
        omega
      · split at h
        · rw [List.mem_singleton] at h
          subst h
          show (2 : Int) ≤ 2
          omega
        · cases h
theorem turns_kind (t : Tr) (lev : Int) : ∀ c, ∀ e ∈ turns t lev c, ¬ e.k ≤ 2
  | 0, e, h => by cases h
  | c + 1, e, h => by
    unfold turns at h
    rcases List.mem_append.1 h with h | h
    · exact turns_kind t lev c e h
    · unfold turnV at h
      split at h
      · cases h
      · split at h
        · rw [List.mem_singleton] at h
          subst h
          show ¬ (3 : Int) ≤ 2
          omega
        · split at h
          · rw [List.mem_singleton] at h
            subst h
            show ¬ (4 : Int) ≤ 2
            omega
          · cases h
theorem filter_crosses (t : Tr) (lev : Int) : (eventsV t lev).filter (fun e => decide (e.k ≤ 2)) = sortV (crosses t lev (t.L.length - 1)) := by
  refine sortV_unique ((sortV_sorted _).filter _) ?_
  refine ((sortV_perm _).filter _).trans ?_
  unfold genV
  rw [List.filter_append, List.filter_eq_self.2, List.filter_eq_nil_iff.2, List.append_nil]
  · intro e h
    rw [decide_eq_true_eq]
    exact turns_kind t lev _ e h
  · intro e h
    exact decide_eq_true (crosses_kind t lev _ e h)
end Go.Proofs.YthhhomlgcefalahDoor
