/-
  Plain numbers, more: which of two rows of digits is the greater number.
-/
import Derived.Test.YtkdmeclbnnjdgalDoorNum
namespace Go.Proofs.YtkdmeclbnnjdgalDoor

theorem val_lt_pw (L : List Int) (h : Digs L) : val L < pw L.length := by
  induction L with
  | nil => simp [val, pw]
  | cons d r ih =>
    have h1 := h d (by simp)
    have h2 := ih (fun x hx => h x (by simp [hx]))
    simp only [val, List.length_cons, pw]
    omega
theorem pw_le {i k : Nat} (h : i ≤ k) : pw i ≤ pw k := by
  obtain ⟨j, rfl⟩ := Nat.exists_eq_add_of_le h
  rw [pw_add]
  have a := pw_pos i
  have b := pw_pos j
  have : pw i * 1 ≤ pw i * pw j := Int.mul_le_mul_of_nonneg_left (by omega) (by omega)
  omega
theorem val_ge_pw {L : List Int} {k : Nat} (hd : Digs L) (ht : Top L) (hl : L.length = k + 1) : pw k ≤ val L := by
  have e : val L = val (L.take k) + L.getD k 0 * pw k := by
    rw [← val_take_succ L k (by omega), ← hl, List.take_length]
  have h1 := val_nonneg (L.take k) (digs_take hd k)
  have h2 := (digs_getD hd k).1
  have h3 := ht k hl
  have h4 := pw_pos k
  have h5 : 1 * pw k ≤ L.getD k 0 * pw k := Int.mul_le_mul_of_nonneg_right (by omega) (by omega)
  omega
/-- the longer is the greater. -/
theorem val_lt_len {A B : List Int} (hA : Digs A) (hB : Digs B) (tB : Top B) (h : A.length < B.length) : val A < val B := by
  obtain ⟨k, hk⟩ : ∃ k, B.length = k + 1 := ⟨B.length - 1, by omega⟩
  have h1 := val_lt_pw A hA
  have h2 := pw_le (show A.length ≤ k by omega)
  have h3 := val_ge_pw hB tB hk
  omega
theorem val_split (A : List Int) (i : Nat) (h : i ≤ A.length) : val A = val (A.take i) + pw i * val (A.drop i) := by
  have e := val_append (A.take i) (A.drop i)
  rw [List.take_append_drop, List.length_take, Nat.min_eq_left h] at e
  exact e
theorem drop_same {A B : List Int} (hl : A.length = B.length) {i : Nat} (h : ∀ j, i ≤ j → A.getD j 0 = B.getD j 0) : A.drop i = B.drop i := by
  refine List.ext_getElem? (fun j => ?_)
  rw [List.getElem?_drop, List.getElem?_drop]
  have e := h (i + j) (by omega)
  rw [List.getD_eq_getElem?_getD, List.getD_eq_getElem?_getD] at e
  by_cases hj : i + j < A.length
  · rw [List.getElem?_eq_getElem hj, List.getElem?_eq_getElem (by omega)] at e ⊢
    exact congrArg some e
  · rw [List.getElem?_eq_none (by omega), List.getElem?_eq_none (by omega)]
/-- the first digit from the top that differs tells. -/
theorem val_lt_digit {A B : List Int} (hA : Digs A) (hB : Digs B) (hl : A.length = B.length) {i : Nat} (hi : i < A.length) (h : ∀ j, i + 1 ≤ j → A.getD j 0 = B.getD j 0) (hd : A.getD i 0 < B.getD i 0) : val A < val B := by
  have e1 := val_split A (i + 1) (by omega)
  have e2 := val_split B (i + 1) (by omega)
  rw [drop_same hl h] at e1
  rw [val_take_succ A i hi] at e1
  rw [val_take_succ B i (by omega)] at e2
  have a1 := val_lt_pw (A.take i) (digs_take hA i)
  rw [List.length_take, Nat.min_eq_left (by omega)] at a1
  have a2 := val_nonneg (B.take i) (digs_take hB i)
  have a3 : (A.getD i 0 + 1) * pw i ≤ B.getD i 0 * pw i := Int.mul_le_mul_of_nonneg_right (by omega) (Int.le_of_lt (pw_pos i))
  rw [Int.add_mul] at a3
  omega
theorem val_same {A B : List Int} (hl : A.length = B.length) (h : ∀ j, A.getD j 0 = B.getD j 0) : val A = val B := by
  have := drop_same hl (i := 0) (fun j _ => h j)
  simp at this
  rw [this]
theorem nil_of_val {L : List Int} (hd : Digs L) (ht : Top L) (h : val L = 0) : L = [] := by
  cases L with
  | nil => rfl
  | cons d r => have := val_pos _ hd ht (by simp); omega
theorem val_nil_iff {L : List Int} (hd : Digs L) (ht : Top L) : L.length = 0 ↔ val L = 0 := by
  constructor
  · intro h
    rw [List.length_eq_zero_iff.1 h]
    rfl
  · intro h
    rw [nil_of_val hd ht h]
    rfl
/-- -1, 0, 1. -/
def cmp3 (a b : Int) : Int := if a < b then -1 else if b < a then 1 else 0
theorem cmp3_lt {a b : Int} (h : a < b) : cmp3 a b = -1 := by unfold cmp3; rw [if_pos h]
theorem cmp3_gt {a b : Int} (h : b < a) : cmp3 a b = 1 := by unfold cmp3; rw [if_neg (by omega), if_pos h]
theorem cmp3_eq {a b : Int} (h : a = b) : cmp3 a b = 0 := by unfold cmp3; rw [if_neg (by omega), if_neg (by omega)]
end Go.Proofs.YtkdmeclbnnjdgalDoor
