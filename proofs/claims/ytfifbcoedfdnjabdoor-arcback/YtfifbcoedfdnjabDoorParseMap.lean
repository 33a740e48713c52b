/-
  What is read does not turn on how a rune that is none is told. And two digits as the document's answer reads them.
-/
import Derived.Test.YtfifbcoedfdnjabDoorParse
namespace Go.Proofs.YtfifbcoedfdnjabDoor

def told (x : Int) : Int := if x = -1 then 65533 else x
def Got.told : Got → Got
  | .bad p => .bad p
  | .got n L k => .got n (L.map Go.Proofs.YtfifbcoedfdnjabDoor.told) k

theorem told_digit (x : Int) : (48 ≤ told x ∧ told x ≤ 57) = (48 ≤ x ∧ x ≤ 57) := by
  unfold told; split
  · exact propext ⟨fun h => by omega, fun h => by omega⟩
  · rfl
theorem told_same {x : Int} (h : 48 ≤ x ∧ x ≤ 57) : told x = x := by unfold told; rw [if_neg (by omega)]
theorem told_eq {c : Int} (h1 : c ≠ -1) (h2 : c ≠ 65533) (x : Int) : (told x = c) = (x = c) := by
  unfold told; split
  · exact propext ⟨fun h => by omega, fun h => by omega⟩
  · rfl

theorem digs_told (m : Nat) : ∀ (n : Int) (L : List Int), digs m n (L.map told) = ((digs m n L).1, (digs m n L).2.1, (digs m n L).2.2.map told) := by
  induction m with
  | zero => intro n L; rfl
  | succ m ih =>
    intro n L
    cases L with
    | nil => rfl
    | cons x L =>
      simp only [List.map_cons, digs, told_digit]
      by_cases h : 48 ≤ x ∧ x ≤ 57
      · rw [if_pos h, if_pos h, told_same h, ih]
      · rw [if_neg h, if_neg h]; rfl
theorem numP_told (m : Nat) (L : List Int) (k : Nat) : numP m (L.map told) k = (numP m L k).told := by
  unfold numP
  rw [digs_told]
  by_cases h : (digs m 0 L).2.1 = 0
  · rw [if_pos h, if_pos h]; rfl
  · rw [if_neg h, if_neg h]; rfl
theorem digP_told (L : List Int) (k : Nat) : digP (L.map told) k = (digP L k).told := by
  cases L with
  | nil => rfl
  | cons x L =>
    simp only [List.map_cons, digP, told_digit]
    by_cases h : 48 ≤ x ∧ x ≤ 57
    · rw [if_pos h, if_pos h, told_same h]; rfl
    · rw [if_neg h, if_neg h]; rfl
theorem upTo_told (b n : Int) (f : Nat) (L : List Int) (k : Nat) : upTo b n f (L.map told) k = (upTo b n f L k).told := by
  unfold upTo; split <;> rfl
theorem twoP_told (L : List Int) (k : Nat) : twoP (L.map told) k = (twoP L k).told := by
  unfold twoP
  rw [digP_told]
  rcases digP L k with p | ⟨a, M, j⟩
  · rfl
  · simp only [Got.told]
    rw [digP_told]
    rcases digP M j with p | ⟨b, M', j'⟩
    · rfl
    · simp only [Got.told]
      rw [upTo_told]; rfl
theorem needP_told {c : Int} (h1 : c ≠ -1) (h2 : c ≠ 65533) (L : List Int) (k : Nat) : needP c (L.map told) k = (needP c L k).told := by
  cases L with
  | nil => rfl
  | cons x L =>
    simp only [List.map_cons, needP, told_eq h1 h2]
    split <;> rfl
theorem micP_told (L : List Int) (k : Nat) : micP (L.map told) k = (micP L k).told := by
  unfold micP
  rw [numP_told]
  rcases numP 6 L k with p | ⟨a, M, j⟩ <;> rfl
theorem pointP_told (L : List Int) (k : Nat) : pointP (L.map told) k = (pointP L k).told := by
  cases L with
  | nil => rfl
  | cons x L =>
    simp only [List.map_cons, pointP, told_eq (show (46 : Int) ≠ -1 by omega) (show (46 : Int) ≠ 65533 by omega)]
    split
    · exact micP_told _ _
    · rfl
theorem endP_told (n : Int) (L : List Int) (k : Nat) : endP n (L.map told) k = (endP n L k).told := by cases L <;> rfl
theorem secP_told {s : Int} (h1 : s ≠ -1) (h2 : s ≠ 65533) (L : List Int) (k : Nat) : secP s (L.map told) k = (secP s L k).told := by
  unfold secP
  rw [twoP_told]
  rcases twoP L k with p | ⟨a, M, j⟩
  · rfl
  simp only [Got.told]
  rw [pointP_told]
  rcases pointP M j with p | ⟨b, M', j'⟩
  · rfl
  simp only [Got.told]
  rw [needP_told h1 h2]
  rcases needP s M' j' with p | ⟨c, M'', j''⟩
  · rfl
  simp only [Got.told]
  rw [endP_told]; rfl
theorem sixP_told {m s : Int} (m1 : m ≠ -1) (m2 : m ≠ 65533) (h1 : s ≠ -1) (h2 : s ≠ 65533) (L : List Int) (k : Nat) : sixP m s (L.map told) k = (sixP m s L k).told := by
  cases L with
  | nil => rfl
  | cons x L =>
    have e := twoP_told (x :: L) k
    simp only [List.map_cons] at e ⊢
    simp only [sixP]
    rw [e]
    rcases twoP (x :: L) k with p | ⟨a, M, j⟩
    · rfl
    simp only [Got.told]
    rw [needP_told m1 m2]
    rcases needP m M j with p | ⟨b, M', j'⟩
    · rfl
    simp only [Got.told]
    cases M' with
    | nil => rfl
    | cons y M' =>
      have e := secP_told h1 h2 (y :: M') j'
      simp only [List.map_cons] at e ⊢
      rw [e]
      rcases secP s (y :: M') j' with p | ⟨c, M'', j''⟩ <;> rfl
theorem degP_told (minus : Bool) (L : List Int) (k : Nat) : degP minus (L.map told) k = (degP minus L k).told := by
  unfold degP
  rw [numP_told]
  rcases numP 6 L k with p | ⟨a, M, j⟩
  · rfl
  simp only [Got.told]
  rw [needP_told (by omega) (by omega)]
  rcases needP 176 M j with p | ⟨b, M', j'⟩
  · rfl
  simp only [Got.told]
  rw [sixP_told (by omega) (by omega) (by omega) (by omega)]
  rcases sixP 8242 8243 M' j' with p | ⟨c, M'', j''⟩ <;> rfl
theorem degreesP_told (L : List Int) : degreesP (L.map told) = (degreesP L).told := by
  cases L with
  | nil => exact degP_told false [] 0
  | cons x L =>
    have e := degP_told false (x :: L) 0
    simp only [List.map_cons] at e ⊢
    simp only [degreesP, told_eq (show (45 : Int) ≠ -1 by omega) (show (45 : Int) ≠ 65533 by omega), told_eq (show (43 : Int) ≠ -1 by omega) (show (43 : Int) ≠ 65533 by omega)]
    split
    · exact degP_told _ _ _
    · split
      · exact degP_told _ _ _
      · exact e
theorem hoursP_told (L : List Int) : hoursP (L.map told) = (hoursP L).told := by
  unfold hoursP
  rw [numP_told]
  rcases numP 2 L 0 with p | ⟨a, M, j⟩
  · rfl
  simp only [Got.told]
  split
  · rfl
  rw [needP_told (by omega) (by omega)]
  rcases needP 104 M j with p | ⟨b, M', j'⟩
  · rfl
  simp only [Got.told]
  rw [sixP_told (by omega) (by omega) (by omega) (by omega)]
  rcases sixP 109 115 M' j' with p | ⟨c, M'', j''⟩ <;> rfl

/-! the document's answer reads two digits at once -/
theorem digs_rest (m : Nat) : ∀ (n : Int) (L : List Int), (digs m n L).2.2 = L.drop (digs m n L).2.1 := by
  induction m with
  | zero => intro n L; rfl
  | succ m ih =>
    intro n L
    cases L with
    | nil => rfl
    | cons x L =>
      simp only [digs]
      split
      · simp only [List.drop_succ_cons]; exact ih _ _
      · rfl
theorem twoP_digs (L : List Int) (k : Nat) : twoP L k = if (digs 2 0 L).2.1 < 2 then .bad (k + (digs 2 0 L).2.1) else upTo 59 (digs 2 0 L).1 k (digs 2 0 L).2.2 (k + 2) := by
  rcases L with _ | ⟨x, _ | ⟨y, L⟩⟩
  · rfl
  · simp only [twoP, digP, digs]
    by_cases h : 48 ≤ x ∧ x ≤ 57
    · simp [h]
    · simp [h]
  · simp only [twoP, digP, digs]
    by_cases h : 48 ≤ x ∧ x ≤ 57
    · by_cases h' : 48 ≤ y ∧ y ≤ 57
      · simp [h, h']
      · simp [h, h']
    · simp [h]
end Go.Proofs.YtfifbcoedfdnjabDoor
