/-
  A kick, pair by pair.
-/
import Derived.Test.YtdngkmobkbiflagDoorBod2
namespace Go.Proofs.YtdngkmobkbiflagDoor

theorem sub_self (p : Cl) : p.sub p = cl0 := by
  unfold Cl.sub cl0
  refine Cl.ext' ?_ ?_ ?_ <;> simp
theorem mul_zero (k : Int) : Cl.mul k cl0 = cl0 := by
  unfold Cl.mul cl0
  refine Cl.ext' ?_ ?_ ?_ <;> simp
theorem add_zero (p : Cl) : p.add cl0 = p := by
  unfold Cl.add cl0
  refine Cl.ext' ?_ ?_ ?_ <;> simp
theorem force_self (l : List Bd) (j : Nat) : forceK l (l.getD j bd0).at_ (j + 1) = forceK l (l.getD j bd0).at_ j := by
  show (forceK l _ j).add (Cl.mul _ (pullV ((l.getD j bd0).at_.sub (l.getD j bd0).at_))) = _
  rw [sub_self, pullV_zero, mul_zero, add_zero]
def cntP (n i k j : Nat) : Nat := if j < i then n else if j = i then k else if j < k then i + 1 else i
def kf (l : List Bd) (s : Int) (i k j : Nat) : Bd := { l.getD j bd0 with sp := (l.getD j bd0).sp.add (Cl.mul s (forceK l (l.getD j bd0).at_ (cntP l.length i k j))) }
theorem kf_at (l : List Bd) (s : Int) (i k j : Nat) : (kf l s i k j).at_ = (l.getD j bd0).at_ ∧ (kf l s i k j).m = (l.getD j bd0).m := ⟨rfl, rfl⟩
theorem kf_of {l : List Bd} {s : Int} {i k i' k' j : Nat} (h : forceK l (l.getD j bd0).at_ (cntP l.length i k j) = forceK l (l.getD j bd0).at_ (cntP l.length i' k' j)) : kf l s i k j = kf l s i' k' j := by
  unfold kf
  rw [h]
theorem kf_start (l : List Bd) (s : Int) (j : Nat) : kf l s 0 1 j = l.getD j bd0 := by
  have h : forceK l (l.getD j bd0).at_ (cntP l.length 0 1 j) = cl0 := by
    unfold cntP
    rw [if_neg (by omega)]
    by_cases e : j = 0
    · rw [if_pos e]
      have := force_self l j
      rw [e] at this ⊢
      exact this
    · rw [if_neg e, if_neg (by omega)]
      rfl
  unfold kf
  rw [h, mul_zero, add_zero]
theorem kf_same {l : List Bd} {s : Int} {i k j : Nat} (h1 : j ≠ i) (h2 : j ≠ k) : kf l s i (k + 1) j = kf l s i k j := by
  refine kf_of (congrArg _ ?_)
  unfold cntP
  by_cases a : j < i
  · rw [if_pos a, if_pos a]
  · rw [if_neg a, if_neg a, if_neg h1, if_neg h1]
    by_cases b : j < k
    · rw [if_pos (by omega), if_pos b]
    · rw [if_neg (by omega), if_neg b]
theorem mul_add' (s m : Int) (p q : Cl) : Cl.mul s (p.add (Cl.mul m q)) = (Cl.mul s p).add (Cl.mul (s * m) q) := by
  unfold Cl.mul Cl.add
  refine Cl.ext' ?_ ?_ ?_
  all_goals
    simp only [Int.mul_add, Int.mul_assoc]
theorem add_assoc' (p q r : Cl) : p.add (q.add r) = (p.add q).add r := by
  unfold Cl.add
  refine Cl.ext' ?_ ?_ ?_
  all_goals
    simp only [Int.add_assoc]
theorem mul_neg' (k : Int) (p : Cl) : Cl.mul k p.neg = Cl.mul (-k) p := by
  unfold Cl.mul Cl.neg
  refine Cl.ext' ?_ ?_ ?_
  all_goals
    simp only [Int.mul_neg, Int.neg_mul]
theorem kf_first {l : List Bd} {s : Int} {i k : Nat} : (kf l s i (k + 1) i).sp = (kf l s i k i).sp.add (Cl.mul (s * (l.getD k bd0).m) (pullV ((l.getD k bd0).at_.sub (l.getD i bd0).at_))) := by
  have e1 : cntP l.length i (k + 1) i = k + 1 := by unfold cntP; rw [if_neg (by omega), if_pos rfl]
  have e2 : cntP l.length i k i = k := by unfold cntP; rw [if_neg (by omega), if_pos rfl]
  unfold kf
  show (l.getD i bd0).sp.add (Cl.mul s (forceK l (l.getD i bd0).at_ (cntP l.length i (k + 1) i))) = ((l.getD i bd0).sp.add (Cl.mul s (forceK l (l.getD i bd0).at_ (cntP l.length i k i)))).add _
  rw [e1, e2]
  show (l.getD i bd0).sp.add (Cl.mul s ((forceK l (l.getD i bd0).at_ k).add (Cl.mul (l.getD k bd0).m (pullV ((l.getD k bd0).at_.sub (l.getD i bd0).at_))))) = _
  rw [mul_add', add_assoc']
theorem kf_second {l : List Bd} {s : Int} {i k : Nat} (h : i < k) : (kf l s i (k + 1) k).sp = (kf l s i k k).sp.add (Cl.mul (-s * (l.getD i bd0).m) (pullV ((l.getD k bd0).at_.sub (l.getD i bd0).at_))) := by
  have e1 : cntP l.length i (k + 1) k = i + 1 := by unfold cntP; rw [if_neg (by omega), if_neg (by omega), if_pos (by omega)]
  have e2 : cntP l.length i k k = i := by unfold cntP; rw [if_neg (by omega), if_neg (by omega), if_neg (by omega)]
  unfold kf
  show (l.getD k bd0).sp.add (Cl.mul s (forceK l (l.getD k bd0).at_ (cntP l.length i (k + 1) k))) = ((l.getD k bd0).sp.add (Cl.mul s (forceK l (l.getD k bd0).at_ (cntP l.length i k k)))).add _
  rw [e1, e2]
  show (l.getD k bd0).sp.add (Cl.mul s ((forceK l (l.getD k bd0).at_ i).add (Cl.mul (l.getD i bd0).m (pullV ((l.getD i bd0).at_.sub (l.getD k bd0).at_))))) = _
  rw [mul_add', add_assoc', sub_neg (l.getD i bd0).at_ (l.getD k bd0).at_, pullV_neg, mul_neg', Int.neg_mul]
theorem kf_row {l : List Bd} {s : Int} {i j : Nat} (hj : j < l.length) : kf l s i l.length j = kf l s (i + 1) (i + 1 + 1) j := by
  refine kf_of ?_
  unfold cntP
  by_cases a : j < i
  · rw [if_pos a, if_pos (by omega)]
  · rw [if_neg a]
    by_cases b : j = i
    · rw [if_pos b, if_pos (by omega)]
    · rw [if_neg b, if_pos hj, if_neg (by omega)]
      by_cases c : j = i + 1
      · rw [if_pos c]
        have := force_self l j
        rw [c] at this ⊢
        exact this.symm
      · rw [if_neg c, if_neg (by omega)]
theorem kf_end {l : List Bd} {s : Int} {i k j : Nat} (hi : l.length ≤ i) (hj : j < l.length) : kf l s i k j = (kick s l).getD j bd0 := by
  unfold kick
  rw [getD_map l hj]
  unfold kf force cntP
  rw [if_pos (by omega)]
/-! how great they are -/
theorem prod_size {m p : Int} (h1 : -65536 ≤ m) (h2 : m ≤ 65536) (h3 : -4398046511104 ≤ p) (h4 : p ≤ 4398046511104) : -288230376151711744 ≤ m * p ∧ m * p ≤ 288230376151711744 := by
  have e : (m * p).natAbs = m.natAbs * p.natAbs := Int.natAbs_mul m p
  have a : m.natAbs ≤ 65536 := by omega
  have b : p.natAbs ≤ 4398046511104 := by omega
  have c : m.natAbs * p.natAbs ≤ 65536 * 4398046511104 := Nat.mul_le_mul a b
  omega
theorem forceK_size {l : List Bd} (hm : ∀ j, 0 ≤ (l.getD j bd0).m ∧ (l.getD j bd0).m ≤ 65536) (p : Cl) : ∀ k : Nat, (forceK l p k).In ((k : Int) * 288230376151711744)
  | 0 => (⟨by decide, by decide, by decide, by decide, by decide, by decide⟩ : cl0.In (((0 : Nat) : Int) * 288230376151711744))
  | k + 1 => by
    have h := forceK_size hm p k
    have q := pullV_size ((l.getD k bd0).at_.sub p)
    have m1 := (hm k).1
    have m2 := (hm k).2
    have a1 := prod_size (by omega) m2 q.x1 q.x2
    have a2 := prod_size (by omega) m2 q.y1 q.y2
    have a3 := prod_size (by omega) m2 q.z1 q.z2
    obtain ⟨h1, h2, h3, h4, h5, h6⟩ := h
    unfold forceK
    refine ⟨?_, ?_, ?_, ?_, ?_, ?_⟩
    all_goals
      simp only [Cl.add, Cl.mul]
      omega
theorem cntP_le {n i k j : Nat} (hk : k ≤ n) (hi : i < n ∨ j < i) : cntP n i k j ≤ n := by
  unfold cntP
  split
  · omega
  · split
    · omega
    · split <;> omega
/-- no speed is greater than this on the way. -/
theorem kf_size {l : List Bd} {s C : Int} (hs : s = 1 ∨ s = -1) (hm : ∀ j, 0 ≤ (l.getD j bd0).m ∧ (l.getD j bd0).m ≤ 65536) {i k j : Nat} (hl : l.length ≤ 12) (hk : k ≤ l.length) (hi : i < l.length ∨ j < i) (hc : (l.getD j bd0).sp.In C) : (kf l s i k j).sp.In (C + 3458764513820540928) := by
  have hn := cntP_le (n := l.length) hk hi
  have q := forceK_size hm (l.getD j bd0).at_ (cntP l.length i k j)
  have b : ((cntP l.length i k j : Nat) : Int) * 288230376151711744 ≤ 3458764513820540928 := by omega
  unfold kf
  generalize forceK l (l.getD j bd0).at_ (cntP l.length i k j) = F at *
  obtain ⟨q1, q2, q3, q4, q5, q6⟩ := q
  obtain ⟨c1, c2, c3, c4, c5, c6⟩ := hc
  rcases hs with rfl | rfl
  all_goals
    refine ⟨?_, ?_, ?_, ?_, ?_, ?_⟩
    all_goals
      simp only [Cl.add, Cl.mul]
      omega
end Go.Proofs.YtdngkmobkbiflagDoor
