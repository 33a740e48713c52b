/-
  How two rows go together at each shift, around. Nothing of the program.
-/
import Derived.Test.YtngdemhhcablmakDoorFrP
namespace Go.Proofs.YtngdemhhcablmakDoor

def bigB (x : Int) : Bool := decide (1048576 < x ∨ x < -1048576)
/-- is one of the first k too great? -/
def badAB (a b : List Int) : Nat → Bool
  | 0 => false
  | k + 1 => badAB a b k || (bigB (a.getD k 0) || bigB (b.getD k 0))
theorem badAB_no {a b : List Int} : ∀ {n : Nat}, badAB a b n = false → ∀ k, k < n → bigB (a.getD k 0) = false ∧ bigB (b.getD k 0) = false
  | 0, _, k, hk => absurd hk (Nat.not_lt_zero k)
  | n + 1, h, k, hk => by
    unfold badAB at h
    rw [Bool.or_eq_false_iff, Bool.or_eq_false_iff] at h
    by_cases e : k = n
    · rw [e]; exact h.2
    · exact badAB_no h.1 k (by omega)
theorem badAB_yes {a b : List Int} {n k : Nat} (hk : k < n) (h : (bigB (a.getD k 0) || bigB (b.getD k 0)) = true) : badAB a b n = true := by
  cases q : badAB a b n with
  | true => rfl
  | false =>
    obtain ⟨h1, h2⟩ := badAB_no q k hk
    rw [h1, h2] at h
    cases h
theorem badAB_none {a b : List Int} : ∀ {n : Nat}, (∀ k, k < n → (bigB (a.getD k 0) || bigB (b.getD k 0)) = false) → badAB a b n = false
  | 0, _ => rfl
  | n + 1, h => by
    unfold badAB
    rw [badAB_none (fun k hk => h k (by omega)), h n (by omega)]
    rfl
/-- 0, or an error's number. -/
def rowsE (a b : List Int) : Int := if 256 < a.length ∨ 256 < b.length then 2 else if a.length = 0 ∨ a.length ≠ b.length then 5 else if badAB a b a.length = true then 2 else 0
structure RowsOk (a b : List Int) (n : Nat) : Prop where
  la : a.length = n
  lb : b.length = n
  pos : 0 < n
  few : n ≤ 256
  each : ∀ k, -1048576 ≤ a.getD k 0 ∧ a.getD k 0 ≤ 1048576 ∧ -1048576 ≤ b.getD k 0 ∧ b.getD k 0 ≤ 1048576
theorem big_no {x : Int} (h : bigB x = false) : -1048576 ≤ x ∧ x ≤ 1048576 := by
  have := of_decide_eq_false h
  omega
theorem rows_ok {a b : List Int} (h : rowsE a b = 0) : ∃ n, RowsOk a b n := by
  unfold rowsE at h
  by_cases q1 : 256 < a.length ∨ 256 < b.length
  · rw [if_pos q1] at h; omega
  · rw [if_neg q1] at h
    by_cases q2 : a.length = 0 ∨ a.length ≠ b.length
    · rw [if_pos q2] at h; omega
    · rw [if_neg q2] at h
      by_cases q3 : badAB a b a.length = true
      · rw [if_pos q3] at h; omega
      · have q4 : badAB a b a.length = false := by simpa using q3
        refine ⟨a.length, rfl, by omega, by omega, by omega, fun k => ?_⟩
        by_cases hk : k < a.length
        · obtain ⟨h1, h2⟩ := badAB_no q4 k hk
          exact ⟨(big_no h1).1, (big_no h1).2, (big_no h2).1, (big_no h2).2⟩
        · rw [List.getD_eq_getElem?_getD, List.getElem?_eq_none (by omega), List.getD_eq_getElem?_getD, List.getElem?_eq_none (by omega)]
          exact ⟨by decide, by decide, by decide, by decide⟩
/-- the first k products at a shift, together. -/
def crossK (a b : List Int) (n s : Nat) : Nat → Int
  | 0 => 0
  | k + 1 => crossK a b n s k + a.getD k 0 * b.getD ((k + s) % n) 0
theorem mul_20 {x y : Int} (h1 : -1048576 ≤ x ∧ x ≤ 1048576) (h2 : -1048576 ≤ y ∧ y ≤ 1048576) : -1099511627776 ≤ x * y ∧ x * y ≤ 1099511627776 := by
  have p : ∀ u v : Int, 0 ≤ u → u ≤ 1048576 → 0 ≤ v → v ≤ 1048576 → 0 ≤ u * v ∧ u * v ≤ 1099511627776 := fun u v a b c d =>
    ⟨Int.mul_nonneg a c, by have := Int.mul_le_mul b d c (by omega : (0 : Int) ≤ 1048576); omega⟩
  rcases Int.le_total 0 x with hx | hx <;> rcases Int.le_total 0 y with hy | hy
  · have := p x y hx h1.2 hy h2.2; omega
  · have := p x (-y) hx h1.2 (by omega) (by omega); rw [Int.mul_neg] at this; omega
  · have := p (-x) y (by omega) (by omega) hy h2.2; rw [Int.neg_mul] at this; omega
  · have := p (-x) (-y) (by omega) (by omega) (by omega) (by omega); rw [Int.neg_mul_neg] at this; omega
theorem crossK_range {a b : List Int} (h : ∀ k, -1048576 ≤ a.getD k 0 ∧ a.getD k 0 ≤ 1048576 ∧ -1048576 ≤ b.getD k 0 ∧ b.getD k 0 ≤ 1048576) (n s : Nat) : ∀ k : Nat, -(1099511627776 * (k : Int)) ≤ crossK a b n s k ∧ crossK a b n s k ≤ 1099511627776 * (k : Int)
  | 0 => ⟨by simp [crossK], by simp [crossK]⟩
  | k + 1 => by
    have ih := crossK_range h n s k
    have hm := mul_20 ⟨(h k).1, (h k).2.1⟩ ⟨(h ((k + s) % n)).2.2.1, (h ((k + s) % n)).2.2.2⟩
    unfold crossK
    omega
def crossV (a b : List Int) (s : Nat) : Int := crossK a b a.length s a.length
def crossL (a b : List Int) : List Int := (List.range a.length).map (crossV a b)
theorem crossL_len (a b : List Int) : (crossL a b).length = a.length := by simp [crossL]
theorem crossL_at {a b : List Int} {s : Nat} (h : s < a.length) : (crossL a b).getD s 0 = crossV a b s := by
  rw [List.getD_eq_getElem?_getD, crossL, List.getElem?_map, List.getElem?_range h]
  rfl
/-- the first of the greatest of the first k. -/
def bestI (l : List Int) : Nat → Nat
  | 0 => 0
  | k + 1 => if l.getD (bestI l k) 0 < l.getD k 0 then k else bestI l k
theorem bestI_lt (l : List Int) {n : Nat} (hn : 0 < n) : ∀ k, k ≤ n → bestI l k < n
  | 0, _ => hn
  | k + 1, hk => by
    have := bestI_lt l hn k (by omega)
    unfold bestI
    split <;> omega
theorem bestI_max (l : List Int) : ∀ {n k : Nat}, k < n → l.getD k 0 ≤ l.getD (bestI l n) 0
  | 0, k, hk => absurd hk (Nat.not_lt_zero k)
  | n + 1, k, hk => by
    unfold bestI
    by_cases e : k = n
    · subst e
      split
      · exact Int.le_refl _
      · omega
    · have := bestI_max l (n := n) (k := k) (by omega)
      split <;> omega
/-- the first of the greatest is told by what is told of it. -/
theorem bestI_first (l : List Int) : ∀ {n k : Nat}, k < bestI l n → l.getD k 0 < l.getD (bestI l n) 0
  | 0, k, hk => absurd hk (Nat.not_lt_zero k)
  | n + 1, k, hk => by
    unfold bestI at hk ⊢
    by_cases q : l.getD (bestI l n) 0 < l.getD n 0
    · rw [if_pos q] at hk ⊢
      have := bestI_max l (n := n) (k := k) hk
      omega
    · rw [if_neg q] at hk ⊢
      exact bestI_first l hk
theorem bestI_unique {l : List Int} {n m : Nat} (hm : m < n) (h1 : ∀ k, k < n → l.getD k 0 ≤ l.getD m 0) (h2 : ∀ k, k < m → l.getD k 0 < l.getD m 0) : m = bestI l n := by
  have hb := bestI_lt l (n := n) (by omega) n (Nat.le_refl _)
  rcases Nat.lt_trichotomy m (bestI l n) with q | q | q
  · have a1 := bestI_first l q
    have a2 := h1 _ hb
    omega
  · exact q
  · have a1 := h2 _ q
    have a2 := bestI_max l hm
    omega
end Go.Proofs.YtngdemhhcablmakDoor
