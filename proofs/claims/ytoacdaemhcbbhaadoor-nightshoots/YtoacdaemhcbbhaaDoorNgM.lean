/-
  The best plan of a night. Nothing of the program.
-/
import Derived.Below
namespace Go.Proofs.YtoacdaemhcbbhaaDoor

/-- jobs as a plan sees them: how many, how long, what each is worth, when it may begin from an instant on. -/
structure Jo where
  n : Nat
  lo : Nat → Int
  wo : Nat → Int
  so : Nat → Int → Option Int
structure Jo.Ok (J : Jo) : Prop where
  n : J.n ≤ 6
  wo : ∀ i, i < J.n → 0 < J.wo i
  lo : ∀ i, i < J.n → 0 < J.lo i
  ge : ∀ {i t a}, J.so i t = some a → t ≤ a
  mo : ∀ {i t t' a}, t' ≤ t → J.so i t = some a → ∃ a', J.so i t' = some a' ∧ a' ≤ a
/-- one more is used. -/
def usd (u : Nat → Bool) (k : Nat) : Nat → Bool := fun j => u j || decide (j = k)
def mostK (J : Jo) (g : (Nat → Bool) → Int → Int) (u : Nat → Bool) (t : Int) : Nat → Int
  | 0 => 0
  | k + 1 => if u k then mostK J g u t k else match J.so k t with
    | none => mostK J g u t k
    | some a => if mostK J g u t k < J.wo k + g (usd u k) (a + J.lo k) then J.wo k + g (usd u k) (a + J.lo k) else mostK J g u t k
/-- the most that is to be had of what is not used, from an instant on. -/
def mostF (J : Jo) : Nat → (Nat → Bool) → Int → Int
  | 0, _, _ => 0
  | f + 1, u, t => mostK J (mostF J f) u t J.n
structure Rw where
  can : Bool
  last : Nat
  fr : Int
  to_ : Int
  wo : Int
def rwZ : Rw := ⟨false, 0, 0, 0, 0⟩
def stepR (J : Jo) (R : Nat → Rw) (s i : Nat) (r : Rw) : Rw :=
  if s.testBit i && (R (s - 2 ^ i)).can then match J.so i (R (s - 2 ^ i)).to_ with
    | none => r
    | some a => if !r.can || decide (a + J.lo i < r.to_) then ⟨true, i, a, a + J.lo i, (R (s - 2 ^ i)).wo + J.wo i⟩ else r
  else r
def rowK (J : Jo) (R : Nat → Rw) (s : Nat) : Nat → Rw
  | 0 => rwZ
  | k + 1 => stepR J R s k (rowK J R s k)
def rowsL (J : Jo) (T : Int) : Nat → List Rw
  | 0 => []
  | m + 1 => rowsL J T m ++ [if m = 0 then ⟨true, 0, 0, T, 0⟩ else rowK J (fun q => (rowsL J T m).getD q rwZ) m J.n]
theorem rowsL_len (J : Jo) (T : Int) : ∀ m, (rowsL J T m).length = m
  | 0 => rfl
  | m + 1 => by
    show (rowsL J T m ++ [_]).length = m + 1
    rw [List.length_append, rowsL_len J T m]
    rfl
/-- the row of a set. -/
def rowV (J : Jo) (T : Int) (q : Nat) : Rw := (rowsL J T (q + 1)).getD q rwZ
theorem rowsL_at (J : Jo) (T : Int) {q : Nat} : ∀ {m}, q < m → (rowsL J T m).getD q rwZ = rowV J T q
  | 0, h => absurd h (Nat.not_lt_zero q)
  | m + 1, h => by
    by_cases e : q = m
    · subst e; rfl
    · have ih := rowsL_at J T (q := q) (m := m) (by omega)
      rw [← ih]
      show (rowsL J T m ++ [_]).getD q rwZ = _
      rw [List.getD_eq_getElem?_getD, List.getElem?_append_left (by rw [rowsL_len]; omega), ← List.getD_eq_getElem?_getD]
theorem rowK_congr (J : Jo) {R R' : Nat → Rw} {s : Nat} (h : ∀ q, q < s → R q = R' q) : ∀ k, rowK J R s k = rowK J R' s k
  | 0 => rfl
  | k + 1 => by
    show stepR J R s k (rowK J R s k) = stepR J R' s k (rowK J R' s k)
    rw [rowK_congr J h k]
    unfold stepR
    cases e : s.testBit k
    · rfl
    · have h1 : 2 ^ k ≤ s := Nat.ge_two_pow_of_testBit e
      have h2 : 0 < 2 ^ k := Nat.two_pow_pos k
      rw [h (s - 2 ^ k) (by omega)]
theorem rowV_zero (J : Jo) (T : Int) : rowV J T 0 = ⟨true, 0, 0, T, 0⟩ := rfl
theorem rowV_pos (J : Jo) (T : Int) {q : Nat} (h : 0 < q) : rowV J T q = rowK J (rowV J T) q J.n := by
  unfold rowV
  show (rowsL J T q ++ [_]).getD q rwZ = _
  rw [List.getD_eq_getElem?_getD, List.getElem?_append_right (by rw [rowsL_len]; exact Nat.le_refl _), rowsL_len, Nat.sub_self]
  show (if q = 0 then _ else _) = _
  rw [if_neg (by omega)]
  exact rowK_congr J (fun r hr => rowsL_at J T hr) _
section
variable {J : Jo} {R : Nat → Rw} {s : Nat}
theorem rowK_le {i : Nat} {a : Int} (hb : s.testBit i = true) (hc : (R (s - 2 ^ i)).can = true) (ha : J.so i (R (s - 2 ^ i)).to_ = some a) : ∀ k, i < k → (rowK J R s k).can = true ∧ (rowK J R s k).to_ ≤ a + J.lo i
  | 0, h => absurd h (Nat.not_lt_zero i)
  | k + 1, h => by
    show (stepR J R s k (rowK J R s k)).can = true ∧ (stepR J R s k (rowK J R s k)).to_ ≤ _
    by_cases e : i = k
    · subst e
      unfold stepR
      rw [hb, hc, ha]
      simp only [Bool.and_self, if_true]
      split
      · exact ⟨rfl, Int.le_refl _⟩
      · rename_i q
        rw [Bool.or_eq_true, not_or] at q
        have q1 : (rowK J R s i).can = true := by
          have := q.1
          cases h : (rowK J R s i).can
          · rw [h] at this; simp at this
          · rfl
        have q2 := of_decide_eq_false (Bool.eq_false_iff.2 q.2)
        exact ⟨q1, by omega⟩
    · obtain ⟨h1, h2⟩ := rowK_le hb hc ha k (by omega)
      unfold stepR
      split
      · split
        · exact ⟨h1, h2⟩
        · split
          · rename_i a' _ q
            refine ⟨rfl, ?_⟩
            rw [h1] at q
            simp only [Bool.not_true, Bool.false_or] at q
            have := of_decide_eq_true q
            show a' + J.lo k ≤ _
            omega
          · exact ⟨h1, h2⟩
      · exact ⟨h1, h2⟩
/-- where a row comes from. -/
structure From (J : Jo) (R : Nat → Rw) (s : Nat) (n : Nat) (r : Rw) : Prop where
  lt : r.last < n
  bit : s.testBit r.last = true
  can : (R (s - 2 ^ r.last)).can = true
  so : J.so r.last (R (s - 2 ^ r.last)).to_ = some r.fr
  to_ : r.to_ = r.fr + J.lo r.last
  wo : r.wo = (R (s - 2 ^ r.last)).wo + J.wo r.last
theorem rowK_from : ∀ k, (rowK J R s k).can = false ∧ rowK J R s k = rwZ ∨ (rowK J R s k).can = true ∧ From J R s k (rowK J R s k)
  | 0 => .inl ⟨rfl, rfl⟩
  | k + 1 => by
    have ih := rowK_from k
    have up : From J R s k (rowK J R s k) → From J R s (k + 1) (rowK J R s k) := fun h => ⟨Nat.lt_succ_of_lt h.lt, h.bit, h.can, h.so, h.to_, h.wo⟩
    have keep : (rowK J R s k).can = false ∧ rowK J R s k = rwZ ∨ (rowK J R s k).can = true ∧ From J R s (k + 1) (rowK J R s k) := ih.imp id (fun h => ⟨h.1, up h.2⟩)
    show (stepR J R s k (rowK J R s k)).can = false ∧ stepR J R s k (rowK J R s k) = rwZ ∨ (stepR J R s k (rowK J R s k)).can = true ∧ From J R s (k + 1) (stepR J R s k (rowK J R s k))
    unfold stepR
    split
    · rename_i q
      rw [Bool.and_eq_true] at q
      split
      · exact keep
      · split
        · rename_i a ha _
          exact .inr ⟨rfl, ⟨Nat.lt_succ_self k, q.1, q.2, ha, rfl, rfl⟩⟩
        · exact keep
    · exact keep
end
/-- bits: of sets of up to six. -/
theorem all_lt {n : Nat} {p : Nat → Bool} (h : (List.range n).all p = true) {k : Nat} (hk : k < n) : p k = true := List.all_eq_true.1 h k (List.mem_range.2 hk)
theorem bit_sub : ∀ s, s < 64 → ∀ i, i < 6 → s.testBit i = true → s - 2 ^ i < s ∧ (s - 2 ^ i).testBit i = false ∧ s - 2 ^ i + 2 ^ i = s ∧ ∀ j, j < 6 → j ≠ i → (s - 2 ^ i).testBit j = s.testBit j := by
  have h : (List.range 64).all (fun s => (List.range 6).all fun i => !s.testBit i || (decide (s - 2 ^ i < s) && (!(s - 2 ^ i).testBit i && (decide (s - 2 ^ i + 2 ^ i = s) && (List.range 6).all fun j => decide (j = i) || decide ((s - 2 ^ i).testBit j = s.testBit j))))) = true := by decide +kernel
  intro s hs i hi hb
  have h1 := all_lt (all_lt h hs) hi
  rw [hb] at h1
  simp only [Bool.not_true, Bool.false_or, Bool.and_eq_true, decide_eq_true_eq, Bool.not_eq_true'] at h1
  refine ⟨h1.1, h1.2.1, h1.2.2.1, fun j hj hn => ?_⟩
  have h2 := all_lt h1.2.2.2 hj
  rw [decide_eq_false hn, Bool.false_or] at h2
  exact of_decide_eq_true h2
theorem bit_add : ∀ s, s < 64 → ∀ i, i < 6 → s.testBit i = false → s + 2 ^ i < 64 ∧ (s + 2 ^ i).testBit i = true ∧ s + 2 ^ i - 2 ^ i = s ∧ ∀ j, j < 6 → j ≠ i → (s + 2 ^ i).testBit j = s.testBit j := by
  have h : (List.range 64).all (fun s => (List.range 6).all fun i => s.testBit i || (decide (s + 2 ^ i < 64) && ((s + 2 ^ i).testBit i && (decide (s + 2 ^ i - 2 ^ i = s) && (List.range 6).all fun j => decide (j = i) || decide ((s + 2 ^ i).testBit j = s.testBit j))))) = true := by decide +kernel
  intro s hs i hi hb
  have h1 := all_lt (all_lt h hs) hi
  rw [hb] at h1
  simp only [Bool.false_or, Bool.and_eq_true, decide_eq_true_eq] at h1
  refine ⟨h1.1, h1.2.1, h1.2.2.1, fun j hj hn => ?_⟩
  have h2 := all_lt h1.2.2.2 hj
  rw [decide_eq_false hn, Bool.false_or] at h2
  exact of_decide_eq_true h2
theorem bit_lt {n s i : Nat} (hn : n ≤ 6) (hi : i < n) (hs : s < 2 ^ n) (hb : s.testBit i = false) : s + 2 ^ i < 2 ^ n := by
  have h : (List.range 7).all (fun n => (List.range (2 ^ n)).all fun s => (List.range n).all fun i => s.testBit i || decide (s + 2 ^ i < 2 ^ n)) = true := by decide +kernel
  have h1 := all_lt (all_lt (all_lt h (show n < 7 by omega)) hs) hi
  rw [hb, Bool.false_or] at h1
  exact of_decide_eq_true h1
theorem pow_six {n : Nat} (h : n ≤ 6) : 2 ^ n ≤ 64 := Nat.le_trans (Nat.pow_le_pow_right (by decide) h) (by decide)
/-- a sum over a set. -/
def sumS (g : Nat → Int) (s : Nat) : Nat → Int
  | 0 => 0
  | k + 1 => if s.testBit k then sumS g s k + g k else sumS g s k
theorem sumS_same (g : Nat → Int) {s s' : Nat} : ∀ k, (∀ j, j < k → s.testBit j = s'.testBit j) → sumS g s k = sumS g s' k
  | 0, _ => rfl
  | k + 1, h => by
    show (if s.testBit k then sumS g s k + g k else sumS g s k) = if s'.testBit k then sumS g s' k + g k else sumS g s' k
    rw [sumS_same g k (fun j hj => h j (by omega)), h k (by omega)]
theorem sumS_one (g : Nat → Int) {s s' i : Nat} (h1 : s.testBit i = true) (h2 : s'.testBit i = false) : ∀ k, i < k → (∀ j, j < k → j ≠ i → s'.testBit j = s.testBit j) → sumS g s k = sumS g s' k + g i
  | 0, h, _ => absurd h (Nat.not_lt_zero i)
  | k + 1, h, hs => by
    show (if s.testBit k then sumS g s k + g k else sumS g s k) = (if s'.testBit k then sumS g s' k + g k else sumS g s' k) + g i
    by_cases e : i = k
    · subst e
      rw [if_pos h1, if_neg (by rw [h2]; decide), sumS_same g i (fun j hj => (hs j (by omega) (by omega)).symm)]
    · rw [sumS_one g h1 h2 k (by omega) (fun j hj hn => hs j (by omega) hn), hs k (by omega) (fun q => e q.symm)]
      split <;> omega
theorem sumS_zero (g : Nat → Int) : ∀ k, sumS g 0 k = 0
  | 0 => rfl
  | k + 1 => by
    show (if (0 : Nat).testBit k then _ else _) = _
    rw [Nat.zero_testBit, if_neg (by decide)]
    exact sumS_zero g k
theorem sumS_card {s : Nat} : ∀ k, 0 ≤ sumS (fun _ => 1) s k ∧ sumS (fun _ => 1) s k ≤ k
  | 0 => ⟨Int.le_refl _, Int.le_refl _⟩
  | k + 1 => by
    have := sumS_card (s := s) k
    show 0 ≤ (if s.testBit k then sumS (fun _ => 1) s k + 1 else sumS (fun _ => 1) s k) ∧ (if s.testBit k then sumS (fun _ => 1) s k + 1 else sumS (fun _ => 1) s k) ≤ _
    split <;> omega
section
variable {J : Jo} {T : Int}
theorem row_le {s i : Nat} {a : Int} (hi : i < J.n) (hb : s.testBit i = true) (hc : (rowV J T (s - 2 ^ i)).can = true) (ha : J.so i (rowV J T (s - 2 ^ i)).to_ = some a) : (rowV J T s).can = true ∧ (rowV J T s).to_ ≤ a + J.lo i := by
  have : 0 < s := by
    rcases Nat.eq_zero_or_pos s with q | q
    · rw [q, Nat.zero_testBit] at hb; cases hb
    · exact q
  rw [rowV_pos J T this]
  exact rowK_le hb hc ha J.n hi
theorem row_from {s : Nat} (hs : 0 < s) : (rowV J T s).can = false ∧ rowV J T s = rwZ ∨ (rowV J T s).can = true ∧ From J (rowV J T) s J.n (rowV J T s) := by
  rw [rowV_pos J T hs]
  exact rowK_from J.n
theorem row_worth (hJ : J.Ok) : ∀ s, s < 64 → (rowV J T s).can = true → (rowV J T s).wo = sumS J.wo s J.n := by
  intro s
  induction s using Nat.strongRecOn with
  | _ s ih =>
    intro hs hc
    rcases Nat.eq_zero_or_pos s with rfl | q
    · rw [sumS_zero]; rfl
    · rcases row_from (J := J) (T := T) q with ⟨h, _⟩ | ⟨_, h⟩
      · rw [h] at hc; cases hc
      · have hl := h.lt
        have hn := hJ.n
        obtain ⟨b1, b2, b3, b4⟩ := bit_sub s hs _ (show (rowV J T s).last < 6 by omega) h.bit
        rw [h.wo, ih _ b1 (by omega) h.can]
        exact (sumS_one J.wo h.bit b2 J.n h.lt (fun j hj hne => b4 j (by omega) hne)).symm
/-- what is to be had is no more than the best row's worth. -/
theorem most_up (hJ : J.Ok) {B : Int} (hB : ∀ s, s < 2 ^ J.n → (rowV J T s).can = true → (rowV J T s).wo ≤ B) : ∀ (f : Nat) (u : Nat → Bool) (t : Int) (s : Nat), s < 2 ^ J.n → (∀ i, i < J.n → u i = s.testBit i) → (rowV J T s).can = true → (rowV J T s).to_ ≤ t → (rowV J T s).wo + mostF J f u t ≤ B
  | 0, u, t, s, hs, _, hc, _ => by
    show _ + 0 ≤ B
    have := hB s hs hc
    omega
  | f + 1, u, t, s, hs, hu, hc, ht => by
    show (rowV J T s).wo + mostK J (mostF J f) u t J.n ≤ B
    have hn := hJ.n
    have h64 := pow_six hn
    have key : ∀ k, k ≤ J.n → (rowV J T s).wo + mostK J (mostF J f) u t k ≤ B := by
      intro k
      induction k with
      | zero =>
        intro _
        have := hB s hs hc
        show _ + 0 ≤ B
        omega
      | succ k ih =>
        intro hk
        have ih := ih (by omega)
        show _ + (if u k then mostK J (mostF J f) u t k else _) ≤ B
        split
        · exact ih
        · rename_i hk2
          rw [hu k (by omega)] at hk2
          have hkb : s.testBit k = false := Bool.eq_false_iff.2 hk2
          split
          · exact ih
          · rename_i a ha
            split
            · obtain ⟨b1, b2, b3, b4⟩ := bit_add s (by omega) k (by omega) hkb
              have bl := bit_lt hn (show k < J.n by omega) hs hkb
              obtain ⟨a', ha', hle⟩ := hJ.mo ht ha
              have hr := row_le (J := J) (T := T) (s := s + 2 ^ k) (i := k) (a := a') (by omega) b2 (by rw [b3]; exact hc) (by rw [b3]; exact ha')
              have hw : (rowV J T (s + 2 ^ k)).wo = (rowV J T s).wo + J.wo k := by
                rw [row_worth hJ _ b1 hr.1, row_worth hJ s (by omega) hc]
                exact sumS_one J.wo b2 hkb J.n (by omega) (fun j hj hne => (b4 j (by omega) hne).symm)
              have := most_up hJ hB f (usd u k) (a + J.lo k) (s + 2 ^ k) bl (fun i hi => by
                unfold usd
                by_cases e : i = k
                · subst e
                  rw [b2]
                  simp
                · rw [b4 i (by omega) e, hu i hi]
                  simp [e]) hr.1 (by have := hr.2; omega)
              omega
            · exact ih
    exact key J.n (Nat.le_refl _)
theorem mostK_ge {g : (Nat → Bool) → Int → Int} {u : Nat → Bool} {t a : Int} {i : Nat} (hu : u i = false) (ha : J.so i t = some a) : ∀ k, i < k → J.wo i + g (usd u i) (a + J.lo i) ≤ mostK J g u t k
  | 0, h => absurd h (Nat.not_lt_zero i)
  | k + 1, h => by
    show _ ≤ (if u k then mostK J g u t k else _)
    by_cases e : i = k
    · subst e
      rw [hu, ha]
      simp only [Bool.false_eq_true, if_false]
      split <;> omega
    · have ih := mostK_ge (g := g) hu ha k (by omega)
      split
      · exact ih
      · split
        · exact ih
        · split <;> omega
theorem mostK_nn {g : (Nat → Bool) → Int → Int} {u : Nat → Bool} {t : Int} : ∀ k, 0 ≤ mostK J g u t k
  | 0 => Int.le_refl _
  | k + 1 => by
    have ih := mostK_nn (g := g) (u := u) (t := t) k
    show 0 ≤ (if u k then mostK J g u t k else _)
    split
    · exact ih
    · split
      · exact ih
      · split <;> omega
theorem mostF_nn : ∀ (f : Nat) (u : Nat → Bool) (t : Int), 0 ≤ mostF J f u t
  | 0, _, _ => Int.le_refl _
  | _ + 1, _, _ => mostK_nn J.n
theorem mostK_t {g : (Nat → Bool) → Int → Int} {u : Nat → Bool} {t t' : Int} (h : ∀ i, i < J.n → J.so i t = J.so i t') : ∀ k, k ≤ J.n → mostK J g u t k = mostK J g u t' k
  | 0, _ => rfl
  | k + 1, hk => by
    unfold mostK
    rw [mostK_t h k (by omega), h k (by omega)]
theorem mostF_u : ∀ (f : Nat) {u u' : Nat → Bool} (t : Int), (∀ i, i < J.n → u i = u' i) → mostF J f u t = mostF J f u' t
  | 0, _, _, _, _ => rfl
  | f + 1, u, u', t, h => by
    show mostK J (mostF J f) u t J.n = mostK J (mostF J f) u' t J.n
    have key : ∀ k, k ≤ J.n → mostK J (mostF J f) u t k = mostK J (mostF J f) u' t k := by
      intro k
      induction k with
      | zero => intro _; rfl
      | succ k ih =>
        intro hk
        unfold mostK
        rw [ih (by omega), h k (by omega)]
        have e : ∀ a, mostF J f (usd u k) a = mostF J f (usd u' k) a := fun a => mostF_u f a (fun i hi => by unfold usd; rw [h i hi])
        simp only [e]
    exact key J.n (Nat.le_refl _)
/-- no row is worth more than is to be had. -/
theorem most_low (hJ : J.Ok) {T' : Int} (hT : ∀ i, i < J.n → J.so i T = J.so i T') : ∀ s, s < 2 ^ J.n → (rowV J T s).can = true → (rowV J T s).wo + mostF J (J.n - (sumS (fun _ => 1) s J.n).toNat) (fun i => s.testBit i) (rowV J T s).to_ ≤ mostF J J.n (fun _ => false) T' := by
  intro s
  induction s using Nat.strongRecOn with
  | _ s ih =>
    intro hs hc
    have hn := hJ.n
    have h64 := pow_six hn
    rcases Nat.eq_zero_or_pos s with rfl | q
    · rw [sumS_zero]
      show (0 : Int) + mostF J (J.n - 0) (fun i => (0 : Nat).testBit i) T ≤ _
      rw [Int.zero_add, Nat.sub_zero, mostF_u J.n T (u' := fun _ => false) (fun i _ => Nat.zero_testBit i)]
      cases e : J.n with
      | zero => exact Int.le_refl _
      | succ f =>
        show mostK J (mostF J f) _ T J.n ≤ mostK J (mostF J f) _ T' J.n
        rw [mostK_t hT J.n (Nat.le_refl _)]
        exact Int.le_refl _
    · rcases row_from (J := J) (T := T) q with ⟨h, _⟩ | ⟨_, h⟩
      · rw [h] at hc; cases hc
      · have hl := h.lt
        obtain ⟨b1, b2, b3, b4⟩ := bit_sub s (by omega) _ (show (rowV J T s).last < 6 by omega) h.bit
        have i1 := ih _ b1 (by omega) h.can
        have e1 := sumS_one (fun _ => 1) h.bit b2 J.n h.lt (fun j hj hne => b4 j (by omega) hne)
        have c1 := sumS_card (s := s) J.n
        have c2 := sumS_card (s := s - 2 ^ (rowV J T s).last) J.n
        have e2 : J.n - (sumS (fun _ => 1) (s - 2 ^ (rowV J T s).last) J.n).toNat = (J.n - (sumS (fun _ => 1) s J.n).toNat) + 1 := by omega
        rw [e2] at i1
        have i2 := mostK_ge (J := J) (g := mostF J (J.n - (sumS (fun _ => 1) s J.n).toNat)) (u := fun i => (s - 2 ^ (rowV J T s).last).testBit i) b2 h.so J.n h.lt
        have i3 : mostF J (J.n - (sumS (fun _ => 1) s J.n).toNat) (usd (fun i => (s - 2 ^ (rowV J T s).last).testBit i) (rowV J T s).last) ((rowV J T s).fr + J.lo (rowV J T s).last) = mostF J (J.n - (sumS (fun _ => 1) s J.n).toNat) (fun i => s.testBit i) (rowV J T s).to_ := by
          rw [← h.to_]
          refine mostF_u _ _ (fun i hi => ?_)
          unfold usd
          by_cases e : i = (rowV J T s).last
          · rw [e, h.bit]; simp
          · show ((s - 2 ^ (rowV J T s).last).testBit i || decide (i = (rowV J T s).last)) = s.testBit i
            rw [b4 i (by omega) e]; simp [e]
        rw [i3] at i2
        have hw := h.wo
        have i4 : mostF J ((J.n - (sumS (fun _ => 1) s J.n).toNat) + 1) (fun i => (s - 2 ^ (rowV J T s).last).testBit i) (rowV J T (s - 2 ^ (rowV J T s).last)).to_ = mostK J (mostF J (J.n - (sumS (fun _ => 1) s J.n).toNat)) (fun i => (s - 2 ^ (rowV J T s).last).testBit i) (rowV J T (s - 2 ^ (rowV J T s).last)).to_ J.n := rfl
        rw [i4] at i1
        omega
/-- the best row is worth the most that is to be had. -/
theorem most_is (hJ : J.Ok) {T' : Int} (hT : ∀ i, i < J.n → J.so i T = J.so i T') {b : Nat} (hb : b < 2 ^ J.n) (hc : (rowV J T b).can = true) (hB : ∀ s, s < 2 ^ J.n → (rowV J T s).wo ≤ (rowV J T b).wo) : (rowV J T b).wo = mostF J J.n (fun _ => false) T' := by
  have h1 := most_low hJ hT b hb hc
  have h2 := mostF_nn (J := J) (J.n - (sumS (fun _ => 1) b J.n).toNat) (fun i => b.testBit i) (rowV J T b).to_
  have h3 := most_up hJ (T := T) (B := (rowV J T b).wo) (fun s hs _ => hB s hs) J.n (fun _ => false) T 0 (Nat.two_pow_pos _) (fun i _ => (Nat.zero_testBit i).symm) rfl (Int.le_refl _)
  have h4 : mostF J J.n (fun _ => false) T = mostF J J.n (fun _ => false) T' := by
    cases e : J.n with
    | zero => rfl
    | succ f =>
      show mostK J (mostF J f) _ T J.n = mostK J (mostF J f) _ T' J.n
      exact mostK_t hT J.n (Nat.le_refl _)
  rw [h4] at h3
  have : (rowV J T 0).wo = 0 := rfl
  omega
/-- a row's jobs, the last one first. -/
def backL (J : Jo) (T : Int) : Nat → Nat → List (Nat × Int)
  | 0, _ => []
  | f + 1, s => if s = 0 then [] else ((rowV J T s).last, (rowV J T s).fr) :: backL J T f (s - 2 ^ (rowV J T s).last)
structure Chain (J : Jo) (s : Nat) (P : List (Nat × Int)) (t w : Int) : Prop where
  mem : ∀ x ∈ P, x.1 < J.n ∧ s.testBit x.1 = true ∧ (∃ t, J.so x.1 t = some x.2) ∧ x.2 + J.lo x.1 ≤ t
  pw : P.Pairwise fun x y => x.1 ≠ y.1 ∧ y.2 + J.lo y.1 ≤ x.2
  sum : (P.map fun x => J.wo x.1).sum = w
theorem back_chain (hJ : J.Ok) : ∀ s, s < 2 ^ J.n → (rowV J T s).can = true → ∀ f : Nat, sumS (fun _ => 1) s J.n ≤ f → Chain J s (backL J T f s) (rowV J T s).to_ (rowV J T s).wo := by
  intro s
  induction s using Nat.strongRecOn with
  | _ s ih =>
    intro hs hc f hf
    have hn := hJ.n
    have h64 := pow_six hn
    rcases Nat.eq_zero_or_pos s with rfl | q
    · have : backL J T f 0 = [] := by cases f <;> rfl
      rw [this]
      exact ⟨(fun _ h => nomatch h), List.Pairwise.nil, rfl⟩
    · rcases row_from (J := J) (T := T) q with ⟨h, _⟩ | ⟨_, h⟩
      · rw [h] at hc; cases hc
      · have hl := h.lt
        obtain ⟨b1, b2, b3, b4⟩ := bit_sub s (by omega) _ (show (rowV J T s).last < 6 by omega) h.bit
        have e1 := sumS_one (fun _ => 1) h.bit b2 J.n h.lt (fun j hj hne => b4 j (by omega) hne)
        have c2 := sumS_card (s := s - 2 ^ (rowV J T s).last) J.n
        cases f with
        | zero => omega
        | succ f =>
          have hi := ih _ b1 (by omega) h.can f (by omega)
          have hge := hJ.ge h.so
          have hlo := hJ.lo _ h.lt
          have hto := h.to_
          have hwo := h.wo
          have hso := h.so
          show Chain J s (if s = 0 then [] else ((rowV J T s).last, (rowV J T s).fr) :: backL J T f (s - 2 ^ (rowV J T s).last)) _ _
          rw [if_neg (by omega)]
          refine ⟨fun x hx => ?_, List.Pairwise.cons (fun y hy => ?_) hi.pw, ?_⟩
          · rcases List.mem_cons.1 hx with rfl | hx
            · exact ⟨h.lt, h.bit, ⟨_, hso⟩, by show (rowV J T s).fr + J.lo (rowV J T s).last ≤ _; omega⟩
            · obtain ⟨m1, m2, m3, m4⟩ := hi.mem x hx
              have hne : x.1 ≠ (rowV J T s).last := fun e => by rw [e, b2] at m2; cases m2
              exact ⟨m1, by rw [← b4 x.1 (by omega) hne]; exact m2, m3, by omega⟩
          · obtain ⟨m1, m2, m3, m4⟩ := hi.mem y hy
            have hne : y.1 ≠ (rowV J T s).last := fun e => by rw [e, b2] at m2; cases m2
            exact ⟨fun e => hne e.symm, by show y.2 + J.lo y.1 ≤ (rowV J T s).fr; omega⟩
          · rw [List.map_cons, List.sum_cons, hi.sum]
            show J.wo (rowV J T s).last + _ = _
            omega
end
end Go.Proofs.YtoacdaemhcbbhaaDoor
