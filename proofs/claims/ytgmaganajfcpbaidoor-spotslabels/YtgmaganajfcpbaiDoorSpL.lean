/-
  Parts of lit pixels: which pixels touch, by way of others or not; the numbers of parts, told apart from any way to find them. Nothing of the program.
-/
namespace Go.Proofs.YtgmaganajfcpbaiDoor

/-- at a side or a corner, or the same. -/
def Adj (W i k : Nat) : Prop := i / W ≤ k / W + 1 ∧ k / W ≤ i / W + 1 ∧ i % W ≤ k % W + 1 ∧ k % W ≤ i % W + 1
instance (W i k : Nat) : Decidable (Adj W i k) := by unfold Adj; exact inferInstance
theorem adj_symm {W i k : Nat} (h : Adj W i k) : Adj W k i := ⟨h.2.1, h.1, h.2.2.2, h.2.2.1⟩
theorem adj_refl (W i : Nat) : Adj W i i := ⟨Nat.le_succ _, Nat.le_succ _, Nat.le_succ _, Nat.le_succ _⟩
def litB (L : List Bool) (i : Nat) : Bool := L.getD i false
theorem lit_lt {L : List Bool} {i : Nat} (h : litB L i = true) : i < L.length := by
  refine Decidable.byContradiction (fun q => ?_)
  unfold litB at h
  rw [List.getD_eq_getElem?_getD, List.getElem?_eq_none (by omega)] at h
  cases h
/-- in one part. -/
inductive Conn (L : List Bool) (W : Nat) : Nat → Nat → Prop
  | one {i : Nat} (h : litB L i = true) : Conn L W i i
  | more {i j k : Nat} (h : Conn L W i j) (a : Adj W j k) (l : litB L k = true) : Conn L W i k
section
variable {L : List Bool} {W : Nat}
theorem Conn.lit1 {i j : Nat} (h : Conn L W i j) : litB L i = true := by
  induction h with
  | one h => exact h
  | more _ _ _ ih => exact ih
theorem Conn.lit2 {i j : Nat} (h : Conn L W i j) : litB L j = true := by
  cases h with
  | one h => exact h
  | more _ _ l => exact l
theorem Conn.trans {i j k : Nat} (h : Conn L W i j) (g : Conn L W j k) : Conn L W i k := by
  induction g with
  | one _ => exact h
  | more _ a l ih => exact .more ih a l
theorem Conn.step {i k : Nat} (hi : litB L i = true) (a : Adj W i k) (hk : litB L k = true) : Conn L W i k := .more (.one hi) a hk
theorem Conn.symm {i j : Nat} (h : Conn L W i j) : Conn L W j i := by
  induction h with
  | one h => exact .one h
  | more h a l ih => exact (Conn.step l (adj_symm a) h.lit2).trans ih
/-- the numbers of the parts. -/
structure IsLabels (L : List Bool) (W : Nat) (l : List Int) (parts : Nat) : Prop where
  len : l.length = L.length
  dark : ∀ i, litB L i = false → l.getD i 0 = 0
  low : ∀ i, litB L i = true → 1 ≤ l.getD i 0
  high : ∀ i, litB L i = true → l.getD i 0 ≤ parts
  part : ∀ i j, litB L i = true → litB L j = true → (l.getD i 0 = l.getD j 0 ↔ Conn L W i j)
  first : ∀ i (a : Int), litB L i = true → 1 ≤ a → a < l.getD i 0 → ∃ j, j < i ∧ litB L j = true ∧ l.getD j 0 = a
  all : parts = 0 ∨ ∃ i, litB L i = true ∧ l.getD i 0 = parts
theorem labels_at {l m : List Int} {p q : Nat} (h : IsLabels L W l p) (g : IsLabels L W m q) : ∀ i, l.getD i 0 = m.getD i 0 := by
  intro i
  induction i using Nat.strongRecOn with
  | _ i ih =>
    cases hl : litB L i with
    | false => rw [h.dark i hl, g.dark i hl]
    | true =>
      by_cases e : ∃ j, j < i ∧ litB L j = true ∧ Conn L W i j
      · obtain ⟨j, hj, lj, c⟩ := e
        rw [(h.part i j hl lj).2 c, (g.part i j hl lj).2 c]
        exact ih j hj
      · have no : ∀ j, j < i → litB L j = true → ¬ Conn L W i j := fun j hj lj c => e ⟨j, hj, lj, c⟩
        rcases Int.lt_trichotomy (l.getD i 0) (m.getD i 0) with c | c | c
        · obtain ⟨j, hj, lj, ej⟩ := g.first i (l.getD i 0) hl (h.low i hl) c
          rw [← ih j hj] at ej
          exact absurd ((h.part i j hl lj).1 ej.symm) (no j hj lj)
        · exact c
        · obtain ⟨j, hj, lj, ej⟩ := h.first i (m.getD i 0) hl (g.low i hl) c
          rw [ih j hj] at ej
          exact absurd ((g.part i j hl lj).1 ej.symm) (no j hj lj)
/-- there is one way to number them. -/
theorem labels_one {l m : List Int} {p q : Nat} (h : IsLabels L W l p) (g : IsLabels L W m q) : l = m ∧ p = q := by
  have he := labels_at h g
  have hpq : ∀ {l m : List Int} {p q : Nat}, IsLabels L W l p → IsLabels L W m q → p ≤ q := fun {l m p q} h g => by
    rcases h.all with e | ⟨i, li, e⟩
    · omega
    · have := g.high i li
      rw [← labels_at h g i, e] at this
      omega
  refine ⟨List.ext_getElem (by rw [h.len, g.len]) (fun i h1 h2 => ?_), Nat.le_antisymm (hpq h g) (hpq g h)⟩
  have := he i
  simpa [List.getD, List.getElem?_eq_getElem h1, List.getElem?_eq_getElem h2] using this
/-! each takes the least number around -/
/-- numbers of pixels that are on their way: one more than a pixel of the same part, not beyond itself. -/
structure OnWay (L : List Bool) (W : Nat) (v : List Int) : Prop where
  len : v.length = L.length
  dark : ∀ i, litB L i = false → v.getD i 0 = 0
  lit : ∀ i, litB L i = true → ∃ j : Nat, v.getD i 0 = (j : Int) + 1 ∧ j ≤ i ∧ Conn L W i j
theorem OnWay.pos {v : List Int} (h : OnWay L W v) {i : Nat} : 0 < v.getD i 0 ↔ litB L i = true := by
  constructor
  · intro q
    cases hl : litB L i with
    | true => rfl
    | false => rw [h.dark i hl] at q; omega
  · intro q
    obtain ⟨j, e, _⟩ := h.lit i q
    omega
theorem getD_setI {C : List Int} {i j : Nat} {x : Int} (h : i < C.length) : (C.set i x).getD j 0 = if i = j then x else C.getD j 0 := by
  by_cases e : i = j
  · subst e; simp [List.getD, h]
  · simp [List.getD, e]
theorem OnWay.take {v : List Int} (h : OnWay L W v) {i k : Nat} (hi : litB L i = true) (hk : litB L k = true) (a : Adj W i k) (hlt : v.getD k 0 < v.getD i 0) : OnWay L W (v.set i (v.getD k 0)) := by
  have hil : i < v.length := by rw [h.len]; exact lit_lt hi
  refine ⟨by rw [List.length_set]; exact h.len, fun j hj => ?_, fun j hj => ?_⟩
  · rw [getD_setI hil, if_neg (fun e => by subst e; rw [hi] at hj; cases hj)]
    exact h.dark j hj
  · rw [getD_setI hil]
    by_cases e : i = j
    · subst e
      rw [if_pos rfl]
      obtain ⟨r, e1, _, c1⟩ := h.lit k hk
      obtain ⟨s, e2, b2, _⟩ := h.lit i hi
      exact ⟨r, e1, by omega, (Conn.step hi a hk).trans c1⟩
    · rw [if_neg e]
      exact h.lit j hj
/-- none has a lesser number around. -/
def Still (L : List Bool) (W : Nat) (v : List Int) : Prop := ∀ i k, litB L i = true → litB L k = true → Adj W i k → v.getD i 0 ≤ v.getD k 0
theorem still_conn {v : List Int} (h : Still L W v) {i j : Nat} (c : Conn L W i j) : v.getD i 0 = v.getD j 0 := by
  induction c with
  | one _ => rfl
  | more c a l ih =>
    rw [ih]
    have h1 := h _ _ c.lit2 l a
    have h2 := h _ _ l c.lit2 (adj_symm a)
    omega
/-- then each part's number is its first pixel's. -/
theorem still_root {v : List Int} (h : OnWay L W v) (s : Still L W v) {i : Nat} (hi : litB L i = true) : ∃ r : Nat, v.getD i 0 = (r : Int) + 1 ∧ Conn L W i r ∧ v.getD r 0 = (r : Int) + 1 ∧ ∀ j, Conn L W i j → r ≤ j := by
  obtain ⟨r, e, _, c⟩ := h.lit i hi
  refine ⟨r, e, c, by rw [← still_conn s c]; exact e, fun j cj => ?_⟩
  obtain ⟨t, et, bt, _⟩ := h.lit j cj.lit2
  rw [still_conn s cj, et] at e
  omega
/-- how many first pixels there are up to a place. -/
def rankV (v : List Int) : Nat → Nat
  | 0 => 0
  | n + 1 => rankV v n + if v.getD n 0 = (n : Int) + 1 then 1 else 0
theorem rank_mono {v : List Int} {a b : Nat} (h : a ≤ b) : rankV v a ≤ rankV v b := by
  induction b with
  | zero => obtain rfl : a = 0 := by omega
            exact Nat.le_refl _
  | succ b ih =>
    by_cases e : a = b + 1
    · rw [e]; exact Nat.le_refl _
    · have := ih (by omega)
      show _ ≤ rankV v b + if v.getD b 0 = (b : Int) + 1 then 1 else 0
      omega
/-- the number of the part whose first pixel is r. -/
def numV2 (v : List Int) (i : Nat) : Int := if v.getD i 0 = 0 then 0 else (rankV v (v.getD i 0).toNat : Nat)
def labV (v : List Int) : List Int := (List.range v.length).map (numV2 v)
theorem lab_at {v : List Int} {i : Nat} (h : i < v.length) : (labV v).getD i 0 = numV2 v i := by
  unfold labV
  simp [List.getD, h]
theorem rank_inj {v : List Int} {r s : Nat} (hr : v.getD r 0 = (r : Int) + 1) (hs : v.getD s 0 = (s : Int) + 1) (h : rankV v (r + 1) = rankV v (s + 1)) : r = s := by
  rcases Nat.lt_trichotomy r s with c | c | c
  · have h1 := rank_mono (v := v) (show r + 1 ≤ s by omega)
    have h2 : rankV v (s + 1) = rankV v s + 1 := by conv => lhs; unfold rankV; rw [if_pos hs]
    omega
  · exact c
  · have h1 := rank_mono (v := v) (show s + 1 ≤ r by omega)
    have h2 : rankV v (r + 1) = rankV v r + 1 := by conv => lhs; unfold rankV; rw [if_pos hr]
    omega
theorem rank_has {v : List Int} : ∀ {n a : Nat}, 1 ≤ a → a ≤ rankV v n → ∃ r, r < n ∧ v.getD r 0 = (r : Int) + 1 ∧ rankV v (r + 1) = a
  | 0, a, h1, h2 => by unfold rankV at h2; omega
  | n + 1, a, h1, h2 => by
    by_cases e : v.getD n 0 = (n : Int) + 1
    · have hn : rankV v (n + 1) = rankV v n + 1 := by conv => lhs; unfold rankV; rw [if_pos e]
      by_cases ea : a = rankV v n + 1
      · exact ⟨n, by omega, e, by rw [hn, ea]⟩
      · obtain ⟨r, h3, h4⟩ := rank_has (v := v) (n := n) h1 (by omega)
        exact ⟨r, by omega, h4⟩
    · have hn : rankV v (n + 1) = rankV v n := by
        show rankV v n + (if v.getD n 0 = (n : Int) + 1 then 1 else 0) = _
        rw [if_neg e, Nat.add_zero]
      obtain ⟨r, h3, h4⟩ := rank_has (v := v) (n := n) h1 (by omega)
      exact ⟨r, by omega, h4⟩
/-- numbered anew, these are the parts' numbers. -/
theorem labels_of {v : List Int} (h : OnWay L W v) (s : Still L W v) : IsLabels L W (labV v) (rankV v L.length) := by
  have at_ : ∀ i, litB L i = true → ∃ r : Nat, v.getD i 0 = (r : Int) + 1 ∧ Conn L W i r ∧ v.getD r 0 = (r : Int) + 1 ∧ (∀ j, Conn L W i j → r ≤ j) ∧ (labV v).getD i 0 = (rankV v (r + 1) : Nat) := fun i hi => by
    obtain ⟨r, e, c, er, m⟩ := still_root h s hi
    refine ⟨r, e, c, er, m, ?_⟩
    rw [lab_at (by rw [h.len]; exact lit_lt hi)]
    unfold numV2
    rw [e, if_neg (by omega)]
    congr 2
  refine ⟨by unfold labV; rw [List.length_map, List.length_range, h.len], fun i hi => ?_, fun i hi => ?_, fun i hi => ?_, fun i j hi hj => ?_, fun i a hi h1 h2 => ?_, ?_⟩
  · by_cases hl : i < v.length
    · rw [lab_at hl]
      unfold numV2
      rw [h.dark i hi, if_pos rfl]
    · unfold labV
      simp [List.getD, List.getElem?_eq_none (show ((List.range v.length).map (numV2 v)).length ≤ i by simp; omega)]
  · obtain ⟨r, _, _, er, _, e⟩ := at_ i hi
    have : rankV v (r + 1) = rankV v r + 1 := by conv => lhs; unfold rankV; rw [if_pos er]
    rw [e]
    omega
  · obtain ⟨r, _, c, _, _, e⟩ := at_ i hi
    have := rank_mono (v := v) (show r + 1 ≤ L.length from lit_lt c.lit2)
    rw [e]
    omega
  · obtain ⟨r, e1, c1, er, m1, e⟩ := at_ i hi
    obtain ⟨t, e2, c2, et, m2, f⟩ := at_ j hj
    rw [e, f]
    constructor
    · intro q
      have : r = t := rank_inj er et (by omega)
      subst this
      exact c1.trans c2.symm
    · intro c
      have := still_conn s c
      rw [e1, e2] at this
      obtain rfl : r = t := by omega
      rfl
  · obtain ⟨r, e1, c1, er, m1, e⟩ := at_ i hi
    rw [e] at h2
    have hn : rankV v (r + 1) = rankV v r + 1 := by conv => lhs; unfold rankV; rw [if_pos er]
    obtain ⟨t, ht, et, ea⟩ := rank_has (v := v) (n := r) (a := a.toNat) (by omega) (by omega)
    have hri : r ≤ i := m1 i (.one hi)
    have lt : litB L t = true := (h.pos).1 (by rw [et]; omega)
    refine ⟨t, by omega, lt, ?_⟩
    obtain ⟨t', e3, c3, et', m3, f⟩ := at_ t lt
    rw [et] at e3
    obtain rfl : t = t' := by omega
    rw [f, ea]
    omega
  · by_cases e0 : rankV v L.length = 0
    · exact .inl e0
    · obtain ⟨r, hr, er, ea⟩ := rank_has (v := v) (n := L.length) (a := rankV v L.length) (by omega) (Nat.le_refl _)
      have lr : litB L r = true := (h.pos).1 (by rw [er]; omega)
      refine .inr ⟨r, lr, ?_⟩
      obtain ⟨t', e3, c3, et', m3, f⟩ := at_ r lr
      rw [er] at e3
      obtain rfl : r = t' := by omega
      rw [f, ea]
end
end Go.Proofs.YtgmaganajfcpbaiDoor
