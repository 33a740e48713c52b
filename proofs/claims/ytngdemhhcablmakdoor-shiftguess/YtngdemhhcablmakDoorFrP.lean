
/-
  Pictures: which are right, medians, what light there was. Nothing of the program.
-/
namespace Go.Proofs.YtngdemhhcablmakDoor

structure Pic where
  wide : Int
  high : Int
  L : List Int
def pic0 : Pic := ⟨0, 0, []⟩
def countB (x : Int) : Bool := decide (0 ≤ x) && decide (x ≤ 65535)
def picE (p : Pic) : Int := if 256 < p.wide ∨ 256 < p.high then 2 else if p.wide < 1 ∨ p.high < 1 ∨ (p.L.length : Int) ≠ p.wide * p.high then 5 else if p.L.all countB = false then 5 else 0
structure PicOk (p : Pic) : Prop where
  w1 : 1 ≤ p.wide
  w2 : p.wide ≤ 256
  h1 : 1 ≤ p.high
  h2 : p.high ≤ 256
  len : (p.L.length : Int) = p.wide * p.high
  each : ∀ k, k < p.L.length → 0 ≤ p.L.getD k 0 ∧ p.L.getD k 0 ≤ 65535
theorem all_at {l : List Int} {f : Int → Bool} (h : l.all f = true) {k : Nat} (hk : k < l.length) : f (l.getD k 0) = true := by
  rw [List.all_eq_true] at h
  have e : l.getD k 0 = l[k] := by simp [List.getD, List.getElem?_eq_getElem hk]
  rw [e]
  exact h _ (List.getElem_mem hk)
theorem all_of {l : List Int} {f : Int → Bool} (h : ∀ k, k < l.length → f (l.getD k 0) = true) : l.all f = true := by
  rw [List.all_eq_true]
  intro x hx
  obtain ⟨k, hk, rfl⟩ := List.getElem_of_mem hx
  have e : l.getD k 0 = l[k] := by simp [List.getD, List.getElem?_eq_getElem hk]
  rw [← e]
  exact h k hk
theorem pic_ok {p : Pic} (h : picE p = 0) : PicOk p := by
  unfold picE at h
  split at h
  · cases h
  · rename_i q1
    split at h
    · cases h
    · rename_i q2
      split at h
      · cases h
      · rename_i q3
        refine ⟨by omega, by omega, by omega, by omega, ?_, fun k hk => ?_⟩
        · exact Decidable.byContradiction fun q => q2 (.inr (.inr q))
        · have := all_at (show p.L.all countB = true by cases e : p.L.all countB <;> simp_all) hk
          unfold countB at this
          simp at this
          exact this
theorem pic_right {p : Pic} (h : PicOk p) : picE p = 0 := by
  unfold picE
  obtain ⟨w1, w2, h1, h2, hl, he⟩ := h
  rw [if_neg (by omega), if_neg (fun q => by rcases q with q | q | q <;> omega), if_neg]
  rw [all_of (fun k hk => by have := he k hk; unfold countB; simp; exact this)]
  simp
theorem PicOk.few {p : Pic} (h : PicOk p) : p.L.length ≤ 65536 := by
  have a : p.wide * p.high ≤ 256 * 256 := Int.mul_le_mul h.w2 h.h2 (by have := h.h1; omega) (by omega)
  have := h.len
  omega
/-! medians -/
def belowN (l : List Int) (x : Int) : Nat := l.countP fun y => decide (y < x)
def sameN (l : List Int) (x : Int) : Nat := l.countP fun y => decide (y = x)
structure IsMed (l : List Int) (x : Int) : Prop where
  lo : belowN l x ≤ (l.length - 1) / 2
  hi : (l.length - 1) / 2 < belowN l x + sameN l x
theorem below_same {l : List Int} {x y : Int} (h : x < y) : belowN l x + sameN l x ≤ belowN l y := by
  induction l with
  | nil => exact Nat.le_refl _
  | cons a l ih =>
    unfold belowN sameN at *
    simp only [List.countP_cons]
    by_cases h1 : a < x
    · have h2 : ¬ a = x := by omega
      have h3 : a < y := by omega
      simp [h1, h2, h3]
      omega
    · by_cases h2 : a = x
      · have h3 : a < y := by omega
        simp [h2]
        subst h2
        simp [h]
        omega
      · simp [h1, h2]
        omega
theorem med_one {l : List Int} {x y : Int} (hx : IsMed l x) (hy : IsMed l y) : x = y := by
  rcases Int.lt_trichotomy x y with h | h | h
  · have := below_same (l := l) h
    have a := hx.hi
    have b := hy.lo
    omega
  · exact h
  · have := below_same (l := l) h
    have a := hy.hi
    have b := hx.lo
    omega
theorem med_perm {l m : List Int} (h : l.Perm m) {x : Int} (hx : IsMed l x) : IsMed m x := by
  have e1 : belowN m x = belowN l x := (h.countP_eq _).symm
  have e2 : sameN m x = sameN l x := (h.countP_eq _).symm
  have e3 : m.length = l.length := h.length_eq.symm
  exact ⟨by rw [e1, e3]; exact hx.lo, by rw [e1, e2, e3]; exact hx.hi⟩
theorem rise_below : ∀ {l : List Int}, l.Pairwise (· ≤ ·) → ∀ {k : Nat}, k < l.length → belowN l (l.getD k 0) ≤ k ∧ k < belowN l (l.getD k 0) + sameN l (l.getD k 0)
  | [], _, k, hk => absurd hk (Nat.not_lt_zero k)
  | a :: l, h, k, hk => by
    rw [List.pairwise_cons] at h
    obtain ⟨ha, hl⟩ := h
    cases k with
    | zero =>
      have e : (a :: l).getD 0 0 = a := rfl
      rw [e]
      have z : belowN (a :: l) a = 0 := by
        unfold belowN
        rw [List.countP_eq_zero]
        intro y hy
        rcases List.mem_cons.1 hy with rfl | hy
        · simp
        · have := ha y hy
          simp
          omega
      have o : 0 < sameN (a :: l) a := by
        unfold sameN
        rw [List.countP_pos_iff]
        exact ⟨a, List.mem_cons_self, by simp⟩
      omega
    | succ k =>
      have hk' : k < l.length := by simpa using hk
      have e : (a :: l).getD (k + 1) 0 = l.getD k 0 := rfl
      rw [e]
      obtain ⟨i1, i2⟩ := rise_below hl hk'
      have hm : l.getD k 0 ∈ l := by
        have e : l.getD k 0 = l[k] := by simp [List.getD, List.getElem?_eq_getElem hk']
        rw [e]
        exact List.getElem_mem hk'
      have hle := ha _ hm
      generalize l.getD k 0 = x at *
      unfold belowN sameN at *
      simp only [List.countP_cons]
      by_cases h1 : a < x
      · have h2 : ¬ a = x := by omega
        simp [h1, h2]
        omega
      · have h2 : a = x := by omega
        simp [h2]
        have z : l.countP (fun y => decide (y < x)) = 0 := by
          rw [List.countP_eq_zero]
          intro y hy
          have := ha y hy
          simp
          omega
        omega
theorem med_rise {l : List Int} (h : l.Pairwise (· ≤ ·)) (h0 : 0 < l.length) : IsMed l (l.getD ((l.length - 1) / 2) 0) := by
  have := rise_below h (k := (l.length - 1) / 2) (by omega)
  exact ⟨this.1, this.2⟩
/-- the median: the lower middle one. -/
def medV (l : List Int) : Int := (l.mergeSort (fun a b => decide (a ≤ b))).getD ((l.length - 1) / 2) 0
theorem med_is {l : List Int} (h0 : 0 < l.length) : IsMed l (medV l) := by
  have hp := List.mergeSort_perm l (fun a b => decide (a ≤ b))
  have hs : (l.mergeSort (fun a b => decide (a ≤ b))).Pairwise (fun a b => decide (a ≤ b) = true) := List.pairwise_mergeSort (fun a b c h1 h2 => by simp at *; omega) (fun a b => by simp; omega) l
  have hs' : (l.mergeSort (fun a b => decide (a ≤ b))).Pairwise (· ≤ ·) := hs.imp (fun h => by simpa using h)
  have := med_rise hs' (by rw [hp.length_eq]; exact h0)
  rw [hp.length_eq] at this
  exact med_perm hp this
theorem med_eq {l : List Int} (h0 : 0 < l.length) {x : Int} (h : IsMed l x) : x = medV l := med_one h (med_is h0)
theorem med_in {l : List Int} (h0 : 0 < l.length) : ∃ k, k < l.length ∧ l.getD k 0 = medV l := by
  have h := (med_is h0)
  have hp := List.mergeSort_perm l (fun a b => decide (a ≤ b))
  have hk : (l.length - 1) / 2 < (l.mergeSort (fun a b => decide (a ≤ b))).length := by rw [hp.length_eq]; omega
  have hm : medV l ∈ l := by
    rw [← hp.mem_iff]
    unfold medV
    have e : (l.mergeSort (fun a b => decide (a ≤ b))).getD ((l.length - 1) / 2) 0 = (l.mergeSort (fun a b => decide (a ≤ b)))[(l.length - 1) / 2] := by simp [List.getD, List.getElem?_eq_getElem hk]
    rw [e]
    exact List.getElem_mem hk
  obtain ⟨k, hk, e⟩ := List.getElem_of_mem hm
  exact ⟨k, hk, by rw [← e]; simp [List.getD, List.getElem?_eq_getElem hk]⟩
/-! pictures one upon the other -/
def firstE : List Pic → Int
  | [] => 0
  | p :: l => if picE p ≠ 0 then picE p else firstE l
def stackE (l : List Pic) : Int := if 64 < l.length then 2 else if l.length = 0 then 5 else if firstE l ≠ 0 then firstE l else if (l.all fun p => decide (p.wide = (l.getD 0 pic0).wide) && decide (p.high = (l.getD 0 pic0).high)) = false then 5 else 0
def stackV (l : List Pic) : List Int := (List.range (l.getD 0 pic0).L.length).map fun k => medV (l.map fun p => p.L.getD k 0)
/-! what light there was -/
def sumV : List Int → Int
  | [] => 0
  | x :: l => x + sumV l
def someN (l : List Int) : Nat := l.countP fun x => decide (x ≠ 0)
def lightV (m k d f : Int) : Int := if 0 < f ∧ 0 < k - d then (if 65535 < (k - d) * m / f + (if f ≤ 2 * ((k - d) * m - (k - d) * m / f * f) then 1 else 0) then 65535 else (k - d) * m / f + (if f ≤ 2 * ((k - d) * m - (k - d) * m / f * f) then 1 else 0)) else 0
def cleanE (p d f : Pic) (full : Int) : Int := if picE p ≠ 0 then picE p else if picE d ≠ 0 then picE d else if picE f ≠ 0 then picE f else
  if ¬ (p.wide = d.wide ∧ p.high = d.high ∧ p.wide = f.wide ∧ p.high = f.high) ∨ full < 1 ∨ 65535 < full ∨ someN f.L = 0 then 5 else 0
def cleanV (p d f : Pic) : List Int := (List.range p.L.length).map fun i => lightV (sumV f.L / (someN f.L : Int)) (p.L.getD i 0) (d.L.getD i 0) (f.L.getD i 0)
def fullV (p : Pic) (full : Int) : List Int := (List.range p.L.length).filterMap fun i => if full ≤ p.L.getD i 0 then some (i : Int) else none
end Go.Proofs.YtngdemhhcablmakDoor
