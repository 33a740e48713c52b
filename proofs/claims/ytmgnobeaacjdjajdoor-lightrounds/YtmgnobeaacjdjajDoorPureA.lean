/-
   The ground of a picture's tiles, and what lies above it. Nothing of the program.  Stars out of parts: their boxes, light and middles; in order. Nothing of the program.  Counts above the ground. Nothing of the program. The pixels around a pixel, one by one; the least number around. Nothing of the program.
-/
/-
  Pictures: which are right, medians, what light there was. Nothing of the program.
-/
namespace Go.Proofs.YtmgnobeaacjdjajDoor

structure Pic where
  wide : Int
  high : Int
  L : List Int
def pic0 : Pic := ⟨0, 0, []⟩
def countB (x : Int) : Bool := decide (0 ≤ x) && decide (x ≤ 65535)
def picE (p : Pic) : Int := if 256 < p.wide ∨ 256 < p.high then 2 else if p.wide < 1 ∨ p.high < 1 ∨ (p.L.length : Int) ≠ p.wide * p.high then 5 else if p.L.all countB = false then 5 else 0
structure PicOk (p : Pic) : Prop where
  w1 : 1 ≤ p.wide
  w2 : p.wide ≤ 256
  h1 : 1 ≤ p.high
  h2 : p.high ≤ 256
  len : (p.L.length : Int) = p.wide * p.high
  each : ∀ k, k < p.L.length → 0 ≤ p.L.getD k 0 ∧ p.L.getD k 0 ≤ 65535
theorem all_at {l : List Int} {f : Int → Bool} (h : l.all f = true) {k : Nat} (hk : k < l.length) : f (l.getD k 0) = true := by
  rw [List.all_eq_true] at h
  have e : l.getD k 0 = l[k] := by simp [List.getD, List.getElem?_eq_getElem hk]
  rw [e]
  exact h _ (List.getElem_mem hk)
theorem all_of {l : List Int} {f : Int → Bool} (h : ∀ k, k < l.length → f (l.getD k 0) = true) : l.all f = true := by
  rw [List.all_eq_true]
  intro x hx
  obtain ⟨k, hk, rfl⟩ := List.getElem_of_mem hx
  have e : l.getD k 0 = l[k] := by simp [List.getD, List.getElem?_eq_getElem hk]
  rw [← e]
  exact h k hk
theorem pic_ok {p : Pic} (h : picE p = 0) : PicOk p := by
  unfold picE at h
  split at h
  · cases h
  · rename_i q1
    split at h
    · cases h
    · rename_i q2
      split at h
      · cases h
      · rename_i q3
        refine ⟨by omega, by omega, by omega, by omega, ?_, fun k hk => ?_⟩
        · exact Decidable.byContradiction fun q => q2 (.inr (.inr q))
        · have := all_at (show p.L.all countB = true by cases e : p.L.all countB <;> simp_all) hk
          unfold countB at this
          simp at this
          exact this
theorem pic_right {p : Pic} (h : PicOk p) : picE p = 0 := by
  unfold picE
  obtain ⟨w1, w2, h1, h2, hl, he⟩ := h
  rw [if_neg (by omega), if_neg (fun q => by rcases q with q | q | q <;> omega), if_neg]
  rw [all_of (fun k hk => by have := he k hk; unfold countB; simp; exact this)]
  simp
theorem PicOk.few {p : Pic} (h : PicOk p) : p.L.length ≤ 65536 := by
  have a : p.wide * p.high ≤ 256 * 256 := Int.mul_le_mul h.w2 h.h2 (by have := h.h1; omega) (by omega)
  have := h.len
  omega
/-! medians -/
def belowN (l : List Int) (x : Int) : Nat := l.countP fun y => decide (y < x)
def sameN (l : List Int) (x : Int) : Nat := l.countP fun y => decide (y = x)
structure IsMed (l : List Int) (x : Int) : Prop where
  lo : belowN l x ≤ (l.length - 1) / 2
  hi : (l.length - 1) / 2 < belowN l x + sameN l x
theorem below_same {l : List Int} {x y : Int} (h : x < y) : belowN l x + sameN l x ≤ belowN l y := by
  induction l with
  | nil => exact Nat.le_refl _
  | cons a l ih =>
    unfold belowN sameN at *
    simp only [List.countP_cons]
    by_cases h1 : a < x
    · have h2 : ¬ a = x := by omega
      have h3 : a < y := by omega
      simp [h1, h2, h3]
      omega
    · by_cases h2 : a = x
      · have h3 : a < y := by omega
        simp [h2]
        subst h2
        simp [h]
        omega
      · simp [h1, h2]
        omega
theorem med_one {l : List Int} {x y : Int} (hx : IsMed l x) (hy : IsMed l y) : x = y := by
  rcases Int.lt_trichotomy x y with h | h | h
  · have := below_same (l := l) h
    have a := hx.hi
    have b := hy.lo
    omega
  · exact h
  · have := below_same (l := l) h
    have a := hy.hi
    have b := hx.lo
    omega
theorem med_perm {l m : List Int} (h : l.Perm m) {x : Int} (hx : IsMed l x) : IsMed m x := by
  have e1 : belowN m x = belowN l x := (h.countP_eq _).symm
  have e2 : sameN m x = sameN l x := (h.countP_eq _).symm
  have e3 : m.length = l.length := h.length_eq.symm
  exact ⟨by rw [e1, e3]; exact hx.lo, by rw [e1, e2, e3]; exact hx.hi⟩
theorem rise_below : ∀ {l : List Int}, l.Pairwise (· ≤ ·) → ∀ {k : Nat}, k < l.length → belowN l (l.getD k 0) ≤ k ∧ k < belowN l (l.getD k 0) + sameN l (l.getD k 0)
  | [], _, k, hk => absurd hk (Nat.not_lt_zero k)
  | a :: l, h, k, hk => by
    rw [List.pairwise_cons] at h
    obtain ⟨ha, hl⟩ := h
    cases k with
    | zero =>
      have e : (a :: l).getD 0 0 = a := rfl
      rw [e]
      have z : belowN (a :: l) a = 0 := by
        unfold belowN
        rw [List.countP_eq_zero]
        intro y hy
        rcases List.mem_cons.1 hy with rfl | hy
        · simp
        · have := ha y hy
          simp
          omega
      have o : 0 < sameN (a :: l) a := by
        unfold sameN
        rw [List.countP_pos_iff]
        exact ⟨a, List.mem_cons_self, by simp⟩
      omega
    | succ k =>
      have hk' : k < l.length := by simpa using hk
      have e : (a :: l).getD (k + 1) 0 = l.getD k 0 := rfl
      rw [e]
      obtain ⟨i1, i2⟩ := rise_below hl hk'
      have hm : l.getD k 0 ∈ l := by
        have e : l.getD k 0 = l[k] := by simp [List.getD, List.getElem?_eq_getElem hk']
        rw [e]
        exact List.getElem_mem hk'
      have hle := ha _ hm
      generalize l.getD k 0 = x at *
      unfold belowN sameN at *
      simp only [List.countP_cons]
      by_cases h1 : a < x
      · have h2 : ¬ a = x := by omega
        simp [h1, h2]
        omega
      · have h2 : a = x := by omega
        simp [h2]
        have z : l.countP (fun y => decide (y < x)) = 0 := by
          rw [List.countP_eq_zero]
          intro y hy
          have := ha y hy
          simp
          omega
        omega
theorem med_rise {l : List Int} (h : l.Pairwise (· ≤ ·)) (h0 : 0 < l.length) : IsMed l (l.getD ((l.length - 1) / 2) 0) := by
  have := rise_below h (k := (l.length - 1) / 2) (by omega)
  exact ⟨this.1, this.2⟩
/-- the median: the lower middle one. -/
def medV (l : List Int) : Int := (l.mergeSort (fun a b => decide (a ≤ b))).getD ((l.length - 1) / 2) 0
theorem med_is {l : List Int} (h0 : 0 < l.length) : IsMed l (medV l) := by
  have hp := List.mergeSort_perm l (fun a b => decide (a ≤ b))
  have hs : (l.mergeSort (fun a b => decide (a ≤ b))).Pairwise (fun a b => decide (a ≤ b) = true) := List.pairwise_mergeSort (fun a b c h1 h2 => by simp at *; omega) (fun a b => by simp; omega) l
  have hs' : (l.mergeSort (fun a b => decide (a ≤ b))).Pairwise (· ≤ ·) := hs.imp (fun h => by simpa using h)
  have := med_rise hs' (by rw [hp.length_eq]; exact h0)
  rw [hp.length_eq] at this
  exact med_perm hp this
theorem med_eq {l : List Int} (h0 : 0 < l.length) {x : Int} (h : IsMed l x) : x = medV l := med_one h (med_is h0)
theorem med_in {l : List Int} (h0 : 0 < l.length) : ∃ k, k < l.length ∧ l.getD k 0 = medV l := by
  have h := (med_is h0)
  have hp := List.mergeSort_perm l (fun a b => decide (a ≤ b))
  have hk : (l.length - 1) / 2 < (l.mergeSort (fun a b => decide (a ≤ b))).length := by rw [hp.length_eq]; omega
  have hm : medV l ∈ l := by
    rw [← hp.mem_iff]
    unfold medV
    have e : (l.mergeSort (fun a b => decide (a ≤ b))).getD ((l.length - 1) / 2) 0 = (l.mergeSort (fun a b => decide (a ≤ b)))[(l.length - 1) / 2] := by simp [List.getD, List.getElem?_eq_getElem hk]
    rw [e]
    exact List.getElem_mem hk
  obtain ⟨k, hk, e⟩ := List.getElem_of_mem hm
  exact ⟨k, hk, by rw [← e]; simp [List.getD, List.getElem?_eq_getElem hk]⟩
/-! pictures one upon the other -/
def firstE : List Pic → Int
  | [] => 0
  | p :: l => if picE p ≠ 0 then picE p else firstE l
def stackE (l : List Pic) : Int := if 64 < l.length then 2 else if l.length = 0 then 5 else if firstE l ≠ 0 then firstE l else if (l.all fun p => decide (p.wide = (l.getD 0 pic0).wide) && decide (p.high = (l.getD 0 pic0).high)) = false then 5 else 0
def stackV (l : List Pic) : List Int := (List.range (l.getD 0 pic0).L.length).map fun k => medV (l.map fun p => p.L.getD k 0)
/-! what light there was -/
def sumV : List Int → Int
  | [] => 0
  | x :: l => x + sumV l
def someN (l : List Int) : Nat := l.countP fun x => decide (x ≠ 0)
def lightV (m k d f : Int) : Int := if 0 < f ∧ 0 < k - d then (if 65535 < (k - d) * m / f + (if f ≤ 2 * ((k - d) * m - (k - d) * m / f * f) then 1 else 0) then 65535 else (k - d) * m / f + (if f ≤ 2 * ((k - d) * m - (k - d) * m / f * f) then 1 else 0)) else 0
def cleanE (p d f : Pic) (full : Int) : Int := if picE p ≠ 0 then picE p else if picE d ≠ 0 then picE d else if picE f ≠ 0 then picE f else
  if ¬ (p.wide = d.wide ∧ p.high = d.high ∧ p.wide = f.wide ∧ p.high = f.high) ∨ full < 1 ∨ 65535 < full ∨ someN f.L = 0 then 5 else 0
def cleanV (p d f : Pic) : List Int := (List.range p.L.length).map fun i => lightV (sumV f.L / (someN f.L : Int)) (p.L.getD i 0) (d.L.getD i 0) (f.L.getD i 0)
def fullV (p : Pic) (full : Int) : List Int := (List.range p.L.length).filterMap fun i => if full ≤ p.L.getD i 0 then some (i : Int) else none
end Go.Proofs.YtmgnobeaacjdjajDoor
namespace Go.Proofs.YtmgnobeaacjdjajDoor

/-- a number of tiles that is enough. -/
def cdiv (n t : Nat) : Nat := (n + t - 1) / t
theorem cdiv_lt {n t a : Nat} (ht : 1 ≤ t) : a < cdiv n t ↔ a * t < n := by
  unfold cdiv
  rw [Nat.lt_div_iff_mul_lt (by omega)]
  omega
theorem cdiv_in {n t i : Nat} (ht : 1 ≤ t) (h : i < n) : i / t < cdiv n t := (cdiv_lt ht).2 (Nat.lt_of_le_of_lt (Nat.div_mul_le_self i t) h)
/-- so many counts of a row. -/
def segL (p : Pic) (v x n : Nat) : List Int := (List.range n).map fun d => p.L.getD (v * p.wide.toNat + (x + d)) 0
theorem seg_next (p : Pic) (v x n : Nat) : segL p v x (n + 1) = segL p v x n ++ [p.L.getD (v * p.wide.toNat + (x + n)) 0] := by
  unfold segL
  rw [List.range_succ, List.map_append]
  rfl
theorem seg_len (p : Pic) (v x n : Nat) : (segL p v x n).length = n := by unfold segL; rw [List.length_map, List.length_range]
/-- so many rows of so many counts. -/
def boxL (p : Pic) (y x n m : Nat) : List Int := ((List.range m).map fun d => segL p (y + d) x n).flatten
theorem box_next (p : Pic) (y x n m : Nat) : boxL p y x n (m + 1) = boxL p y x n m ++ segL p (y + m) x n := by
  unfold boxL
  rw [List.range_succ, List.map_append, List.flatten_append]
  simp
theorem box_len (p : Pic) (y x n : Nat) : ∀ m, (boxL p y x n m).length = m * n
  | 0 => by unfold boxL; simp
  | m + 1 => by rw [box_next, List.length_append, box_len p y x n m, seg_len, Nat.succ_mul]
def tileL (p : Pic) (t y x : Nat) : List Int := boxL p y x (min t (p.wide.toNat - x)) (min t (p.high.toNat - y))
theorem tile_pos {p : Pic} {t y x : Nat} (ht : 1 ≤ t) (hx : x < p.wide.toNat) (hy : y < p.high.toNat) : 0 < (tileL p t y x).length := by
  unfold tileL
  rw [box_len]
  exact Nat.mul_pos (by omega) (by omega)
/-- one row of tiles. -/
def gRow (p : Pic) (t a n : Nat) : List Int := (List.range n).map fun b => medV (tileL p t (a * t) (b * t))
theorem gRow_next (p : Pic) (t a n : Nat) : gRow p t a (n + 1) = gRow p t a n ++ [medV (tileL p t (a * t) (n * t))] := by
  unfold gRow
  rw [List.range_succ, List.map_append]
  rfl
theorem gRow_len (p : Pic) (t a n : Nat) : (gRow p t a n).length = n := by unfold gRow; rw [List.length_map, List.length_range]
def gRows (p : Pic) (t n m : Nat) : List Int := ((List.range m).map fun a => gRow p t a n).flatten
theorem gRows_next (p : Pic) (t n m : Nat) : gRows p t n (m + 1) = gRows p t n m ++ gRow p t m n := by
  unfold gRows
  rw [List.range_succ, List.map_append, List.flatten_append]
  simp
theorem gRows_len (p : Pic) (t n : Nat) : ∀ m, (gRows p t n m).length = m * n
  | 0 => by unfold gRows; simp
  | m + 1 => by rw [gRows_next, List.length_append, gRows_len p t n m, gRow_len, Nat.succ_mul]
def groundV (p : Pic) (t : Nat) : List Int := gRows p t (cdiv p.wide.toNat t) (cdiv p.high.toNat t)
theorem gRows_at (p : Pic) (t n : Nat) {a b : Nat} (hb : b < n) : ∀ {m : Nat}, a < m → (gRows p t n m).getD (a * n + b) 0 = medV (tileL p t (a * t) (b * t))
  | 0, h => absurd h (Nat.not_lt_zero _)
  | m + 1, h => by
    rw [gRows_next]
    by_cases e : a < m
    · have hl : a * n + b < (gRows p t n m).length := by
        rw [gRows_len]
        have := Nat.mul_le_mul_right n (show a + 1 ≤ m by omega)
        rw [Nat.succ_mul] at this
        omega
      rw [List.getD_eq_getElem?_getD, List.getElem?_append_left hl, ← List.getD_eq_getElem?_getD]
      exact gRows_at p t n hb e
    · obtain rfl : a = m := by omega
      rw [List.getD_eq_getElem?_getD, List.getElem?_append_right (by rw [gRows_len]; omega), gRows_len, Nat.add_sub_cancel_left]
      unfold gRow
      rw [List.getElem?_map, List.getElem?_range hb]
      rfl
theorem ground_at {p : Pic} {t a b : Nat} (ha : a < cdiv p.high.toNat t) (hb : b < cdiv p.wide.toNat t) : (groundV p t).getD (a * cdiv p.wide.toNat t + b) 0 = medV (tileL p t (a * t) (b * t)) := gRows_at p t _ hb ha
def groundE (p : Pic) (t : Int) : Int := if picE p ≠ 0 then picE p else if t < 1 ∨ 256 < t then 5 else 0
/-- a pixel's tile's ground. -/
def gAt (p : Pic) (t i : Nat) : Int := (groundV p t).getD (i / p.wide.toNat / t * cdiv p.wide.toNat t + i % p.wide.toNat / t) 0
def overV (p : Pic) (t : Nat) : List Int := (List.range (p.high.toNat * p.wide.toNat)).map fun i => p.L.getD i 0 - gAt p t i
theorem over_len (p : Pic) (t : Nat) : (overV p t).length = p.high.toNat * p.wide.toNat := by unfold overV; rw [List.length_map, List.length_range]
theorem over_at {p : Pic} {t i : Nat} (h : i < p.high.toNat * p.wide.toNat) : (overV p t).getD i 0 = p.L.getD i 0 - gAt p t i := by
  unfold overV
  simp [List.getD, h]
def litE (p : Pic) (t o : Int) : Int := if groundE p t ≠ 0 then groundE p t else if o < 0 then 5 else 0
def litV (p : Pic) (t : Nat) (o : Int) : List Bool := (overV p t).map fun n => decide (o < n)
/-- a count that is met, as the median of counts. -/
theorem tile_count {p : Pic} (h : PicOk p) {t y x : Nat} (hx : x < p.wide.toNat) (hy : y < p.high.toNat) : ∀ z ∈ tileL p t y x, 0 ≤ z ∧ z ≤ 65535 := by
  intro z hz
  unfold tileL boxL at hz
  obtain ⟨l, hl, hz⟩ := List.mem_flatten.1 hz
  obtain ⟨d, hd, rfl⟩ := List.mem_map.1 hl
  unfold segL at hz
  obtain ⟨e, he, rfl⟩ := List.mem_map.1 hz
  rw [List.mem_range] at hd he
  refine h.each _ ?_
  have hlen := h.len
  have hw : ((p.wide.toNat : Nat) : Int) = p.wide := Int.toNat_of_nonneg (by have := h.w1; omega)
  have hh : ((p.high.toNat : Nat) : Int) = p.high := Int.toNat_of_nonneg (by have := h.h1; omega)
  have hn : p.L.length = p.wide.toNat * p.high.toNat := by
    have : ((p.wide.toNat * p.high.toNat : Nat) : Int) = p.wide * p.high := by rw [Int.natCast_mul, hw, hh]
    omega
  rw [hn]
  have h1 := Nat.mul_le_mul_left p.wide.toNat (show y + d + 1 ≤ p.high.toNat by omega)
  have h2 : p.wide.toNat * (y + d + 1) = (y + d) * p.wide.toNat + p.wide.toNat := by rw [Nat.mul_succ, Nat.mul_comm]
  omega
end Go.Proofs.YtmgnobeaacjdjajDoor
/-
  Parts of lit pixels: which pixels touch, by way of others or not; the numbers of parts, told apart from any way to find them. Nothing of the program.
-/
namespace Go.Proofs.YtmgnobeaacjdjajDoor

/-- at a side or a corner, or the same. -/
def Adj (W i k : Nat) : Prop := i / W ≤ k / W + 1 ∧ k / W ≤ i / W + 1 ∧ i % W ≤ k % W + 1 ∧ k % W ≤ i % W + 1
instance (W i k : Nat) : Decidable (Adj W i k) := by unfold Adj; exact inferInstance
theorem adj_symm {W i k : Nat} (h : Adj W i k) : Adj W k i := ⟨h.2.1, h.1, h.2.2.2, h.2.2.1⟩
theorem adj_refl (W i : Nat) : Adj W i i := ⟨Nat.le_succ _, Nat.le_succ _, Nat.le_succ _, Nat.le_succ _⟩
def litB (L : List Bool) (i : Nat) : Bool := L.getD i false
theorem lit_lt {L : List Bool} {i : Nat} (h : litB L i = true) : i < L.length := by
  refine Decidable.byContradiction (fun q => ?_)
  unfold litB at h
  rw [List.getD_eq_getElem?_getD, List.getElem?_eq_none (by omega)] at h
  cases h
/-- in one part. -/
inductive Conn (L : List Bool) (W : Nat) : Nat → Nat → Prop
  | one {i : Nat} (h : litB L i = true) : Conn L W i i
  | more {i j k : Nat} (h : Conn L W i j) (a : Adj W j k) (l : litB L k = true) : Conn L W i k
section
variable {L : List Bool} {W : Nat}
theorem Conn.lit1 {i j : Nat} (h : Conn L W i j) : litB L i = true := by
  induction h with
  | one h => exact h
  | more _ _ _ ih => exact ih
theorem Conn.lit2 {i j : Nat} (h : Conn L W i j) : litB L j = true := by
  cases h with
  | one h => exact h
  | more _ _ l => exact l
theorem Conn.trans {i j k : Nat} (h : Conn L W i j) (g : Conn L W j k) : Conn L W i k := by
  induction g with
  | one _ => exact h
  | more _ a l ih => exact .more ih a l
theorem Conn.step {i k : Nat} (hi : litB L i = true) (a : Adj W i k) (hk : litB L k = true) : Conn L W i k := .more (.one hi) a hk
theorem Conn.symm {i j : Nat} (h : Conn L W i j) : Conn L W j i := by
  induction h with
  | one h => exact .one h
  | more h a l ih => exact (Conn.step l (adj_symm a) h.lit2).trans ih
/-- the numbers of the parts. -/
structure IsLabels (L : List Bool) (W : Nat) (l : List Int) (parts : Nat) : Prop where
  len : l.length = L.length
  dark : ∀ i, litB L i = false → l.getD i 0 = 0
  low : ∀ i, litB L i = true → 1 ≤ l.getD i 0
  high : ∀ i, litB L i = true → l.getD i 0 ≤ parts
  part : ∀ i j, litB L i = true → litB L j = true → (l.getD i 0 = l.getD j 0 ↔ Conn L W i j)
  first : ∀ i (a : Int), litB L i = true → 1 ≤ a → a < l.getD i 0 → ∃ j, j < i ∧ litB L j = true ∧ l.getD j 0 = a
  all : parts = 0 ∨ ∃ i, litB L i = true ∧ l.getD i 0 = parts
theorem labels_at {l m : List Int} {p q : Nat} (h : IsLabels L W l p) (g : IsLabels L W m q) : ∀ i, l.getD i 0 = m.getD i 0 := by
  intro i
  induction i using Nat.strongRecOn with
  | _ i ih =>
    cases hl : litB L i with
    | false => rw [h.dark i hl, g.dark i hl]
    | true =>
      by_cases e : ∃ j, j < i ∧ litB L j = true ∧ Conn L W i j
      · obtain ⟨j, hj, lj, c⟩ := e
        rw [(h.part i j hl lj).2 c, (g.part i j hl lj).2 c]
        exact ih j hj
      · have no : ∀ j, j < i → litB L j = true → ¬ Conn L W i j := fun j hj lj c => e ⟨j, hj, lj, c⟩
        rcases Int.lt_trichotomy (l.getD i 0) (m.getD i 0) with c | c | c
        · obtain ⟨j, hj, lj, ej⟩ := g.first i (l.getD i 0) hl (h.low i hl) c
          rw [← ih j hj] at ej
          exact absurd ((h.part i j hl lj).1 ej.symm) (no j hj lj)
        · exact c
        · obtain ⟨j, hj, lj, ej⟩ := h.first i (m.getD i 0) hl (g.low i hl) c
          rw [ih j hj] at ej
          exact absurd ((g.part i j hl lj).1 ej.symm) (no j hj lj)
/-- there is one way to number them. -/
theorem labels_one {l m : List Int} {p q : Nat} (h : IsLabels L W l p) (g : IsLabels L W m q) : l = m ∧ p = q := by
  have he := labels_at h g
  have hpq : ∀ {l m : List Int} {p q : Nat}, IsLabels L W l p → IsLabels L W m q → p ≤ q := fun {l m p q} h g => by
    rcases h.all with e | ⟨i, li, e⟩
    · omega
    · have := g.high i li
      rw [← labels_at h g i, e] at this
      omega
  refine ⟨List.ext_getElem (by rw [h.len, g.len]) (fun i h1 h2 => ?_), Nat.le_antisymm (hpq h g) (hpq g h)⟩
  have := he i
  simpa [List.getD, List.getElem?_eq_getElem h1, List.getElem?_eq_getElem h2] using this
/-! each takes the least number around -/
/-- numbers of pixels that are on their way: one more than a pixel of the same part, not beyond itself. -/
structure OnWay (L : List Bool) (W : Nat) (v : List Int) : Prop where
  len : v.length = L.length
  dark : ∀ i, litB L i = false → v.getD i 0 = 0
  lit : ∀ i, litB L i = true → ∃ j : Nat, v.getD i 0 = (j : Int) + 1 ∧ j ≤ i ∧ Conn L W i j
theorem OnWay.pos {v : List Int} (h : OnWay L W v) {i : Nat} : 0 < v.getD i 0 ↔ litB L i = true := by
  constructor
  · intro q
    cases hl : litB L i with
    | true => rfl
    | false => rw [h.dark i hl] at q; omega
  · intro q
    obtain ⟨j, e, _⟩ := h.lit i q
    omega
theorem getD_setI {C : List Int} {i j : Nat} {x : Int} (h : i < C.length) : (C.set i x).getD j 0 = if i = j then x else C.getD j 0 := by
  by_cases e : i = j
  · subst e; simp [List.getD, h]
  · simp [List.getD, e]
theorem OnWay.take {v : List Int} (h : OnWay L W v) {i k : Nat} (hi : litB L i = true) (hk : litB L k = true) (a : Adj W i k) (hlt : v.getD k 0 < v.getD i 0) : OnWay L W (v.set i (v.getD k 0)) := by
  have hil : i < v.length := by rw [h.len]; exact lit_lt hi
  refine ⟨by rw [List.length_set]; exact h.len, fun j hj => ?_, fun j hj => ?_⟩
  · rw [getD_setI hil, if_neg (fun e => by subst e; rw [hi] at hj; cases hj)]
    exact h.dark j hj
  · rw [getD_setI hil]
    by_cases e : i = j
    · subst e
      rw [if_pos rfl]
      obtain ⟨r, e1, _, c1⟩ := h.lit k hk
      obtain ⟨s, e2, b2, _⟩ := h.lit i hi
      exact ⟨r, e1, by omega, (Conn.step hi a hk).trans c1⟩
    · rw [if_neg e]
      exact h.lit j hj
/-- none has a lesser number around. -/
def Still (L : List Bool) (W : Nat) (v : List Int) : Prop := ∀ i k, litB L i = true → litB L k = true → Adj W i k → v.getD i 0 ≤ v.getD k 0
theorem still_conn {v : List Int} (h : Still L W v) {i j : Nat} (c : Conn L W i j) : v.getD i 0 = v.getD j 0 := by
  induction c with
  | one _ => rfl
  | more c a l ih =>
    rw [ih]
    have h1 := h _ _ c.lit2 l a
    have h2 := h _ _ l c.lit2 (adj_symm a)
    omega
/-- then each part's number is its first pixel's. -/
theorem still_root {v : List Int} (h : OnWay L W v) (s : Still L W v) {i : Nat} (hi : litB L i = true) : ∃ r : Nat, v.getD i 0 = (r : Int) + 1 ∧ Conn L W i r ∧ v.getD r 0 = (r : Int) + 1 ∧ ∀ j, Conn L W i j → r ≤ j := by
  obtain ⟨r, e, _, c⟩ := h.lit i hi
  refine ⟨r, e, c, by rw [← still_conn s c]; exact e, fun j cj => ?_⟩
  obtain ⟨t, et, bt, _⟩ := h.lit j cj.lit2
  rw [still_conn s cj, et] at e
  omega
/-- how many first pixels there are up to a place. -/
def rankV (v : List Int) : Nat → Nat
  | 0 => 0
  | n + 1 => rankV v n + if v.getD n 0 = (n : Int) + 1 then 1 else 0
theorem rank_mono {v : List Int} {a b : Nat} (h : a ≤ b) : rankV v a ≤ rankV v b := by
  induction b with
  | zero => obtain rfl : a = 0 := by omega
            exact Nat.le_refl _
  | succ b ih =>
    by_cases e : a = b + 1
    · rw [e]; exact Nat.le_refl _
    · have := ih (by omega)
      show _ ≤ rankV v b + if v.getD b 0 = (b : Int) + 1 then 1 else 0
      omega
/-- the number of the part whose first pixel is r. -/
def numV2 (v : List Int) (i : Nat) : Int := if v.getD i 0 = 0 then 0 else (rankV v (v.getD i 0).toNat : Nat)
def labV (v : List Int) : List Int := (List.range v.length).map (numV2 v)
theorem lab_at {v : List Int} {i : Nat} (h : i < v.length) : (labV v).getD i 0 = numV2 v i := by
  unfold labV
  simp [List.getD, h]
theorem rank_inj {v : List Int} {r s : Nat} (hr : v.getD r 0 = (r : Int) + 1) (hs : v.getD s 0 = (s : Int) + 1) (h : rankV v (r + 1) = rankV v (s + 1)) : r = s := by
  rcases Nat.lt_trichotomy r s with c | c | c
  · have h1 := rank_mono (v := v) (show r + 1 ≤ s by omega)
    have h2 : rankV v (s + 1) = rankV v s + 1 := by conv => lhs; unfold rankV; rw [if_pos hs]
    omega
  · exact c
  · have h1 := rank_mono (v := v) (show s + 1 ≤ r by omega)
    have h2 : rankV v (r + 1) = rankV v r + 1 := by conv => lhs; unfold rankV; rw [if_pos hr]
    omega
theorem rank_has {v : List Int} : ∀ {n a : Nat}, 1 ≤ a → a ≤ rankV v n → ∃ r, r < n ∧ v.getD r 0 = (r : Int) + 1 ∧ rankV v (r + 1) = a
  | 0, a, h1, h2 => by unfold rankV at h2; omega
  | n + 1, a, h1, h2 => by
    by_cases e : v.getD n 0 = (n : Int) + 1
    · have hn : rankV v (n + 1) = rankV v n + 1 := by conv => lhs; unfold rankV; rw [if_pos e]
      by_cases ea : a = rankV v n + 1
      · exact ⟨n, by omega, e, by rw [hn, ea]⟩
      · obtain ⟨r, h3, h4⟩ := rank_has (v := v) (n := n) h1 (by omega)
        exact ⟨r, by omega, h4⟩
    · have hn : rankV v (n + 1) = rankV v n := by
        show rankV v n + (if v.getD n 0 = (n : Int) + 1 then 1 else 0) = _
        rw [if_neg e, Nat.add_zero]
      obtain ⟨r, h3, h4⟩ := rank_has (v := v) (n := n) h1 (by omega)
      exact ⟨r, by omega, h4⟩
/-- numbered anew, these are the parts' numbers. -/
theorem labels_of {v : List Int} (h : OnWay L W v) (s : Still L W v) : IsLabels L W (labV v) (rankV v L.length) := by
  have at_ : ∀ i, litB L i = true → ∃ r : Nat, v.getD i 0 = (r : Int) + 1 ∧ Conn L W i r ∧ v.getD r 0 = (r : Int) + 1 ∧ (∀ j, Conn L W i j → r ≤ j) ∧ (labV v).getD i 0 = (rankV v (r + 1) : Nat) := fun i hi => by
    obtain ⟨r, e, c, er, m⟩ := still_root h s hi
    refine ⟨r, e, c, er, m, ?_⟩
    rw [lab_at (by rw [h.len]; exact lit_lt hi)]
    unfold numV2
    rw [e, if_neg (by omega)]
    congr 2
  refine ⟨by unfold labV; rw [List.length_map, List.length_range, h.len], fun i hi => ?_, fun i hi => ?_, fun i hi => ?_, fun i j hi hj => ?_, fun i a hi h1 h2 => ?_, ?_⟩
  · by_cases hl : i < v.length
    · rw [lab_at hl]
      unfold numV2
      rw [h.dark i hi, if_pos rfl]
    · unfold labV
      simp [List.getD, List.getElem?_eq_none (show ((List.range v.length).map (numV2 v)).length ≤ i by simp; omega)]
  · obtain ⟨r, _, _, er, _, e⟩ := at_ i hi
    have : rankV v (r + 1) = rankV v r + 1 := by conv => lhs; unfold rankV; rw [if_pos er]
    rw [e]
    omega
  · obtain ⟨r, _, c, _, _, e⟩ := at_ i hi
    have := rank_mono (v := v) (show r + 1 ≤ L.length from lit_lt c.lit2)
    rw [e]
    omega
  · obtain ⟨r, e1, c1, er, m1, e⟩ := at_ i hi
    obtain ⟨t, e2, c2, et, m2, f⟩ := at_ j hj
    rw [e, f]
    constructor
    · intro q
      have : r = t := rank_inj er et (by omega)
      subst this
      exact c1.trans c2.symm
    · intro c
      have := still_conn s c
      rw [e1, e2] at this
      obtain rfl : r = t := by omega
      rfl
  · obtain ⟨r, e1, c1, er, m1, e⟩ := at_ i hi
    rw [e] at h2
    have hn : rankV v (r + 1) = rankV v r + 1 := by conv => lhs; unfold rankV; rw [if_pos er]
    obtain ⟨t, ht, et, ea⟩ := rank_has (v := v) (n := r) (a := a.toNat) (by omega) (by omega)
    have hri : r ≤ i := m1 i (.one hi)
    have lt : litB L t = true := (h.pos).1 (by rw [et]; omega)
    refine ⟨t, by omega, lt, ?_⟩
    obtain ⟨t', e3, c3, et', m3, f⟩ := at_ t lt
    rw [et] at e3
    obtain rfl : t = t' := by omega
    rw [f, ea]
    omega
  · by_cases e0 : rankV v L.length = 0
    · exact .inl e0
    · obtain ⟨r, hr, er, ea⟩ := rank_has (v := v) (n := L.length) (a := rankV v L.length) (by omega) (Nat.le_refl _)
      have lr : litB L r = true := (h.pos).1 (by rw [er]; omega)
      refine .inr ⟨r, lr, ?_⟩
      obtain ⟨t', e3, c3, et', m3, f⟩ := at_ r lr
      rw [er] at e3
      obtain rfl : r = t' := by omega
      rw [f, ea]
end
end Go.Proofs.YtmgnobeaacjdjajDoor
namespace Go.Proofs.YtmgnobeaacjdjajDoor

/-- what is known of a part: its box, its pixels, its light, the sums of its middles; its number. -/
structure Sp where
  le : Int
  tp : Int
  ri : Int
  lo : Int
  px : Int
  li : Int
  sx : Int
  sy : Int
  k : Nat
def sp0 (W H k : Nat) : Sp := ⟨W, H, -1, -1, 0, 0, 0, 0, k⟩
/-- one pixel more. -/
def spStep (W : Nat) (ov : List Int) (s : Sp) (i : Nat) : Sp :=
  ⟨min s.le (i % W : Nat), min s.tp (i / W : Nat), max s.ri (i % W : Nat), max s.lo (i / W : Nat), s.px + 1, s.li + ov.getD i 0, s.sx + (1024 * ((i % W : Nat) : Int) + 512) * ov.getD i 0, s.sy + (1024 * ((i / W : Nat) : Int) + 512) * ov.getD i 0, s.k⟩
theorem step_swap (W : Nat) (ov : List Int) (s : Sp) (i j : Nat) : spStep W ov (spStep W ov s i) j = spStep W ov (spStep W ov s j) i := by
  unfold spStep
  simp only [Sp.mk.injEq, and_true]
  refine ⟨?_, ?_, ?_, ?_, ?_, ?_, ?_⟩ <;> first | trivial | omega
/-- the pixels of a part up to a place. -/
def inPart (lab : List Int) (k n : Nat) : List Nat := (List.range n).filter fun i => decide (lab.getD i 0 = (k : Int))
theorem in_next (lab : List Int) (k n : Nat) : inPart lab k (n + 1) = if lab.getD n 0 = (k : Int) then inPart lab k n ++ [n] else inPart lab k n := by
  unfold inPart
  rw [List.range_succ, List.filter_append]
  by_cases e : lab.getD n 0 = (k : Int)
  · rw [if_pos e, List.filter_cons_of_pos (by simpa using e)]
    rfl
  · rw [if_neg e, List.filter_cons_of_neg (by simpa using e)]
    simp
def spN (lab ov : List Int) (W H k n : Nat) : Sp := (inPart lab k n).foldl (spStep W ov) (sp0 W H k)
theorem spN_next (lab ov : List Int) (W H k n : Nat) : spN lab ov W H k (n + 1) = if lab.getD n 0 = (k : Int) then spStep W ov (spN lab ov W H k n) n else spN lab ov W H k n := by
  unfold spN
  rw [in_next]
  split
  · rw [List.foldl_append]
    rfl
  · rfl
/-- in whatever order its pixels come. -/
theorem sp_perm {W : Nat} {ov : List Int} {s : Sp} {l m : List Nat} (h : l.Perm m) : l.foldl (spStep W ov) s = m.foldl (spStep W ov) s := by
  induction h generalizing s with
  | nil => rfl
  | cons x _ ih => exact ih
  | swap x y l => simp only [List.foldl_cons]; rw [step_swap]
  | trans _ _ ih1 ih2 => exact ih1.trans ih2
def spK (lab ov : List Int) (W H k : Nat) : Sp := spN lab ov W H k lab.length
theorem step_k (W : Nat) (ov : List Int) (l : List Nat) (s : Sp) : (l.foldl (spStep W ov) s).k = s.k := by
  induction l generalizing s with
  | nil => rfl
  | cons x l ih => rw [List.foldl_cons, ih]; rfl
theorem spK_k (lab ov : List Int) (W H k : Nat) : (spK lab ov W H k).k = k := by unfold spK spN; rw [step_k]; rfl
/-- the first so many parts that are large enough. -/
def bigV (lab ov : List Int) (W H : Nat) (least : Int) : Nat → List Sp
  | 0 => []
  | n + 1 => bigV lab ov W H least n ++ if (spK lab ov W H (n + 1)).px < least then [] else [spK lab ov W H (n + 1)]
/-- the brighter one first, of equal ones the one with the lesser number. -/
def spLt (a b : Sp) : Prop := b.li < a.li ∨ (a.li = b.li ∧ a.k < b.k)
theorem lt_asymm {a b : Sp} (h : spLt a b) (g : spLt b a) : False := by
  unfold spLt at *
  omega
theorem lt_trans3 {a b c : Sp} (h : spLt a b) (g : spLt b c) : spLt a c := by
  unfold spLt at *
  omega
/-- behind all that are as bright. -/
def placeV (l : List Sp) (s : Sp) : List Sp := l.takeWhile (fun a => decide (s.li ≤ a.li)) ++ [s] ++ l.dropWhile (fun a => decide (s.li ≤ a.li))
theorem place_perm (l : List Sp) (s : Sp) : (placeV l s).Perm (l ++ [s]) := by
  unfold placeV
  have h : (l.takeWhile (fun a => decide (s.li ≤ a.li)) ++ l.dropWhile (fun a => decide (s.li ≤ a.li)) ++ [s]).Perm (l ++ [s]) := by rw [List.takeWhile_append_dropWhile]
  refine List.Perm.trans ?_ h
  rw [List.append_assoc, List.append_assoc]
  exact List.Perm.append_left _ List.perm_append_comm
theorem place_sorted {l : List Sp} {s : Sp} (h : l.Pairwise spLt) (hk : ∀ a ∈ l, a.k < s.k) : (placeV l s).Pairwise spLt := by
  induction l with
  | nil => unfold placeV; simp
  | cons a l ih =>
    have hl := List.pairwise_cons.1 h
    have ht := ih hl.2 (fun b hb => hk b (List.mem_cons_of_mem _ hb))
    by_cases c : s.li ≤ a.li
    · have e : placeV (a :: l) s = a :: placeV l s := by
        unfold placeV
        rw [List.takeWhile_cons_of_pos (by simpa using c), List.dropWhile_cons_of_pos (by simpa using c)]
        rfl
      rw [e]
      refine List.pairwise_cons.2 ⟨fun b hb => ?_, ht⟩
      have hb2 := (place_perm l s).mem_iff.1 hb
      rcases List.mem_append.1 hb2 with hb2 | hb2
      · exact hl.1 b hb2
      · rw [List.mem_singleton.1 hb2]
        have := hk a List.mem_cons_self
        unfold spLt
        omega
    · have e : placeV (a :: l) s = s :: a :: l := by
        unfold placeV
        rw [List.takeWhile_cons_of_neg (by simpa using c), List.dropWhile_cons_of_neg (by simpa using c)]
        rfl
      rw [e]
      refine List.pairwise_cons.2 ⟨fun b hb => ?_, h⟩
      have hsa : spLt s a := by unfold spLt; omega
      rcases List.mem_cons.1 hb with rfl | hb
      · exact hsa
      · exact lt_trans3 hsa (hl.1 b hb)
def placedV : List Sp → List Sp → List Sp
  | acc, [] => acc
  | acc, s :: r => placedV (placeV acc s) r
/-- in order, each behind those that are as bright. -/
def spotsV (lab ov : List Int) (W H : Nat) (least : Int) : Nat → List Sp
  | 0 => []
  | n + 1 => if (spK lab ov W H (n + 1)).px < least then spotsV lab ov W H least n else placeV (spotsV lab ov W H least n) (spK lab ov W H (n + 1))
theorem spots_perm (lab ov : List Int) (W H : Nat) (least : Int) : ∀ n, (spotsV lab ov W H least n).Perm (bigV lab ov W H least n)
  | 0 => .refl _
  | n + 1 => by
    unfold spotsV bigV
    split
    · rw [List.append_nil]
      exact spots_perm lab ov W H least n
    · exact (place_perm _ _).trans ((spots_perm lab ov W H least n).append_right _)
theorem big_k (lab ov : List Int) (W H : Nat) (least : Int) : ∀ n, ∀ a ∈ bigV lab ov W H least n, a.k ≤ n ∧ 1 ≤ a.k
  | 0, a, h => absurd h List.not_mem_nil
  | n + 1, a, h => by
    unfold bigV at h
    rcases List.mem_append.1 h with h | h
    · have := big_k lab ov W H least n a h
      omega
    · split at h
      · cases h
      · rw [List.mem_singleton.1 h, spK_k]
        omega
theorem spots_sorted (lab ov : List Int) (W H : Nat) (least : Int) : ∀ n, (spotsV lab ov W H least n).Pairwise spLt
  | 0 => List.Pairwise.nil
  | n + 1 => by
    unfold spotsV
    split
    · exact spots_sorted lab ov W H least n
    · refine place_sorted (spots_sorted lab ov W H least n) (fun a ha => ?_)
      have := big_k lab ov W H least n a ((spots_perm lab ov W H least n).mem_iff.1 ha)
      rw [spK_k]
      omega
/-- two lists of the same in order are one. -/
theorem sorted_one {l m : List Sp} (h : l.Perm m) (hl : l.Pairwise spLt) (hm : m.Pairwise spLt) : l = m :=
  List.Perm.eq_of_pairwise (fun _ _ _ _ h1 h2 => (lt_asymm h1 h2).elim) hl hm h
end Go.Proofs.YtmgnobeaacjdjajDoor
/-
  Counting in a row, one more. Nothing of the program.
-/
namespace Go.Proofs.YtmgnobeaacjdjajDoor
theorem countP_next (f : Int → Bool) {l : List Int} {j : Nat} (h : j < l.length) : (l.take (j + 1)).countP f = (l.take j).countP f + if f (l.getD j 0) = true then 1 else 0 := by
  have e : l.take (j + 1) = l.take j ++ [l.getD j 0] := by
    rw [List.take_add_one, List.getElem?_eq_getElem h]
    simp [List.getD, List.getElem?_eq_getElem h]
  rw [e, List.countP_append, List.countP_singleton]
end Go.Proofs.YtmgnobeaacjdjajDoor
namespace Go.Proofs.YtmgnobeaacjdjajDoor

def overK (p : Pic) (t k : Nat) : List Int := (List.range k).map fun i => p.L.getD i 0 - gAt p t i
theorem overK_next (p : Pic) (t k : Nat) : overK p t (k + 1) = overK p t k ++ [p.L.getD k 0 - gAt p t k] := by
  unfold overK
  rw [List.range_succ, List.map_append]
  rfl
theorem overK_len (p : Pic) (t k : Nat) : (overK p t k).length = k := by unfold overK; rw [List.length_map, List.length_range]
theorem row_div {W y x : Nat} (h : x < W) : (y * W + x) / W = y ∧ (y * W + x) % W = x := by
  constructor
  · rw [Nat.mul_comm, Nat.mul_add_div (by omega), Nat.div_eq_of_lt h, Nat.add_zero]
  · rw [Nat.mul_comm, Nat.mul_add_mod, Nat.mod_eq_of_lt h]
theorem med_count {p : Pic} (h : PicOk p) {t a c : Nat} (ha : a < cdiv p.high.toNat t) (hc : c < cdiv p.wide.toNat t) (ht : 1 ≤ t) : 0 ≤ (groundV p t).getD (a * cdiv p.wide.toNat t + c) 0 ∧ (groundV p t).getD (a * cdiv p.wide.toNat t + c) 0 ≤ 65535 := by
  rw [ground_at ha hc]
  have hx := (cdiv_lt ht).1 hc
  have hy := (cdiv_lt ht).1 ha
  obtain ⟨k, hk, e⟩ := med_in (tile_pos ht hx hy)
  rw [← e]
  refine tile_count (t := t) h hx hy _ ?_
  rw [List.getD_eq_getElem?_getD, List.getElem?_eq_getElem hk]
  exact List.getElem_mem hk
end Go.Proofs.YtmgnobeaacjdjajDoor
namespace Go.Proofs.YtmgnobeaacjdjajDoor

/-- the pixel that lies a - 1 rows below and c - 1 beside. -/
def NbAt (W n i a c k : Nat) : Prop := a < 3 ∧ c < 3 ∧ (k : Int) = (i : Int) + ((a : Int) - 1) * (W : Int) + ((c : Int) - 1) ∧ 0 ≤ ((i % W : Nat) : Int) + ((c : Int) - 1) ∧ ((i % W : Nat) : Int) + ((c : Int) - 1) < (W : Int) ∧ k < n
theorem nb_place {W n i a c k : Nat} (hW : 1 ≤ W) (h : NbAt W n i a c k) : (k / W : Nat) + 1 = i / W + a ∧ (k % W : Nat) + 1 = i % W + c := by
  obtain ⟨ha, hc, e, l1, l2, _⟩ := h
  have hi := Nat.div_add_mod i W
  have key : ∀ {q r : Nat}, r < W → k = q * W + r → k / W = q ∧ k % W = r := fun {q r} hr e => by
    subst e
    constructor
    · rw [Nat.mul_comm, Nat.mul_add_div (by omega), Nat.div_eq_of_lt hr, Nat.add_zero]
    · rw [Nat.mul_comm, Nat.mul_add_mod, Nat.mod_eq_of_lt hr]
  generalize i / W = Y at *
  generalize i % W = x at *
  have hYW : W * Y = Y * W := Nat.mul_comm _ _
  obtain ⟨r, hr⟩ : ∃ r : Nat, (r : Int) = (x : Int) + ((c : Int) - 1) := ⟨((x : Int) + ((c : Int) - 1)).toNat, Int.toNat_of_nonneg l1⟩
  rcases (show a = 0 ∨ a = 1 ∨ a = 2 by omega) with rfl | rfl | rfl
  · cases Y with
    | zero =>
      rw [Nat.mul_zero] at hi
      exfalso
      have : (k : Int) = (x : Int) + -1 * (W : Int) + ((c : Int) - 1) := by rw [e]; omega
      omega
    | succ Y =>
      have hm : (Y + 1) * W = Y * W + W := Nat.succ_mul Y W
      obtain ⟨d1, d2⟩ := key (q := Y) (r := r) (by omega) (by
        have e2 : ((0 : Nat) : Int) - 1 = -1 := rfl
        rw [e2] at e
        omega)
      omega
  · obtain ⟨d1, d2⟩ := key (q := Y) (r := r) (by omega) (by
      have e2 : ((1 : Nat) : Int) - 1 = 0 := rfl
      rw [e2, Int.zero_mul] at e
      omega)
    omega
  · have hm : (Y + 1) * W = Y * W + W := Nat.succ_mul Y W
    obtain ⟨d1, d2⟩ := key (q := Y + 1) (r := r) (by omega) (by
      have e2 : ((2 : Nat) : Int) - 1 = 1 := rfl
      rw [e2, Int.one_mul] at e
      omega)
    omega
theorem nb_adj {W n i a c k : Nat} (hW : 1 ≤ W) (h : NbAt W n i a c k) : Adj W i k := by
  obtain ⟨h1, h2⟩ := nb_place hW h
  have := h.1
  have := h.2.1
  unfold Adj
  omega
theorem adj_nb {W n i k : Nat} (hW : 1 ≤ W) (h : Adj W i k) (hk : k < n) : ∃ a c, NbAt W n i a c k := by
  unfold Adj at h
  have hi := Nat.div_add_mod i W
  have hk2 := Nat.div_add_mod k W
  have r1 := Nat.mod_lt i (show W > 0 by omega)
  have r2 := Nat.mod_lt k (show W > 0 by omega)
  refine ⟨k / W + 1 - i / W, k % W + 1 - i % W, by omega, by omega, ?_, by omega, by omega, hk⟩
  generalize hY : i / W = Y at *
  generalize hZ : k / W = Z at *
  generalize i % W = x at *
  generalize k % W = z at *
  have m1 : W * Y = Y * W := Nat.mul_comm _ _
  have m2 : W * Z = Z * W := Nat.mul_comm _ _
  rcases (show Z + 1 = Y ∨ Z = Y ∨ Z = Y + 1 by omega) with e | e | e
  · have m3 : (Z + 1) * W = Z * W + W := Nat.succ_mul Z W
    rw [e] at m3
    rw [show ((Z + 1 - Y : Nat) : Int) = 0 by omega, show (0 : Int) - 1 = -1 from rfl]
    omega
  · subst e
    rw [show ((Z + 1 - Z : Nat) : Int) = 1 by omega, Int.sub_self, Int.zero_mul]
    omega
  · have m3 : (Y + 1) * W = Y * W + W := Nat.succ_mul Y W
    rw [← e] at m3
    rw [show ((Z + 1 - Y : Nat) : Int) = 2 by omega, show (2 : Int) - 1 = 1 from rfl, Int.one_mul]
    omega
/-- the best so far, of the pixels around that were looked at. -/
structure Vis (v : List Int) (W i a c : Nat) (best : Int) : Prop where
  le : best ≤ v.getD i 0
  is : best = v.getD i 0 ∨ ∃ k, k < v.length ∧ Adj W i k ∧ 0 < v.getD k 0 ∧ best = v.getD k 0
  all : ∀ a' c' k, (a' < a ∨ (a' = a ∧ c' < c)) → NbAt W v.length i a' c' k → 0 < v.getD k 0 → best ≤ v.getD k 0
theorem vis0 (v : List Int) (W i : Nat) : Vis v W i 0 0 (v.getD i 0) := ⟨Int.le_refl _, .inl rfl, fun a' c' k h _ _ => by omega⟩
theorem Vis.skip {v : List Int} {W i a c : Nat} {best : Int} (h : Vis v W i a c best) (no : ∀ k, ¬ NbAt W v.length i a c k) : Vis v W i a (c + 1) best :=
  ⟨h.le, h.is, fun a' c' k q nb hp => by
    by_cases e : a' = a ∧ c' = c
    · obtain ⟨rfl, rfl⟩ := e
      exact absurd nb (no k)
    · exact h.all a' c' k (by omega) nb hp⟩
theorem nb_one {W n i a c k m : Nat} (h : NbAt W n i a c k) (g : NbAt W n i a c m) : k = m := by
  have h1 := h.2.2.1
  have h2 := g.2.2.1
  omega
theorem Vis.look {v : List Int} {W i a c k : Nat} {best : Int} (hW : 1 ≤ W) (h : Vis v W i a c best) (nb : NbAt W v.length i a c k) : Vis v W i a (c + 1) (if 0 < v.getD k 0 ∧ v.getD k 0 < best then v.getD k 0 else best) := by
  by_cases q : 0 < v.getD k 0 ∧ v.getD k 0 < best
  · rw [if_pos q]
    refine ⟨by have := h.le; omega, .inr ⟨k, nb.2.2.2.2.2, nb_adj hW nb, q.1, rfl⟩, fun a' c' m s g hp => ?_⟩
    by_cases e : a' = a ∧ c' = c
    · obtain ⟨rfl, rfl⟩ := e
      rw [nb_one g nb]
      exact Int.le_refl _
    · have := h.all a' c' m (by omega) g hp
      omega
  · rw [if_neg q]
    refine ⟨h.le, h.is, fun a' c' m s g hp => ?_⟩
    by_cases e : a' = a ∧ c' = c
    · obtain ⟨rfl, rfl⟩ := e
      rw [nb_one g nb] at hp ⊢
      omega
    · exact h.all a' c' m (by omega) g hp
theorem Vis.row {v : List Int} {W i a : Nat} {best : Int} (h : Vis v W i a 3 best) : Vis v W i (a + 1) 0 best :=
  ⟨h.le, h.is, fun a' c' k q nb hp => h.all a' c' k (by have := nb.2.1; omega) nb hp⟩
/-- the least around. -/
structure Least (v : List Int) (W i : Nat) (m : Int) : Prop where
  le : m ≤ v.getD i 0
  is : m = v.getD i 0 ∨ ∃ k, k < v.length ∧ Adj W i k ∧ 0 < v.getD k 0 ∧ m = v.getD k 0
  all : ∀ k, k < v.length → Adj W i k → 0 < v.getD k 0 → m ≤ v.getD k 0
theorem Vis.done {v : List Int} {W i : Nat} {best : Int} (hW : 1 ≤ W) (h : Vis v W i 3 0 best) : Least v W i best :=
  ⟨h.le, h.is, fun k hk a hp => by
    obtain ⟨a', c', nb⟩ := adj_nb hW a hk
    exact h.all a' c' k (by have := nb.1; omega) nb hp⟩
end Go.Proofs.YtmgnobeaacjdjajDoor
