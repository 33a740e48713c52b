/-
   The ground of a picture's tiles, and what lies above it. Nothing of the program.  Stars out of parts: their boxes, light and middles; in order. Nothing of the program. The pixels around a pixel, one by one; the least number around. Nothing of the program. Counts above the ground. Nothing of the program. Parts by spreading a number from a pixel to all that touch it: what is so while it goes on. Nothing of the program. Rows by their places: two stretches change places, one behind the other; parts in order are joined to one in order. Nothing of the program. A row in parts that are in order; parts are joined two and two. Nothing of the program. What the rows of numbers are while the parts are found and numbered. Nothing of the program.
-/
/-
  Pictures: which are right, medians, what light there was. Nothing of the program.
-/
namespace Go.Proofs.YtmgnobeaacjdjajGreatDoor

structure Pic where
  wide : Int
  high : Int
  L : List Int
def pic0 : Pic := ⟨0, 0, []⟩
def countB (x : Int) : Bool := decide (0 ≤ x) && decide (x ≤ 65535)
def picE (p : Pic) : Int := if 256 < p.wide ∨ 256 < p.high then 2 else if p.wide < 1 ∨ p.high < 1 ∨ (p.L.length : Int) ≠ p.wide * p.high then 5 else if p.L.all countB = false then 5 else 0
structure PicOk (p : Pic) : Prop where
  w1 : 1 ≤ p.wide
  w2 : p.wide ≤ 256
  h1 : 1 ≤ p.high
  h2 : p.high ≤ 256
  len : (p.L.length : Int) = p.wide * p.high
  each : ∀ k, k < p.L.length → 0 ≤ p.L.getD k 0 ∧ p.L.getD k 0 ≤ 65535
theorem all_at {l : List Int} {f : Int → Bool} (h : l.all f = true) {k : Nat} (hk : k < l.length) : f (l.getD k 0) = true := by
  rw [List.all_eq_true] at h
  have e : l.getD k 0 = l[k] := by simp [List.getD, List.getElem?_eq_getElem hk]
  rw [e]
  exact h _ (List.getElem_mem hk)
theorem all_of {l : List Int} {f : Int → Bool} (h : ∀ k, k < l.length → f (l.getD k 0) = true) : l.all f = true := by
  rw [List.all_eq_true]
  intro x hx
  obtain ⟨k, hk, rfl⟩ := List.getElem_of_mem hx
  have e : l.getD k 0 = l[k] := by simp [List.getD, List.getElem?_eq_getElem hk]
  rw [← e]
  exact h k hk
theorem pic_ok {p : Pic} (h : picE p = 0) : PicOk p := by
  unfold picE at h
  split at h
  · cases h
  · rename_i q1
    split at h
    · cases h
    · rename_i q2
      split at h
      · cases h
      · rename_i q3
        refine ⟨by omega, by omega, by omega, by omega, ?_, fun k hk => ?_⟩
        · exact Decidable.byContradiction fun q => q2 (.inr (.inr q))
        · have := all_at (show p.L.all countB = true by cases e : p.L.all countB <;> simp_all) hk
          unfold countB at this
          simp at this
          exact this
theorem pic_right {p : Pic} (h : PicOk p) : picE p = 0 := by
  unfold picE
  obtain ⟨w1, w2, h1, h2, hl, he⟩ := h
  rw [if_neg (by omega), if_neg (fun q => by rcases q with q | q | q <;> omega), if_neg]
  rw [all_of (fun k hk => by have := he k hk; unfold countB; simp; exact this)]
  simp
theorem PicOk.few {p : Pic} (h : PicOk p) : p.L.length ≤ 65536 := by
  have a : p.wide * p.high ≤ 256 * 256 := Int.mul_le_mul h.w2 h.h2 (by have := h.h1; omega) (by omega)
  have := h.len
  omega
/-! medians -/
def belowN (l : List Int) (x : Int) : Nat := l.countP fun y => decide (y < x)
def sameN (l : List Int) (x : Int) : Nat := l.countP fun y => decide (y = x)
structure IsMed (l : List Int) (x : Int) : Prop where
  lo : belowN l x ≤ (l.length - 1) / 2
  hi : (l.length - 1) / 2 < belowN l x + sameN l x
theorem below_same {l : List Int} {x y : Int} (h : x < y) : belowN l x + sameN l x ≤ belowN l y := by
  induction l with
  | nil => exact Nat.le_refl _
  | cons a l ih =>
    unfold belowN sameN at *
    simp only [List.countP_cons]
    by_cases h1 : a < x
    · have h2 : ¬ a = x := by omega
      have h3 : a < y := by omega
      simp [h1, h2, h3]
      omega
    · by_cases h2 : a = x
      · have h3 : a < y := by omega
        simp [h2]
        subst h2
        simp [h]
        omega
      · simp [h1, h2]
        omega
theorem med_one {l : List Int} {x y : Int} (hx : IsMed l x) (hy : IsMed l y) : x = y := by
  rcases Int.lt_trichotomy x y with h | h | h
  · have := below_same (l := l) h
    have a := hx.hi
    have b := hy.lo
    omega
  · exact h
  · have := below_same (l := l) h
    have a := hy.hi
    have b := hx.lo
    omega
theorem med_perm {l m : List Int} (h : l.Perm m) {x : Int} (hx : IsMed l x) : IsMed m x := by
  have e1 : belowN m x = belowN l x := (h.countP_eq _).symm
  have e2 : sameN m x = sameN l x := (h.countP_eq _).symm
  have e3 : m.length = l.length := h.length_eq.symm
  exact ⟨by rw [e1, e3]; exact hx.lo, by rw [e1, e2, e3]; exact hx.hi⟩
theorem rise_below : ∀ {l : List Int}, l.Pairwise (· ≤ ·) → ∀ {k : Nat}, k < l.length → belowN l (l.getD k 0) ≤ k ∧ k < belowN l (l.getD k 0) + sameN l (l.getD k 0)
  | [], _, k, hk => absurd hk (Nat.not_lt_zero k)
  | a :: l, h, k, hk => by
    rw [List.pairwise_cons] at h
    obtain ⟨ha, hl⟩ := h
    cases k with
    | zero =>
      have e : (a :: l).getD 0 0 = a := rfl
      rw [e]
      have z : belowN (a :: l) a = 0 := by
        unfold belowN
        rw [List.countP_eq_zero]
        intro y hy
        rcases List.mem_cons.1 hy with rfl | hy
        · simp
        · have := ha y hy
          simp
          omega
      have o : 0 < sameN (a :: l) a := by
        unfold sameN
        rw [List.countP_pos_iff]
        exact ⟨a, List.mem_cons_self, by simp⟩
      omega
    | succ k =>
      have hk' : k < l.length := by simpa using hk
      have e : (a :: l).getD (k + 1) 0 = l.getD k 0 := rfl
      rw [e]
      obtain ⟨i1, i2⟩ := rise_below hl hk'
      have hm : l.getD k 0 ∈ l := by
        have e : l.getD k 0 = l[k] := by simp [List.getD, List.getElem?_eq_getElem hk']
        rw [e]
        exact List.getElem_mem hk'
      have hle := ha _ hm
      generalize l.getD k 0 = x at *
      unfold belowN sameN at *
      simp only [List.countP_cons]
      by_cases h1 : a < x
      · have h2 : ¬ a = x := by omega
        simp [h1, h2]
        omega
      · have h2 : a = x := by omega
        simp [h2]
        have z : l.countP (fun y => decide (y < x)) = 0 := by
          rw [List.countP_eq_zero]
          intro y hy
          have := ha y hy
          simp
          omega
        omega
theorem med_rise {l : List Int} (h : l.Pairwise (· ≤ ·)) (h0 : 0 < l.length) : IsMed l (l.getD ((l.length - 1) / 2) 0) := by
  have := rise_below h (k := (l.length - 1) / 2) (by omega)
  exact ⟨this.1, this.2⟩
/-- the median: the lower middle one. -/
def medV (l : List Int) : Int := (l.mergeSort (fun a b => decide (a ≤ b))).getD ((l.length - 1) / 2) 0
theorem med_is {l : List Int} (h0 : 0 < l.length) : IsMed l (medV l) := by
  have hp := List.mergeSort_perm l (fun a b => decide (a ≤ b))
  have hs : (l.mergeSort (fun a b => decide (a ≤ b))).Pairwise (fun a b => decide (a ≤ b) = true) := List.pairwise_mergeSort (fun a b c h1 h2 => by simp at *; omega) (fun a b => by simp; omega) l
  have hs' : (l.mergeSort (fun a b => decide (a ≤ b))).Pairwise (· ≤ ·) := hs.imp (fun h => by simpa using h)
  have := med_rise hs' (by rw [hp.length_eq]; exact h0)
  rw [hp.length_eq] at this
  exact med_perm hp this
theorem med_eq {l : List Int} (h0 : 0 < l.length) {x : Int} (h : IsMed l x) : x = medV l := med_one h (med_is h0)
theorem med_in {l : List Int} (h0 : 0 < l.length) : ∃ k, k < l.length ∧ l.getD k 0 = medV l := by
  have h := (med_is h0)
  have hp := List.mergeSort_perm l (fun a b => decide (a ≤ b))
  have hk : (l.length - 1) / 2 < (l.mergeSort (fun a b => decide (a ≤ b))).length := by rw [hp.length_eq]; omega
  have hm : medV l ∈ l := by
    rw [← hp.mem_iff]
    unfold medV
    have e : (l.mergeSort (fun a b => decide (a ≤ b))).getD ((l.length - 1) / 2) 0 = (l.mergeSort (fun a b => decide (a ≤ b)))[(l.length - 1) / 2] := by simp [List.getD, List.getElem?_eq_getElem hk]
    rw [e]
    exact List.getElem_mem hk
  obtain ⟨k, hk, e⟩ := List.getElem_of_mem hm
  exact ⟨k, hk, by rw [← e]; simp [List.getD, List.getElem?_eq_getElem hk]⟩
/-! pictures one upon the other -/
def firstE : List Pic → Int
  | [] => 0
  | p :: l => if picE p ≠ 0 then picE p else firstE l
def stackE (l : List Pic) : Int := if 64 < l.length then 2 else if l.length = 0 then 5 else if firstE l ≠ 0 then firstE l else if (l.all fun p => decide (p.wide = (l.getD 0 pic0).wide) && decide (p.high = (l.getD 0 pic0).high)) = false then 5 else 0
def stackV (l : List Pic) : List Int := (List.range (l.getD 0 pic0).L.length).map fun k => medV (l.map fun p => p.L.getD k 0)
/-! what light there was -/
def sumV : List Int → Int
  | [] => 0
  | x :: l => x + sumV l
def someN (l : List Int) : Nat := l.countP fun x => decide (x ≠ 0)
def lightV (m k d f : Int) : Int := if 0 < f ∧ 0 < k - d then (if 65535 < (k - d) * m / f + (if f ≤ 2 * ((k - d) * m - (k - d) * m / f * f) then 1 else 0) then 65535 else (k - d) * m / f + (if f ≤ 2 * ((k - d) * m - (k - d) * m / f * f) then 1 else 0)) else 0
def cleanE (p d f : Pic) (full : Int) : Int := if picE p ≠ 0 then picE p else if picE d ≠ 0 then picE d else if picE f ≠ 0 then picE f else
  if ¬ (p.wide = d.wide ∧ p.high = d.high ∧ p.wide = f.wide ∧ p.high = f.high) ∨ full < 1 ∨ 65535 < full ∨ someN f.L = 0 then 5 else 0
def cleanV (p d f : Pic) : List Int := (List.range p.L.length).map fun i => lightV (sumV f.L / (someN f.L : Int)) (p.L.getD i 0) (d.L.getD i 0) (f.L.getD i 0)
def fullV (p : Pic) (full : Int) : List Int := (List.range p.L.length).filterMap fun i => if full ≤ p.L.getD i 0 then some (i : Int) else none
end Go.Proofs.YtmgnobeaacjdjajGreatDoor
namespace Go.Proofs.YtmgnobeaacjdjajGreatDoor

/-- a number of tiles that is enough. -/
def cdiv (n t : Nat) : Nat := (n + t - 1) / t
theorem cdiv_lt {n t a : Nat} (ht : 1 ≤ t) : a < cdiv n t ↔ a * t < n := by
  unfold cdiv
  rw [Nat.lt_div_iff_mul_lt (by omega)]
  omega
theorem cdiv_in {n t i : Nat} (ht : 1 ≤ t) (h : i < n) : i / t < cdiv n t := (cdiv_lt ht).2 (Nat.lt_of_le_of_lt (Nat.div_mul_le_self i t) h)
/-- so many counts of a row. -/
def segL (p : Pic) (v x n : Nat) : List Int := (List.range n).map fun d => p.L.getD (v * p.wide.toNat + (x + d)) 0
theorem seg_next (p : Pic) (v x n : Nat) : segL p v x (n + 1) = segL p v x n ++ [p.L.getD (v * p.wide.toNat + (x + n)) 0] := by
  unfold segL
  rw [List.range_succ, List.map_append]
  rfl
theorem seg_len (p : Pic) (v x n : Nat) : (segL p v x n).length = n := by unfold segL; rw [List.length_map, List.length_range]
/-- so many rows of so many counts. -/
def boxL (p : Pic) (y x n m : Nat) : List Int := ((List.range m).map fun d => segL p (y + d) x n).flatten
theorem box_next (p : Pic) (y x n m : Nat) : boxL p y x n (m + 1) = boxL p y x n m ++ segL p (y + m) x n := by
  unfold boxL
  rw [List.range_succ, List.map_append, List.flatten_append]
  simp
theorem box_len (p : Pic) (y x n : Nat) : ∀ m, (boxL p y x n m).length = m * n
  | 0 => by unfold boxL; simp
  | m + 1 => by rw [box_next, List.length_append, box_len p y x n m, seg_len, Nat.succ_mul]
def tileL (p : Pic) (t y x : Nat) : List Int := boxL p y x (min t (p.wide.toNat - x)) (min t (p.high.toNat - y))
theorem tile_pos {p : Pic} {t y x : Nat} (ht : 1 ≤ t) (hx : x < p.wide.toNat) (hy : y < p.high.toNat) : 0 < (tileL p t y x).length := by
  unfold tileL
  rw [box_len]
  exact Nat.mul_pos (by omega) (by omega)
/-- one row of tiles. -/
def gRow (p : Pic) (t a n : Nat) : List Int := (List.range n).map fun b => medV (tileL p t (a * t) (b * t))
theorem gRow_next (p : Pic) (t a n : Nat) : gRow p t a (n + 1) = gRow p t a n ++ [medV (tileL p t (a * t) (n * t))] := by
  unfold gRow
  rw [List.range_succ, List.map_append]
  rfl
theorem gRow_len (p : Pic) (t a n : Nat) : (gRow p t a n).length = n := by unfold gRow; rw [List.length_map, List.length_range]
def gRows (p : Pic) (t n m : Nat) : List Int := ((List.range m).map fun a => gRow p t a n).flatten
theorem gRows_next (p : Pic) (t n m : Nat) : gRows p t n (m + 1) = gRows p t n m ++ gRow p t m n := by
  unfold gRows
  rw [List.range_succ, List.map_append, List.flatten_append]
  simp
theorem gRows_len (p : Pic) (t n : Nat) : ∀ m, (gRows p t n m).length = m * n
  | 0 => by unfold gRows; simp
  | m + 1 => by rw [gRows_next, List.length_append, gRows_len p t n m, gRow_len, Nat.succ_mul]
def groundV (p : Pic) (t : Nat) : List Int := gRows p t (cdiv p.wide.toNat t) (cdiv p.high.toNat t)
theorem gRows_at (p : Pic) (t n : Nat) {a b : Nat} (hb : b < n) : ∀ {m : Nat}, a < m → (gRows p t n m).getD (a * n + b) 0 = medV (tileL p t (a * t) (b * t))
  | 0, h => absurd h (Nat.not_lt_zero _)
  | m + 1, h => by
    rw [gRows_next]
    by_cases e : a < m
    · have hl : a * n + b < (gRows p t n m).length := by
        rw [gRows_len]
        have := Nat.mul_le_mul_right n (show a + 1 ≤ m by omega)
        rw [Nat.succ_mul] at this
        omega
      rw [List.getD_eq_getElem?_getD, List.getElem?_append_left hl, ← List.getD_eq_getElem?_getD]
      exact gRows_at p t n hb e
    · obtain rfl : a = m := by omega
      rw [List.getD_eq_getElem?_getD, List.getElem?_append_right (by rw [gRows_len]; omega), gRows_len, Nat.add_sub_cancel_left]
      unfold gRow
      rw [List.getElem?_map, List.getElem?_range hb]
      rfl
theorem ground_at {p : Pic} {t a b : Nat} (ha : a < cdiv p.high.toNat t) (hb : b < cdiv p.wide.toNat t) : (groundV p t).getD (a * cdiv p.wide.toNat t + b) 0 = medV (tileL p t (a * t) (b * t)) := gRows_at p t _ hb ha
def groundE (p : Pic) (t : Int) : Int := if picE p ≠ 0 then picE p else if t < 1 ∨ 256 < t then 5 else 0
/-- a pixel's tile's ground. -/
def gAt (p : Pic) (t i : Nat) : Int := (groundV p t).getD (i / p.wide.toNat / t * cdiv p.wide.toNat t + i % p.wide.toNat / t) 0
def overV (p : Pic) (t : Nat) : List Int := (List.range (p.high.toNat * p.wide.toNat)).map fun i => p.L.getD i 0 - gAt p t i
theorem over_len (p : Pic) (t : Nat) : (overV p t).length = p.high.toNat * p.wide.toNat := by unfold overV; rw [List.length_map, List.length_range]
theorem over_at {p : Pic} {t i : Nat} (h : i < p.high.toNat * p.wide.toNat) : (overV p t).getD i 0 = p.L.getD i 0 - gAt p t i := by
  unfold overV
  simp [List.getD, h]
def litE (p : Pic) (t o : Int) : Int := if groundE p t ≠ 0 then groundE p t else if o < 0 then 5 else 0
def litV (p : Pic) (t : Nat) (o : Int) : List Bool := (overV p t).map fun n => decide (o < n)
/-- a count that is met, as the median of counts. -/
theorem tile_count {p : Pic} (h : PicOk p) {t y x : Nat} (hx : x < p.wide.toNat) (hy : y < p.high.toNat) : ∀ z ∈ tileL p t y x, 0 ≤ z ∧ z ≤ 65535 := by
  intro z hz
  unfold tileL boxL at hz
  obtain ⟨l, hl, hz⟩ := List.mem_flatten.1 hz
  obtain ⟨d, hd, rfl⟩ := List.mem_map.1 hl
  unfold segL at hz
  obtain ⟨e, he, rfl⟩ := List.mem_map.1 hz
  rw [List.mem_range] at hd he
  refine h.each _ ?_
  have hlen := h.len
  have hw : ((p.wide.toNat : Nat) : Int) = p.wide := Int.toNat_of_nonneg (by have := h.w1; omega)
  have hh : ((p.high.toNat : Nat) : Int) = p.high := Int.toNat_of_nonneg (by have := h.h1; omega)
  have hn : p.L.length = p.wide.toNat * p.high.toNat := by
    have : ((p.wide.toNat * p.high.toNat : Nat) : Int) = p.wide * p.high := by rw [Int.natCast_mul, hw, hh]
    omega
  rw [hn]
  have h1 := Nat.mul_le_mul_left p.wide.toNat (show y + d + 1 ≤ p.high.toNat by omega)
  have h2 : p.wide.toNat * (y + d + 1) = (y + d) * p.wide.toNat + p.wide.toNat := by rw [Nat.mul_succ, Nat.mul_comm]
  omega
end Go.Proofs.YtmgnobeaacjdjajGreatDoor
/-
  Parts of lit pixels: which pixels touch, by way of others or not; the numbers of parts, told apart from any way to find them. Nothing of the program.
-/
namespace Go.Proofs.YtmgnobeaacjdjajGreatDoor

/-- at a side or a corner, or the same. -/
def Adj (W i k : Nat) : Prop := i / W ≤ k / W + 1 ∧ k / W ≤ i / W + 1 ∧ i % W ≤ k % W + 1 ∧ k % W ≤ i % W + 1
instance (W i k : Nat) : Decidable (Adj W i k) := by unfold Adj; exact inferInstance
theorem adj_symm {W i k : Nat} (h : Adj W i k) : Adj W k i := ⟨h.2.1, h.1, h.2.2.2, h.2.2.1⟩
theorem adj_refl (W i : Nat) : Adj W i i := ⟨Nat.le_succ _, Nat.le_succ _, Nat.le_succ _, Nat.le_succ _⟩
def litB (L : List Bool) (i : Nat) : Bool := L.getD i false
theorem lit_lt {L : List Bool} {i : Nat} (h : litB L i = true) : i < L.length := by
  refine Decidable.byContradiction (fun q => ?_)
  unfold litB at h
  rw [List.getD_eq_getElem?_getD, List.getElem?_eq_none (by omega)] at h
  cases h
/-- in one part. -/
inductive Conn (L : List Bool) (W : Nat) : Nat → Nat → Prop
  | one {i : Nat} (h : litB L i = true) : Conn L W i i
  | more {i j k : Nat} (h : Conn L W i j) (a : Adj W j k) (l : litB L k = true) : Conn L W i k
section
variable {L : List Bool} {W : Nat}
theorem Conn.lit1 {i j : Nat} (h : Conn L W i j) : litB L i = true := by
  induction h with
  | one h => exact h
  | more _ _ _ ih => exact ih
theorem Conn.lit2 {i j : Nat} (h : Conn L W i j) : litB L j = true := by
  cases h with
  | one h => exact h
  | more _ _ l => exact l
theorem Conn.trans {i j k : Nat} (h : Conn L W i j) (g : Conn L W j k) : Conn L W i k := by
  induction g with
  | one _ => exact h
  | more _ a l ih => exact .more ih a l
theorem Conn.step {i k : Nat} (hi : litB L i = true) (a : Adj W i k) (hk : litB L k = true) : Conn L W i k := .more (.one hi) a hk
theorem Conn.symm {i j : Nat} (h : Conn L W i j) : Conn L W j i := by
  induction h with
  | one h => exact .one h
  | more h a l ih => exact (Conn.step l (adj_symm a) h.lit2).trans ih
/-- the numbers of the parts. -/
structure IsLabels (L : List Bool) (W : Nat) (l : List Int) (parts : Nat) : Prop where
  len : l.length = L.length
  dark : ∀ i, litB L i = false → l.getD i 0 = 0
  low : ∀ i, litB L i = true → 1 ≤ l.getD i 0
  high : ∀ i, litB L i = true → l.getD i 0 ≤ parts
  part : ∀ i j, litB L i = true → litB L j = true → (l.getD i 0 = l.getD j 0 ↔ Conn L W i j)
  first : ∀ i (a : Int), litB L i = true → 1 ≤ a → a < l.getD i 0 → ∃ j, j < i ∧ litB L j = true ∧ l.getD j 0 = a
  all : parts = 0 ∨ ∃ i, litB L i = true ∧ l.getD i 0 = parts
theorem labels_at {l m : List Int} {p q : Nat} (h : IsLabels L W l p) (g : IsLabels L W m q) : ∀ i, l.getD i 0 = m.getD i 0 := by
  intro i
  induction i using Nat.strongRecOn with
  | _ i ih =>
    cases hl : litB L i with
    | false => rw [h.dark i hl, g.dark i hl]
    | true =>
      by_cases e : ∃ j, j < i ∧ litB L j = true ∧ Conn L W i j
      · obtain ⟨j, hj, lj, c⟩ := e
        rw [(h.part i j hl lj).2 c, (g.part i j hl lj).2 c]
        exact ih j hj
      · have no : ∀ j, j < i → litB L j = true → ¬ Conn L W i j := fun j hj lj c => e ⟨j, hj, lj, c⟩
        rcases Int.lt_trichotomy (l.getD i 0) (m.getD i 0) with c | c | c
        · obtain ⟨j, hj, lj, ej⟩ := g.first i (l.getD i 0) hl (h.low i hl) c
          rw [← ih j hj] at ej
          exact absurd ((h.part i j hl lj).1 ej.symm) (no j hj lj)
        · exact c
        · obtain ⟨j, hj, lj, ej⟩ := h.first i (m.getD i 0) hl (g.low i hl) c
          rw [ih j hj] at ej
          exact absurd ((g.part i j hl lj).1 ej.symm) (no j hj lj)
/-- there is one way to number them. -/
theorem labels_one {l m : List Int} {p q : Nat} (h : IsLabels L W l p) (g : IsLabels L W m q) : l = m ∧ p = q := by
  have he := labels_at h g
  have hpq : ∀ {l m : List Int} {p q : Nat}, IsLabels L W l p → IsLabels L W m q → p ≤ q := fun {l m p q} h g => by
    rcases h.all with e | ⟨i, li, e⟩
    · omega
    · have := g.high i li
      rw [← labels_at h g i, e] at this
      omega
  refine ⟨List.ext_getElem (by rw [h.len, g.len]) (fun i h1 h2 => ?_), Nat.le_antisymm (hpq h g) (hpq g h)⟩
  have := he i
  simpa [List.getD, List.getElem?_eq_getElem h1, List.getElem?_eq_getElem h2] using this
/-! each takes the least number around -/
/-- numbers of pixels that are on their way: one more than a pixel of the same part, not beyond itself. -/
structure OnWay (L : List Bool) (W : Nat) (v : List Int) : Prop where
  len : v.length = L.length
  dark : ∀ i, litB L i = false → v.getD i 0 = 0
  lit : ∀ i, litB L i = true → ∃ j : Nat, v.getD i 0 = (j : Int) + 1 ∧ j ≤ i ∧ Conn L W i j
theorem OnWay.pos {v : List Int} (h : OnWay L W v) {i : Nat} : 0 < v.getD i 0 ↔ litB L i = true := by
  constructor
  · intro q
    cases hl : litB L i with
    | true => rfl
    | false => rw [h.dark i hl] at q; omega
  · intro q
    obtain ⟨j, e, _⟩ := h.lit i q
    omega
theorem getD_setI {C : List Int} {i j : Nat} {x : Int} (h : i < C.length) : (C.set i x).getD j 0 = if i = j then x else C.getD j 0 := by
  by_cases e : i = j
  · subst e; simp [List.getD, h]
  · simp [List.getD, e]
theorem OnWay.take {v : List Int} (h : OnWay L W v) {i k : Nat} (hi : litB L i = true) (hk : litB L k = true) (a : Adj W i k) (hlt : v.getD k 0 < v.getD i 0) : OnWay L W (v.set i (v.getD k 0)) := by
  have hil : i < v.length := by rw [h.len]; exact lit_lt hi
  refine ⟨by rw [List.length_set]; exact h.len, fun j hj => ?_, fun j hj => ?_⟩
  · rw [getD_setI hil, if_neg (fun e => by subst e; rw [hi] at hj; cases hj)]
    exact h.dark j hj
  · rw [getD_setI hil]
    by_cases e : i = j
    · subst e
      rw [if_pos rfl]
      obtain ⟨r, e1, _, c1⟩ := h.lit k hk
      obtain ⟨s, e2, b2, _⟩ := h.lit i hi
      exact ⟨r, e1, by omega, (Conn.step hi a hk).trans c1⟩
    · rw [if_neg e]
      exact h.lit j hj
/-- none has a lesser number around. -/
def Still (L : List Bool) (W : Nat) (v : List Int) : Prop := ∀ i k, litB L i = true → litB L k = true → Adj W i k → v.getD i 0 ≤ v.getD k 0
theorem still_conn {v : List Int} (h : Still L W v) {i j : Nat} (c : Conn L W i j) : v.getD i 0 = v.getD j 0 := by
  induction c with
  | one _ => rfl
  | more c a l ih =>
    rw [ih]
    have h1 := h _ _ c.lit2 l a
    have h2 := h _ _ l c.lit2 (adj_symm a)
    omega
/-- then each part's number is its first pixel's. -/
theorem still_root {v : List Int} (h : OnWay L W v) (s : Still L W v) {i : Nat} (hi : litB L i = true) : ∃ r : Nat, v.getD i 0 = (r : Int) + 1 ∧ Conn L W i r ∧ v.getD r 0 = (r : Int) + 1 ∧ ∀ j, Conn L W i j → r ≤ j := by
  obtain ⟨r, e, _, c⟩ := h.lit i hi
  refine ⟨r, e, c, by rw [← still_conn s c]; exact e, fun j cj => ?_⟩
  obtain ⟨t, et, bt, _⟩ := h.lit j cj.lit2
  rw [still_conn s cj, et] at e
  omega
/-- how many first pixels there are up to a place. -/
def rankV (v : List Int) : Nat → Nat
  | 0 => 0
  | n + 1 => rankV v n + if v.getD n 0 = (n : Int) + 1 then 1 else 0
theorem rank_mono {v : List Int} {a b : Nat} (h : a ≤ b) : rankV v a ≤ rankV v b := by
  induction b with
  | zero => obtain rfl : a = 0 := by omega
            exact Nat.le_refl _
  | succ b ih =>
    by_cases e : a = b + 1
    · rw [e]; exact Nat.le_refl _
    · have := ih (by omega)
      show _ ≤ rankV v b + if v.getD b 0 = (b : Int) + 1 then 1 else 0
      omega
/-- the number of the part whose first pixel is r. -/
def numV2 (v : List Int) (i : Nat) : Int := if v.getD i 0 = 0 then 0 else (rankV v (v.getD i 0).toNat : Nat)
def labV (v : List Int) : List Int := (List.range v.length).map (numV2 v)
theorem lab_at {v : List Int} {i : Nat} (h : i < v.length) : (labV v).getD i 0 = numV2 v i := by
  unfold labV
  simp [List.getD, h]
theorem rank_inj {v : List Int} {r s : Nat} (hr : v.getD r 0 = (r : Int) + 1) (hs : v.getD s 0 = (s : Int) + 1) (h : rankV v (r + 1) = rankV v (s + 1)) : r = s := by
  rcases Nat.lt_trichotomy r s with c | c | c
  · have h1 := rank_mono (v := v) (show r + 1 ≤ s by omega)
    have h2 : rankV v (s + 1) = rankV v s + 1 := by conv => lhs; unfold rankV; rw [if_pos hs]
    omega
  · exact c
  · have h1 := rank_mono (v := v) (show s + 1 ≤ r by omega)
    have h2 : rankV v (r + 1) = rankV v r + 1 := by conv => lhs; unfold rankV; rw [if_pos hr]
    omega
theorem rank_has {v : List Int} : ∀ {n a : Nat}, 1 ≤ a → a ≤ rankV v n → ∃ r, r < n ∧ v.getD r 0 = (r : Int) + 1 ∧ rankV v (r + 1) = a
  | 0, a, h1, h2 => by unfold rankV at h2; omega
  | n + 1, a, h1, h2 => by
    by_cases e : v.getD n 0 = (n : Int) + 1
    · have hn : rankV v (n + 1) = rankV v n + 1 := by conv => lhs; unfold rankV; rw [if_pos e]
      by_cases ea : a = rankV v n + 1
      · exact ⟨n, by omega, e, by rw [hn, ea]⟩
      · obtain ⟨r, h3, h4⟩ := rank_has (v := v) (n := n) h1 (by omega)
        exact ⟨r, by omega, h4⟩
    · have hn : rankV v (n + 1) = rankV v n := by
        show rankV v n + (if v.getD n 0 = (n : Int) + 1 then 1 else 0) = _
        rw [if_neg e, Nat.add_zero]
      obtain ⟨r, h3, h4⟩ := rank_has (v := v) (n := n) h1 (by omega)
      exact ⟨r, by omega, h4⟩
/-- numbered anew, these are the parts' numbers. -/
theorem labels_of {v : List Int} (h : OnWay L W v) (s : Still L W v) : IsLabels L W (labV v) (rankV v L.length) := by
  have at_ : ∀ i, litB L i = true → ∃ r : Nat, v.getD i 0 = (r : Int) + 1 ∧ Conn L W i r ∧ v.getD r 0 = (r : Int) + 1 ∧ (∀ j, Conn L W i j → r ≤ j) ∧ (labV v).getD i 0 = (rankV v (r + 1) : Nat) := fun i hi => by
    obtain ⟨r, e, c, er, m⟩ := still_root h s hi
    refine ⟨r, e, c, er, m, ?_⟩
    rw [lab_at (by rw [h.len]; exact lit_lt hi)]
    unfold numV2
    rw [e, if_neg (by omega)]
    congr 2
  refine ⟨by unfold labV; rw [List.length_map, List.length_range, h.len], fun i hi => ?_, fun i hi => ?_, fun i hi => ?_, fun i j hi hj => ?_, fun i a hi h1 h2 => ?_, ?_⟩
  · by_cases hl : i < v.length
    · rw [lab_at hl]
      unfold numV2
      rw [h.dark i hi, if_pos rfl]
    · unfold labV
      simp [List.getD, List.getElem?_eq_none (show ((List.range v.length).map (numV2 v)).length ≤ i by simp; omega)]
  · obtain ⟨r, _, _, er, _, e⟩ := at_ i hi
    have : rankV v (r + 1) = rankV v r + 1 := by conv => lhs; unfold rankV; rw [if_pos er]
    rw [e]
    omega
  · obtain ⟨r, _, c, _, _, e⟩ := at_ i hi
    have := rank_mono (v := v) (show r + 1 ≤ L.length from lit_lt c.lit2)
    rw [e]
    omega
  · obtain ⟨r, e1, c1, er, m1, e⟩ := at_ i hi
    obtain ⟨t, e2, c2, et, m2, f⟩ := at_ j hj
    rw [e, f]
    constructor
    · intro q
      have : r = t := rank_inj er et (by omega)
      subst this
      exact c1.trans c2.symm
    · intro c
      have := still_conn s c
      rw [e1, e2] at this
      obtain rfl : r = t := by omega
      rfl
  · obtain ⟨r, e1, c1, er, m1, e⟩ := at_ i hi
    rw [e] at h2
    have hn : rankV v (r + 1) = rankV v r + 1 := by conv => lhs; unfold rankV; rw [if_pos er]
    obtain ⟨t, ht, et, ea⟩ := rank_has (v := v) (n := r) (a := a.toNat) (by omega) (by omega)
    have hri : r ≤ i := m1 i (.one hi)
    have lt : litB L t = true := (h.pos).1 (by rw [et]; omega)
    refine ⟨t, by omega, lt, ?_⟩
    obtain ⟨t', e3, c3, et', m3, f⟩ := at_ t lt
    rw [et] at e3
    obtain rfl : t = t' := by omega
    rw [f, ea]
    omega
  · by_cases e0 : rankV v L.length = 0
    · exact .inl e0
    · obtain ⟨r, hr, er, ea⟩ := rank_has (v := v) (n := L.length) (a := rankV v L.length) (by omega) (Nat.le_refl _)
      have lr : litB L r = true := (h.pos).1 (by rw [er]; omega)
      refine .inr ⟨r, lr, ?_⟩
      obtain ⟨t', e3, c3, et', m3, f⟩ := at_ r lr
      rw [er] at e3
      obtain rfl : r = t' := by omega
      rw [f, ea]
end
end Go.Proofs.YtmgnobeaacjdjajGreatDoor
namespace Go.Proofs.YtmgnobeaacjdjajGreatDoor

/-- what is known of a part: its box, its pixels, its light, the sums of its middles; its number. -/
structure Sp where
  le : Int
  tp : Int
  ri : Int
  lo : Int
  px : Int
  li : Int
  sx : Int
  sy : Int
  k : Nat
def sp0 (W H k : Nat) : Sp := ⟨W, H, -1, -1, 0, 0, 0, 0, k⟩
/-- one pixel more. -/
def spStep (W : Nat) (ov : List Int) (s : Sp) (i : Nat) : Sp :=
  ⟨min s.le (i % W : Nat), min s.tp (i / W : Nat), max s.ri (i % W : Nat), max s.lo (i / W : Nat), s.px + 1, s.li + ov.getD i 0, s.sx + (1024 * ((i % W : Nat) : Int) + 512) * ov.getD i 0, s.sy + (1024 * ((i / W : Nat) : Int) + 512) * ov.getD i 0, s.k⟩
theorem step_swap (W : Nat) (ov : List Int) (s : Sp) (i j : Nat) : spStep W ov (spStep W ov s i) j = spStep W ov (spStep W ov s j) i := by
  unfold spStep
  simp only [Sp.mk.injEq, and_true]
  refine ⟨?_, ?_, ?_, ?_, ?_, ?_, ?_⟩ <;> first | trivial | omega
/-- the pixels of a part up to a place. -/
def inPart (lab : List Int) (k n : Nat) : List Nat := (List.range n).filter fun i => decide (lab.getD i 0 = (k : Int))
theorem in_next (lab : List Int) (k n : Nat) : inPart lab k (n + 1) = if lab.getD n 0 = (k : Int) then inPart lab k n ++ [n] else inPart lab k n := by
  unfold inPart
  rw [List.range_succ, List.filter_append]
  by_cases e : lab.getD n 0 = (k : Int)
  · rw [if_pos e, List.filter_cons_of_pos (by simpa using e)]
    rfl
  · rw [if_neg e, List.filter_cons_of_neg (by simpa using e)]
    simp
def spN (lab ov : List Int) (W H k n : Nat) : Sp := (inPart lab k n).foldl (spStep W ov) (sp0 W H k)
theorem spN_next (lab ov : List Int) (W H k n : Nat) : spN lab ov W H k (n + 1) = if lab.getD n 0 = (k : Int) then spStep W ov (spN lab ov W H k n) n else spN lab ov W H k n := by
  unfold spN
  rw [in_next]
  split
  · rw [List.foldl_append]
    rfl
  · rfl
/-- in whatever order its pixels come. -/
theorem sp_perm {W : Nat} {ov : List Int} {s : Sp} {l m : List Nat} (h : l.Perm m) : l.foldl (spStep W ov) s = m.foldl (spStep W ov) s := by
  induction h generalizing s with
  | nil => rfl
  | cons x _ ih => exact ih
  | swap x y l => simp only [List.foldl_cons]; rw [step_swap]
  | trans _ _ ih1 ih2 => exact ih1.trans ih2
def spK (lab ov : List Int) (W H k : Nat) : Sp := spN lab ov W H k lab.length
theorem step_k (W : Nat) (ov : List Int) (l : List Nat) (s : Sp) : (l.foldl (spStep W ov) s).k = s.k := by
  induction l generalizing s with
  | nil => rfl
  | cons x l ih => rw [List.foldl_cons, ih]; rfl
theorem spK_k (lab ov : List Int) (W H k : Nat) : (spK lab ov W H k).k = k := by unfold spK spN; rw [step_k]; rfl
/-- the first so many parts that are large enough. -/
def bigV (lab ov : List Int) (W H : Nat) (least : Int) : Nat → List Sp
  | 0 => []
  | n + 1 => bigV lab ov W H least n ++ if (spK lab ov W H (n + 1)).px < least then [] else [spK lab ov W H (n + 1)]
/-- the brighter one first, of equal ones the one with the lesser number. -/
def spLt (a b : Sp) : Prop := b.li < a.li ∨ (a.li = b.li ∧ a.k < b.k)
theorem lt_asymm {a b : Sp} (h : spLt a b) (g : spLt b a) : False := by
  unfold spLt at *
  omega
theorem lt_trans3 {a b c : Sp} (h : spLt a b) (g : spLt b c) : spLt a c := by
  unfold spLt at *
  omega
/-- behind all that are as bright. -/
def placeV (l : List Sp) (s : Sp) : List Sp := l.takeWhile (fun a => decide (s.li ≤ a.li)) ++ [s] ++ l.dropWhile (fun a => decide (s.li ≤ a.li))
theorem place_perm (l : List Sp) (s : Sp) : (placeV l s).Perm (l ++ [s]) := by
  unfold placeV
  have h : (l.takeWhile (fun a => decide (s.li ≤ a.li)) ++ l.dropWhile (fun a => decide (s.li ≤ a.li)) ++ [s]).Perm (l ++ [s]) := by rw [List.takeWhile_append_dropWhile]
  refine List.Perm.trans ?_ h
  rw [List.append_assoc, List.append_assoc]
  exact List.Perm.append_left _ List.perm_append_comm
theorem place_sorted {l : List Sp} {s : Sp} (h : l.Pairwise spLt) (hk : ∀ a ∈ l, a.k < s.k) : (placeV l s).Pairwise spLt := by
  induction l with
  | nil => unfold placeV; simp
  | cons a l ih =>
    have hl := List.pairwise_cons.1 h
    have ht := ih hl.2 (fun b hb => hk b (List.mem_cons_of_mem _ hb))
    by_cases c : s.li ≤ a.li
    · have e : placeV (a :: l) s = a :: placeV l s := by
        unfold placeV
        rw [List.takeWhile_cons_of_pos (by simpa using c), List.dropWhile_cons_of_pos (by simpa using c)]
        rfl
      rw [e]
      refine List.pairwise_cons.2 ⟨fun b hb => ?_, ht⟩
      have hb2 := (place_perm l s).mem_iff.1 hb
      rcases List.mem_append.1 hb2 with hb2 | hb2
      · exact hl.1 b hb2
      · rw [List.mem_singleton.1 hb2]
        have := hk a List.mem_cons_self
        unfold spLt
        omega
    · have e : placeV (a :: l) s = s :: a :: l := by
        unfold placeV
        rw [List.takeWhile_cons_of_neg (by simpa using c), List.dropWhile_cons_of_neg (by simpa using c)]
        rfl
      rw [e]
      refine List.pairwise_cons.2 ⟨fun b hb => ?_, h⟩
      have hsa : spLt s a := by unfold spLt; omega
      rcases List.mem_cons.1 hb with rfl | hb
      · exact hsa
      · exact lt_trans3 hsa (hl.1 b hb)
def placedV : List Sp → List Sp → List Sp
  | acc, [] => acc
  | acc, s :: r => placedV (placeV acc s) r
/-- in order, each behind those that are as bright. -/
def spotsV (lab ov : List Int) (W H : Nat) (least : Int) : Nat → List Sp
  | 0 => []
  | n + 1 => if (spK lab ov W H (n + 1)).px < least then spotsV lab ov W H least n else placeV (spotsV lab ov W H least n) (spK lab ov W H (n + 1))
theorem spots_perm (lab ov : List Int) (W H : Nat) (least : Int) : ∀ n, (spotsV lab ov W H least n).Perm (bigV lab ov W H least n)
  | 0 => .refl _
  | n + 1 => by
    unfold spotsV bigV
    split
    · rw [List.append_nil]
      exact spots_perm lab ov W H least n
    · exact (place_perm _ _).trans ((spots_perm lab ov W H least n).append_right _)
theorem big_k (lab ov : List Int) (W H : Nat) (least : Int) : ∀ n, ∀ a ∈ bigV lab ov W H least n, a.k ≤ n ∧ 1 ≤ a.k
  | 0, a, h => absurd h List.not_mem_nil
  | n + 1, a, h => by
    unfold bigV at h
    rcases List.mem_append.1 h with h | h
    · have := big_k lab ov W H least n a h
      omega
    · split at h
      · cases h
      · rw [List.mem_singleton.1 h, spK_k]
        omega
theorem spots_sorted (lab ov : List Int) (W H : Nat) (least : Int) : ∀ n, (spotsV lab ov W H least n).Pairwise spLt
  | 0 => List.Pairwise.nil
  | n + 1 => by
    unfold spotsV
    split
    · exact spots_sorted lab ov W H least n
    · refine place_sorted (spots_sorted lab ov W H least n) (fun a ha => ?_)
      have := big_k lab ov W H least n a ((spots_perm lab ov W H least n).mem_iff.1 ha)
      rw [spK_k]
      omega
/-- two lists of the same in order are one. -/
theorem sorted_one {l m : List Sp} (h : l.Perm m) (hl : l.Pairwise spLt) (hm : m.Pairwise spLt) : l = m :=
  List.Perm.eq_of_pairwise (fun _ _ _ _ h1 h2 => (lt_asymm h1 h2).elim) hl hm h
end Go.Proofs.YtmgnobeaacjdjajGreatDoor
namespace Go.Proofs.YtmgnobeaacjdjajGreatDoor

/-- the pixel that lies a - 1 rows below and c - 1 beside. -/
def NbAt (W n i a c k : Nat) : Prop := a < 3 ∧ c < 3 ∧ (k : Int) = (i : Int) + ((a : Int) - 1) * (W : Int) + ((c : Int) - 1) ∧ 0 ≤ ((i % W : Nat) : Int) + ((c : Int) - 1) ∧ ((i % W : Nat) : Int) + ((c : Int) - 1) < (W : Int) ∧ k < n
theorem nb_place {W n i a c k : Nat} (hW : 1 ≤ W) (h : NbAt W n i a c k) : (k / W : Nat) + 1 = i / W + a ∧ (k % W : Nat) + 1 = i % W + c := by
  obtain ⟨ha, hc, e, l1, l2, _⟩ := h
  have hi := Nat.div_add_mod i W
  have key : ∀ {q r : Nat}, r < W → k = q * W + r → k / W = q ∧ k % W = r := fun {q r} hr e => by
    subst e
    constructor
    · rw [Nat.mul_comm, Nat.mul_add_div (by omega), Nat.div_eq_of_lt hr, Nat.add_zero]
    · rw [Nat.mul_comm, Nat.mul_add_mod, Nat.mod_eq_of_lt hr]
  generalize i / W = Y at *
  generalize i % W = x at *
  have hYW : W * Y = Y * W := Nat.mul_comm _ _
  obtain ⟨r, hr⟩ : ∃ r : Nat, (r : Int) = (x : Int) + ((c : Int) - 1) := ⟨((x : Int) + ((c : Int) - 1)).toNat, Int.toNat_of_nonneg l1⟩
  rcases (show a = 0 ∨ a = 1 ∨ a = 2 by omega) with rfl | rfl | rfl
  · cases Y with
    | zero =>
      rw [Nat.mul_zero] at hi
      exfalso
      have : (k : Int) = (x : Int) + -1 * (W : Int) + ((c : Int) - 1) := by rw [e]; omega
      omega
    | succ Y =>
      have hm : (Y + 1) * W = Y * W + W := Nat.succ_mul Y W
      obtain ⟨d1, d2⟩ := key (q := Y) (r := r) (by omega) (by
        have e2 : ((0 : Nat) : Int) - 1 = -1 := rfl
        rw [e2] at e
        omega)
      omega
  · obtain ⟨d1, d2⟩ := key (q := Y) (r := r) (by omega) (by
      have e2 : ((1 : Nat) : Int) - 1 = 0 := rfl
      rw [e2, Int.zero_mul] at e
      omega)
    omega
  · have hm : (Y + 1) * W = Y * W + W := Nat.succ_mul Y W
    obtain ⟨d1, d2⟩ := key (q := Y + 1) (r := r) (by omega) (by
      have e2 : ((2 : Nat) : Int) - 1 = 1 := rfl
      rw [e2, Int.one_mul] at e
      omega)
    omega
theorem nb_adj {W n i a c k : Nat} (hW : 1 ≤ W) (h : NbAt W n i a c k) : Adj W i k := by
  obtain ⟨h1, h2⟩ := nb_place hW h
  have := h.1
  have := h.2.1
  unfold Adj
  omega
theorem adj_nb {W n i k : Nat} (hW : 1 ≤ W) (h : Adj W i k) (hk : k < n) : ∃ a c, NbAt W n i a c k := by
  unfold Adj at h
  have hi := Nat.div_add_mod i W
  have hk2 := Nat.div_add_mod k W
  have r1 := Nat.mod_lt i (show W > 0 by omega)
  have r2 := Nat.mod_lt k (show W > 0 by omega)
  refine ⟨k / W + 1 - i / W, k % W + 1 - i % W, by omega, by omega, ?_, by omega, by omega, hk⟩
  generalize hY : i / W = Y at *
  generalize hZ : k / W = Z at *
  generalize i % W = x at *
  generalize k % W = z at *
  have m1 : W * Y = Y * W := Nat.mul_comm _ _
  have m2 : W * Z = Z * W := Nat.mul_comm _ _
  rcases (show Z + 1 = Y ∨ Z = Y ∨ Z = Y + 1 by omega) with e | e | e
  · have m3 : (Z + 1) * W = Z * W + W := Nat.succ_mul Z W
    rw [e] at m3
    rw [show ((Z + 1 - Y : Nat) : Int) = 0 by omega, show (0 : Int) - 1 = -1 from rfl]
    omega
  · subst e
    rw [show ((Z + 1 - Z : Nat) : Int) = 1 by omega, Int.sub_self, Int.zero_mul]
    omega
  · have m3 : (Y + 1) * W = Y * W + W := Nat.succ_mul Y W
    rw [← e] at m3
    rw [show ((Z + 1 - Y : Nat) : Int) = 2 by omega, show (2 : Int) - 1 = 1 from rfl, Int.one_mul]
    omega
/-- the best so far, of the pixels around that were looked at. -/
structure Vis (v : List Int) (W i a c : Nat) (best : Int) : Prop where
  le : best ≤ v.getD i 0
  is : best = v.getD i 0 ∨ ∃ k, k < v.length ∧ Adj W i k ∧ 0 < v.getD k 0 ∧ best = v.getD k 0
  all : ∀ a' c' k, (a' < a ∨ (a' = a ∧ c' < c)) → NbAt W v.length i a' c' k → 0 < v.getD k 0 → best ≤ v.getD k 0
theorem vis0 (v : List Int) (W i : Nat) : Vis v W i 0 0 (v.getD i 0) := ⟨Int.le_refl _, .inl rfl, fun a' c' k h _ _ => by omega⟩
theorem Vis.skip {v : List Int} {W i a c : Nat} {best : Int} (h : Vis v W i a c best) (no : ∀ k, ¬ NbAt W v.length i a c k) : Vis v W i a (c + 1) best :=
  ⟨h.le, h.is, fun a' c' k q nb hp => by
    by_cases e : a' = a ∧ c' = c
    · obtain ⟨rfl, rfl⟩ := e
      exact absurd nb (no k)
    · exact h.all a' c' k (by omega) nb hp⟩
theorem nb_one {W n i a c k m : Nat} (h : NbAt W n i a c k) (g : NbAt W n i a c m) : k = m := by
  have h1 := h.2.2.1
  have h2 := g.2.2.1
  omega
theorem Vis.look {v : List Int} {W i a c k : Nat} {best : Int} (hW : 1 ≤ W) (h : Vis v W i a c best) (nb : NbAt W v.length i a c k) : Vis v W i a (c + 1) (if 0 < v.getD k 0 ∧ v.getD k 0 < best then v.getD k 0 else best) := by
  by_cases q : 0 < v.getD k 0 ∧ v.getD k 0 < best
  · rw [if_pos q]
    refine ⟨by have := h.le; omega, .inr ⟨k, nb.2.2.2.2.2, nb_adj hW nb, q.1, rfl⟩, fun a' c' m s g hp => ?_⟩
    by_cases e : a' = a ∧ c' = c
    · obtain ⟨rfl, rfl⟩ := e
      rw [nb_one g nb]
      exact Int.le_refl _
    · have := h.all a' c' m (by omega) g hp
      omega
  · rw [if_neg q]
    refine ⟨h.le, h.is, fun a' c' m s g hp => ?_⟩
    by_cases e : a' = a ∧ c' = c
    · obtain ⟨rfl, rfl⟩ := e
      rw [nb_one g nb] at hp ⊢
      omega
    · exact h.all a' c' m (by omega) g hp
theorem Vis.row {v : List Int} {W i a : Nat} {best : Int} (h : Vis v W i a 3 best) : Vis v W i (a + 1) 0 best :=
  ⟨h.le, h.is, fun a' c' k q nb hp => h.all a' c' k (by have := nb.2.1; omega) nb hp⟩
/-- the least around. -/
structure Least (v : List Int) (W i : Nat) (m : Int) : Prop where
  le : m ≤ v.getD i 0
  is : m = v.getD i 0 ∨ ∃ k, k < v.length ∧ Adj W i k ∧ 0 < v.getD k 0 ∧ m = v.getD k 0
  all : ∀ k, k < v.length → Adj W i k → 0 < v.getD k 0 → m ≤ v.getD k 0
theorem Vis.done {v : List Int} {W i : Nat} {best : Int} (hW : 1 ≤ W) (h : Vis v W i 3 0 best) : Least v W i best :=
  ⟨h.le, h.is, fun k hk a hp => by
    obtain ⟨a', c', nb⟩ := adj_nb hW a hk
    exact h.all a' c' k (by have := nb.1; omega) nb hp⟩
end Go.Proofs.YtmgnobeaacjdjajGreatDoor
namespace Go.Proofs.YtmgnobeaacjdjajGreatDoor

def overK (p : Pic) (t k : Nat) : List Int := (List.range k).map fun i => p.L.getD i 0 - gAt p t i
theorem overK_next (p : Pic) (t k : Nat) : overK p t (k + 1) = overK p t k ++ [p.L.getD k 0 - gAt p t k] := by
  unfold overK
  rw [List.range_succ, List.map_append]
  rfl
theorem overK_len (p : Pic) (t k : Nat) : (overK p t k).length = k := by unfold overK; rw [List.length_map, List.length_range]
theorem row_div {W y x : Nat} (h : x < W) : (y * W + x) / W = y ∧ (y * W + x) % W = x := by
  constructor
  · rw [Nat.mul_comm, Nat.mul_add_div (by omega), Nat.div_eq_of_lt h, Nat.add_zero]
  · rw [Nat.mul_comm, Nat.mul_add_mod, Nat.mod_eq_of_lt h]
theorem med_count {p : Pic} (h : PicOk p) {t a c : Nat} (ha : a < cdiv p.high.toNat t) (hc : c < cdiv p.wide.toNat t) (ht : 1 ≤ t) : 0 ≤ (groundV p t).getD (a * cdiv p.wide.toNat t + c) 0 ∧ (groundV p t).getD (a * cdiv p.wide.toNat t + c) 0 ≤ 65535 := by
  rw [ground_at ha hc]
  have hx := (cdiv_lt ht).1 hc
  have hy := (cdiv_lt ht).1 ha
  obtain ⟨k, hk, e⟩ := med_in (tile_pos ht hx hy)
  rw [← e]
  refine tile_count (t := t) h hx hy _ ?_
  rw [List.getD_eq_getElem?_getD, List.getElem?_eq_getElem hk]
  exact List.getElem_mem hk
end Go.Proofs.YtmgnobeaacjdjajGreatDoor
namespace Go.Proofs.YtmgnobeaacjdjajGreatDoor

/-- pixels up to i have been looked at: the parts that begin there have their numbers. -/
structure NumTo (L : List Bool) (W i : Nat) (v : List Int) (p : Nat) : Prop where
  len : v.length = L.length
  dark : ∀ k, litB L k = false → v.getD k 0 = 0
  low : ∀ k, 0 ≤ v.getD k 0
  high : ∀ k, v.getD k 0 ≤ p
  yes : ∀ k j, j < i → Conn L W k j → v.getD k 0 ≠ 0
  no : ∀ k, litB L k = true → v.getD k 0 ≠ 0 → ∃ j, j < i ∧ Conn L W k j
  part : ∀ k j, litB L k = true → litB L j = true → v.getD k 0 ≠ 0 → v.getD j 0 ≠ 0 → (v.getD k 0 = v.getD j 0 ↔ Conn L W k j)
  first : ∀ k (a : Int), litB L k = true → 1 ≤ a → a < v.getD k 0 → ∃ j, j < k ∧ litB L j = true ∧ v.getD j 0 = a
  has : ∀ a : Int, 1 ≤ a → a ≤ p → ∃ j, j < i ∧ litB L j = true ∧ v.getD j 0 = a
theorem zero_at (n k : Nat) : (List.replicate n (0 : Int)).getD k 0 = 0 := by
  simp only [List.getD_eq_getElem?_getD, List.getElem?_replicate]
  by_cases h : k < n
  · rw [if_pos h]; rfl
  · rw [if_neg h]; rfl
section
variable {L : List Bool} {W : Nat}
theorem num0 : NumTo L W 0 (List.replicate L.length 0) 0 := by
  refine ⟨by simp, fun k _ => zero_at _ k, fun k => ?_, fun k => ?_, fun k j h _ => by omega, fun k _ h => absurd (zero_at _ k) h, fun k j _ _ h _ => absurd (zero_at _ k) h, fun k a _ h1 h2 => ?_, fun a h1 h2 => by omega⟩
  · rw [zero_at]; exact Int.le_refl _
  · rw [zero_at]; exact Int.le_refl _
  · rw [zero_at] at h2; omega
theorem NumTo.skip {i p : Nat} {v : List Int} (h : NumTo L W i v p) (hi : litB L i = false ∨ v.getD i 0 ≠ 0) : NumTo L W (i + 1) v p := by
  refine ⟨h.len, h.dark, h.low, h.high, fun k j hj c => ?_, fun k l q => ?_, h.part, h.first, fun a h1 h2 => ?_⟩
  · by_cases e : j = i
    · subst e
      rcases hi with hi | hi
      · rw [c.lit2] at hi; cases hi
      · obtain ⟨t, ht, ct⟩ := h.no j c.lit2 hi
        exact h.yes k t ht (c.trans ct)
    · exact h.yes k j (by omega) c
  · obtain ⟨j, hj, c⟩ := h.no k l q
    exact ⟨j, by omega, c⟩
  · obtain ⟨j, hj, e⟩ := h.has a h1 h2
    exact ⟨j, by omega, e⟩
/-- a part has had its number. -/
structure Spread (L : List Bool) (W i : Nat) (num : Int) (C D : List Int) : Prop where
  len : D.length = C.length
  yes : ∀ k, Conn L W i k → D.getD k 0 = num
  no : ∀ k, ¬ Conn L W i k → D.getD k 0 = C.getD k 0
theorem NumTo.more {i p : Nat} {C D : List Int} (h : NumTo L W i C p) (hi : litB L i = true) (h0 : C.getD i 0 = 0) (s : Spread L W i ((p : Int) + 1) C D) : NumTo L W (i + 1) D (p + 1) := by
  have fresh : ∀ k, Conn L W i k → C.getD k 0 = 0 := fun k c => by
    refine Decidable.byContradiction (fun q => ?_)
    obtain ⟨j, hj, cj⟩ := h.no k c.lit2 q
    exact h.yes i j hj (c.trans cj) h0
  have ahead : ∀ k, Conn L W i k → i ≤ k := fun k c => by
    refine Decidable.byContradiction (fun q => ?_)
    exact h.yes i k (by omega) c h0
  have cc : ∀ k, Conn L W i k ∨ ¬ Conn L W i k := fun k => Classical.em _
  refine ⟨s.len.trans h.len, fun k hk => ?_, fun k => ?_, fun k => ?_, fun k j hj c => ?_, fun k l q => ?_, fun k j lk lj qk qj => ?_, fun k a l h1 h2 => ?_, fun a h1 h2 => ?_⟩
  · rw [s.no k (fun c => by rw [c.lit2] at hk; cases hk)]
    exact h.dark k hk
  · rcases cc k with c | c
    · rw [s.yes k c]; omega
    · rw [s.no k c]; exact h.low k
  · rcases cc k with c | c
    · rw [s.yes k c]; omega
    · rw [s.no k c]; have := h.high k; omega
  · rcases cc k with d | d
    · rw [s.yes k d]; omega
    · rw [s.no k d]
      by_cases e : j = i
      · subst e; exact absurd c.symm d
      · exact h.yes k j (by omega) c
  · rcases cc k with d | d
    · exact ⟨i, by omega, d.symm⟩
    · rw [s.no k d] at q
      obtain ⟨j, hj, c⟩ := h.no k l q
      exact ⟨j, by omega, c⟩
  · rcases cc k with d | d
    · rcases cc j with f | f
      · rw [s.yes k d, s.yes j f]
        exact ⟨fun _ => d.symm.trans f, fun _ => rfl⟩
      · rw [s.yes k d, s.no j f]
        constructor
        · intro e
          have := h.high j
          omega
        · intro c
          exact absurd (d.trans c) f
    · rcases cc j with f | f
      · rw [s.no k d, s.yes j f]
        constructor
        · intro e
          have := h.high k
          omega
        · intro c
          exact absurd (f.trans c.symm) d
      · rw [s.no k d] at qk ⊢
        rw [s.no j f] at qj ⊢
        exact h.part k j lk lj qk qj
  · rcases cc k with d | d
    · rw [s.yes k d] at h2
      obtain ⟨j, hj, lj, ej⟩ := h.has a h1 (by omega)
      refine ⟨j, by have := ahead k d; omega, lj, ?_⟩
      rw [s.no j (fun c => by have := ahead j c; omega)]
      exact ej
    · rw [s.no k d] at h2
      obtain ⟨j, hj, lj, ej⟩ := h.first k a l h1 h2
      refine ⟨j, hj, lj, ?_⟩
      rw [s.no j (fun c => by rw [fresh j c] at ej; omega)]
      exact ej
  · by_cases e : a = (p : Int) + 1
    · exact ⟨i, by omega, hi, by rw [s.yes i (.one hi), e]⟩
    · obtain ⟨j, hj, lj, ej⟩ := h.has a h1 (by omega)
      refine ⟨j, by omega, lj, ?_⟩
      rw [s.no j (fun c => by rw [fresh j c] at ej; omega)]
      exact ej
theorem NumTo.done {i p : Nat} {v : List Int} (h : NumTo L W i v p) (hi : i = L.length) : IsLabels L W v p := by
  have nz : ∀ k, litB L k = true → v.getD k 0 ≠ 0 := fun k l => h.yes k k (by rw [hi]; exact lit_lt l) (.one l)
  refine ⟨h.len, h.dark, fun k l => ?_, fun k _ => h.high k, fun k j lk lj => h.part k j lk lj (nz k lk) (nz j lj), h.first, ?_⟩
  · have := nz k l
    have := h.low k
    omega
  · by_cases e : p = 0
    · exact .inl e
    · obtain ⟨j, _, lj, ej⟩ := h.has p (by omega) (Int.le_refl _)
      exact .inr ⟨j, lj, ej⟩
/-! while a number is spread -/
/-- S wait; c is at its turn (none is where c is no pixel). -/
structure Spr (L : List Bool) (W i : Nat) (num : Int) (C D : List Int) (S : List Nat) (c : Nat) : Prop where
  len : D.length = C.length
  is : ∀ k, D.getD k 0 = C.getD k 0 ∨ (Conn L W i k ∧ D.getD k 0 = num)
  at_ : D.getD i 0 = num
  wait : ∀ s ∈ S, Conn L W i s ∧ D.getD s 0 = num
  cur : c < L.length → Conn L W i c ∧ D.getD c 0 = num
  shut : ∀ j k, Conn L W i j → D.getD j 0 = num → j ∉ S → j ≠ c → Adj W j k → litB L k = true → D.getD k 0 = num
theorem spr0 {i : Nat} {num : Int} {C : List Int} (hl : C.length = L.length) (hi : litB L i = true) (h0 : ∀ k, Conn L W i k → C.getD k 0 = 0) (hn : num ≠ 0) : Spr L W i num C (C.set i num) [i] L.length := by
  have hil : i < C.length := by rw [hl]; exact lit_lt hi
  refine ⟨by simp, fun k => ?_, by rw [getD_setI hil, if_pos rfl], fun s hs => ?_, fun q => absurd q (Nat.lt_irrefl _), fun j k cj ej nj _ _ _ => ?_⟩
  · rw [getD_setI hil]
    by_cases e : i = k
    · subst e; rw [if_pos rfl]; exact .inr ⟨.one hi, rfl⟩
    · rw [if_neg e]; exact .inl rfl
  · rw [List.mem_singleton.1 hs]
    exact ⟨.one hi, by rw [getD_setI hil, if_pos rfl]⟩
  · exfalso
    rw [getD_setI hil] at ej
    by_cases e : i = j
    · subst e; exact nj (List.mem_singleton.2 rfl)
    · rw [if_neg e, h0 j cj] at ej
      exact hn ej.symm
theorem Spr.pop {i c : Nat} {num : Int} {C D : List Int} {S : List Nat} (h : Spr L W i num C D (S ++ [c]) L.length) : Spr L W i num C D S c :=
  ⟨h.len, h.is, h.at_, fun s hs => h.wait s (List.mem_append_left _ hs), fun _ => h.wait c (List.mem_append_right _ (List.mem_singleton.2 rfl)),
   fun j k cj ej nj nc a l => h.shut j k cj ej (fun q => by
     rcases List.mem_append.1 q with q | q
     · exact nj q
     · exact nc (List.mem_singleton.1 q)) (fun q => by have := lit_lt cj.lit2; omega) a l⟩
/-- the pixels around that have been looked at: those in rows above r, and in row r left of u. -/
def Seen (L : List Bool) (W c r u : Nat) (D : List Int) : Prop := ∀ k, litB L k = true → Adj W c k → (k / W < r ∨ (k / W = r ∧ k % W < u)) → D.getD k 0 ≠ 0
theorem Spr.push {i c k : Nat} {num : Int} {C D : List Int} {S : List Nat} (h : Spr L W i num C D S c) (hl : C.length = L.length) (hc : c < L.length) (hk : litB L k = true) (a : Adj W c k) : Spr L W i num C (D.set k num) (S ++ [k]) c := by
  have hkl : k < D.length := by rw [h.len, hl]; exact lit_lt hk
  have ck : Conn L W i k := .more (h.cur hc).1 a hk
  have eq : ∀ j, (D.set k num).getD j 0 = if k = j then num else D.getD j 0 := fun j => getD_setI hkl
  refine ⟨by rw [List.length_set]; exact h.len, fun j => ?_, ?_, fun s hs => ?_, fun q => ⟨(h.cur q).1, ?_⟩, fun j m cj ej nj nc am lm => ?_⟩
  · rw [eq]
    by_cases e : k = j
    · subst e; rw [if_pos rfl]; exact .inr ⟨ck, rfl⟩
    · rw [if_neg e]; exact h.is j
  · rw [eq]
    by_cases e : k = i
    · rw [if_pos e]
    · rw [if_neg e]; exact h.at_
  · rw [eq]
    rcases List.mem_append.1 hs with q | q
    · by_cases e : k = s
      · subst e; rw [if_pos rfl]; exact ⟨ck, rfl⟩
      · rw [if_neg e]; exact h.wait s q
    · rw [List.mem_singleton.1 q, if_pos rfl]
      exact ⟨ck, rfl⟩
  · rw [eq]
    by_cases e : k = c
    · rw [if_pos e]
    · rw [if_neg e]; exact (h.cur q).2
  · rw [eq] at ej ⊢
    by_cases e : k = m
    · rw [if_pos e]
    · rw [if_neg e]
      have nk : k ≠ j := fun q => nj (List.mem_append_right _ (List.mem_singleton.2 q.symm))
      rw [if_neg nk] at ej
      exact h.shut j m cj ej (fun q => nj (List.mem_append_left _ q)) nc am lm
theorem seen_put {c r u k : Nat} {num : Int} {D : List Int} (hn : num ≠ 0) (hk : k < D.length) (h : Seen L W c r u D) : Seen L W c r u (D.set k num) := fun j l a q => by
  rw [getD_setI hk]
  by_cases e : k = j
  · rw [if_pos e]; exact hn
  · rw [if_neg e]; exact h j l a q
/-- one more pixel was looked at. -/
theorem Seen.one {c r u k : Nat} {D : List Int} (h : Seen L W c r u D) (hk : k / W = r ∧ k % W = u) (q : litB L k = false ∨ D.getD k 0 ≠ 0) : Seen L W c r (u + 1) D := fun j l a s => by
  by_cases e : j / W = r ∧ j % W = u
  · have hj : j = k := by
      have h1 := Nat.div_add_mod j W
      have h2 := Nat.div_add_mod k W
      rw [e.1, e.2] at h1
      rw [hk.1, hk.2] at h2
      omega
    subst hj
    rcases q with q | q
    · rw [l] at q; cases q
    · exact q
  · exact h j l a (by omega)
theorem Spr.shutC {i c r u : Nat} {num : Int} {C D : List Int} {S : List Nat} (h : Spr L W i num C D S c) (h0 : ∀ k, Conn L W i k → C.getD k 0 = 0) (hc : c < L.length) (s : Seen L W c r u D) (e : ∀ k, litB L k = true → Adj W c k → k / W < r) : Spr L W i num C D S L.length := by
  refine ⟨h.len, h.is, h.at_, h.wait, fun q => absurd q (Nat.lt_irrefl _), fun j k cj ej nj nc a l => ?_⟩
  by_cases q : j = c
  · subst q
    have nz := s k l a (.inl (e k l a))
    rcases h.is k with f | f
    · rw [f, h0 k (.more cj a l)] at nz
      exact absurd rfl nz
    · exact f.2
  · exact h.shut j k cj ej nj q a l
theorem Spr.done {i : Nat} {num : Int} {C D : List Int} (h : Spr L W i num C D [] L.length) : Spread L W i num C D := by
  have all : ∀ k, Conn L W i k → D.getD k 0 = num := fun k c => by
    have gen : ∀ a b, Conn L W a b → a = i → D.getD b 0 = num := fun a b c => by
      induction c with
      | one l => intro e; rw [e]; exact h.at_
      | more cj a l ih =>
        intro e
        have ej := ih e
        subst e
        exact h.shut _ _ cj ej (fun q => by cases q) (fun q => by have := lit_lt cj.lit2; omega) a l
    exact gen i k c rfl
  refine ⟨h.len, all, fun k c => ?_⟩
  rcases h.is k with f | f
  · exact f
  · exact absurd f.1 c
/-! how many have no number yet -/
def zeros (C : List Int) : Nat := C.countP (fun x => x == 0)
theorem zeros_set {C : List Int} {k : Nat} {x : Int} (hk : k < C.length) (h0 : C.getD k 0 = 0) (hx : x ≠ 0) : zeros (C.set k x) + 1 = zeros C := by
  unfold zeros
  induction C generalizing k with
  | nil => exact absurd hk (Nat.not_lt_zero k)
  | cons c C ih =>
    cases k with
    | zero =>
      have h0' : c = 0 := h0
      subst h0'
      simp [hx]
    | succ k =>
      have := ih (k := k) (by simpa using hk) (by simpa using h0)
      rw [List.set_cons_succ, List.countP_cons, List.countP_cons]
      omega
theorem fresh_of {i p : Nat} {C : List Int} (h : NumTo L W i C p) (h0 : C.getD i 0 = 0) : ∀ k, Conn L W i k → C.getD k 0 = 0 := fun k c => by
  refine Decidable.byContradiction (fun q => ?_)
  obtain ⟨j, hj, cj⟩ := h.no k c.lit2 q
  exact h.yes i j hj (c.trans cj) h0
end
end Go.Proofs.YtmgnobeaacjdjajGreatDoor
namespace Go.Proofs.YtmgnobeaacjdjajGreatDoor

/-- the same things, within a stretch, in another order. -/
def Re (a b : Nat) (p q : Nat → Sp) : Prop := ∃ s t : Nat → Nat, (∀ k, t (s k) = k) ∧ (∀ k, s (t k) = k) ∧ (∀ k, a ≤ k → k < b → a ≤ s k ∧ s k < b) ∧ (∀ k, ¬ (a ≤ k ∧ k < b) → s k = k) ∧ ∀ k, q k = p (s k)
theorem re_refl (a b : Nat) (p : Nat → Sp) : Re a b p p := ⟨id, id, fun _ => rfl, fun _ => rfl, fun _ h1 h2 => ⟨h1, h2⟩, fun _ _ => rfl, fun _ => rfl⟩
theorem Re.trans {a b : Nat} {p q r : Nat → Sp} (h : Re a b p q) (g : Re a b q r) : Re a b p r := by
  obtain ⟨s, t, h1, h2, h3, h4, h5⟩ := h
  obtain ⟨s', t', g1, g2, g3, g4, g5⟩ := g
  refine ⟨fun k => s (s' k), fun k => t' (t k), fun k => by simp only [h1, g1], fun k => by simp only [h2, g2], fun k x y => ?_, fun k x => ?_, fun k => by rw [g5, h5]⟩
  · have := g3 k x y
    exact h3 _ this.1 this.2
  · show s (s' k) = k
    rw [g4 k x, h4 k x]
theorem Re.wide {a b c d : Nat} {p q : Nat → Sp} (h : Re a b p q) (h1 : c ≤ a) (h2 : b ≤ d) : Re c d p q := by
  obtain ⟨s, t, g1, g2, g3, g4, g5⟩ := h
  refine ⟨s, t, g1, g2, fun k x y => ?_, fun k x => g4 k (fun q => x ⟨by omega, by omega⟩), g5⟩
  by_cases e : a ≤ k ∧ k < b
  · have := g3 k e.1 e.2
    omega
  · rw [g4 k e]
    exact ⟨x, y⟩
theorem Re.out {a b : Nat} {p q : Nat → Sp} (h : Re a b p q) {k : Nat} (hk : ¬ (a ≤ k ∧ k < b)) : q k = p k := by
  obtain ⟨s, t, h1, h2, h3, h4, h5⟩ := h
  rw [h5, h4 k hk]
theorem Re.has {a b : Nat} {p q : Nat → Sp} (h : Re a b p q) {k : Nat} (h1 : a ≤ k) (h2 : k < b) : ∃ j, a ≤ j ∧ j < b ∧ q k = p j := by
  obtain ⟨s, t, g1, g2, g3, g4, g5⟩ := h
  have := g3 k h1 h2
  exact ⟨s k, this.1, this.2, g5 k⟩
/-- two places. -/
def swpF (p : Nat → Sp) (i j : Nat) : Nat → Sp := fun k => if k = i then p j else if k = j then p i else p k
theorem swpF_re {a b i j : Nat} (p : Nat → Sp) (hi : a ≤ i ∧ i < b) (hj : a ≤ j ∧ j < b) : Re a b p (swpF p i j) := by
  have inv : ∀ k, (fun k => if k = i then j else if k = j then i else k) ((fun k => if k = i then j else if k = j then i else k) k) = k := fun k => by
    simp only []
    by_cases e1 : k = i
    · by_cases e2 : j = i
      · subst e1; subst e2; simp
      · simp [e1, e2]
    · by_cases e2 : k = j
      · simp [e2]
      · simp [e1, e2]
  refine ⟨fun k => if k = i then j else if k = j then i else k, fun k => if k = i then j else if k = j then i else k, inv, inv, fun k x y => ?_, fun k x => ?_, fun k => ?_⟩
  · simp only []
    split
    · exact hj
    · split
      · exact hi
      · exact ⟨x, y⟩
  · simp only []
    rw [if_neg (by omega), if_neg (by omega)]
  · unfold swpF
    simp only []
    split
    · rfl
    · split <;> rfl
/-- two stretches of n places. -/
def swapR (p : Nat → Sp) (a b n : Nat) : Nat → Sp := fun k => if a ≤ k ∧ k < a + n then p (k - a + b) else if b ≤ k ∧ k < b + n then p (k - b + a) else p k
theorem swap0 (p : Nat → Sp) (a b : Nat) : swapR p a b 0 = p := by
  funext k
  unfold swapR
  rw [if_neg (by omega), if_neg (by omega)]
theorem swap_next {p : Nat → Sp} {a b n : Nat} (h : a + n < b) : swpF (swapR p a b n) (a + n) (b + n) = swapR p a b (n + 1) := by
  funext k
  unfold swpF swapR
  repeat' split
  all_goals first | (exfalso; omega) | rfl | (congr 1; omega)
/-- the stretch from s to m comes behind the one from m to e. -/
def rot (p : Nat → Sp) (s m e : Nat) : Nat → Sp := fun k => if s ≤ k ∧ k < s + (e - m) then p (k + (m - s)) else if s + (e - m) ≤ k ∧ k < e then p (k - (e - m)) else p k
theorem rot_more {p : Nat → Sp} {m i j : Nat} (hi : i ≤ m) (h : j < i) (hj : 0 < j) : rot (swapR p (m - i) m j) (m - (i - j)) m (m + j) = rot p (m - i) m (m + j) := by
  funext k
  unfold rot swapR
  repeat' split
  all_goals first | (exfalso; omega) | rfl | (congr 1; omega)
theorem rot_less {p : Nat → Sp} {m i j : Nat} (hi : i ≤ m) (h : i < j) (hj : 0 < i) : rot (swapR p (m - i) (m + j - i) i) (m - i) m (m + (j - i)) = rot p (m - i) m (m + j) := by
  funext k
  unfold rot swapR
  repeat' split
  all_goals first | (exfalso; omega) | rfl | (congr 1; omega)
theorem rot_same {p : Nat → Sp} {m i : Nat} (hi : i ≤ m) : swapR p (m - i) m i = rot p (m - i) m (m + i) := by
  funext k
  unfold rot swapR
  repeat' split
  all_goals first | (exfalso; omega) | rfl | (congr 1; omega)
theorem rot_re {p : Nat → Sp} {s m e : Nat} (h1 : s ≤ m) (h2 : m ≤ e) : Re s e p (rot p s m e) := by
  refine ⟨fun k => if s ≤ k ∧ k < s + (e - m) then k + (m - s) else if s + (e - m) ≤ k ∧ k < e then k - (e - m) else k, fun k => if s ≤ k ∧ k < m then k + (e - m) else if m ≤ k ∧ k < e then k - (m - s) else k, fun k => ?_, fun k => ?_, fun k x y => ?_, fun k x => ?_, fun k => ?_⟩
  · simp only []
    repeat' split
    all_goals omega
  · simp only []
    repeat' split
    all_goals omega
  · simp only []
    repeat' split
    all_goals omega
  · simp only []
    repeat' split
    all_goals omega
  · unfold rot
    simp only []
    repeat' split
    all_goals rfl
/-! in order -/
def Ord (p : Nat → Sp) (a b : Nat) : Prop := ∀ i j, a ≤ i → i < j → j < b → spLt (p i) (p j)
/-- those from a to m have lesser numbers than those from m to b. -/
def Ahead (p : Nat → Sp) (a m b : Nat) : Prop := ∀ i j, a ≤ i → i < m → m ≤ j → j < b → (p i).k < (p j).k
theorem ahead_lt {p : Nat → Sp} {a m b i j : Nat} (h : Ahead p a m b) (h1 : a ≤ i) (h2 : i < m) (h3 : m ≤ j) (h4 : j < b) : (p i).li < (p j).li ↔ spLt (p j) (p i) := by
  have := h i j h1 h2 h3 h4
  unfold spLt
  omega
theorem ahead_ge {p : Nat → Sp} {a m b i j : Nat} (h : Ahead p a m b) (h1 : a ≤ i) (h2 : i < m) (h3 : m ≤ j) (h4 : j < b) : ¬ (p i).li < (p j).li ↔ spLt (p i) (p j) := by
  have := h i j h1 h2 h3 h4
  unfold spLt
  omega
/-- what a joining asks. -/
structure Two (p : Nat → Sp) (a m b : Nat) : Prop where
  lo : Ord p a m
  hi : Ord p m b
  ah : Ahead p a m b
/-- what it does. -/
structure Done (p q : Nat → Sp) (a b : Nat) : Prop where
  ord : Ord q a b
  re : Re a b p q
/-- one thing ahead: moved on to place i - 1. -/
def mvOn (p : Nat → Sp) (a i : Nat) : Nat → Sp := fun k => if a ≤ k ∧ k + 1 < i then p (k + 1) else if k + 1 = i ∧ a ≤ k then p a else p k
theorem mv0 (p : Nat → Sp) (a : Nat) : mvOn p a (a + 1) = p := by
  funext k
  unfold mvOn
  repeat' split
  all_goals first | (exfalso; omega) | rfl | (congr 1; omega)
theorem mv_next {p : Nat → Sp} {a k : Nat} (h : a ≤ k) : swpF (mvOn p a (k + 1)) k (k + 1) = mvOn p a (k + 2) := by
  funext j
  unfold swpF mvOn
  repeat' split
  all_goals first | (exfalso; omega) | rfl | (congr 1; omega)
theorem mv_rot {p : Nat → Sp} {a i : Nat} (h : a < i) : mvOn p a i = rot p a (a + 1) i := by
  funext k
  unfold rot mvOn
  repeat' split
  all_goals first | (exfalso; omega) | rfl | (congr 1; omega)
/-- one thing behind: moved back to place i. -/
def mvBk (p : Nat → Sp) (i m : Nat) : Nat → Sp := fun k => if k = i then p m else if i < k ∧ k ≤ m then p (k - 1) else p k
theorem bk0 (p : Nat → Sp) (m : Nat) : mvBk p m m = p := by
  funext k
  unfold mvBk
  repeat' split
  all_goals first | (exfalso; omega) | rfl | (congr 1; omega)
theorem bk_next {p : Nat → Sp} {m k : Nat} (h : k + 1 ≤ m) : swpF (mvBk p (k + 1) m) (k + 1) k = mvBk p k m := by
  funext j
  unfold swpF mvBk
  repeat' split
  all_goals first | (exfalso; omega) | rfl | (congr 1; omega)
theorem bk_rot {p : Nat → Sp} {i m : Nat} (h : i ≤ m) : mvBk p i m = rot p i m (m + 1) := by
  funext k
  unfold rot mvBk
  repeat' split
  all_goals first | (exfalso; omega) | rfl | (congr 1; omega)
/-- cut where the halves agree: then what lies in each half comes as two in order, and the halves are in order. -/
structure Cut (p : Nat → Sp) (a m b st en : Nat) : Prop where
  h1 : a ≤ st
  h2 : st ≤ m
  h3 : m ≤ en
  h4 : en ≤ b
  low : a < st → en < b → spLt (p (st - 1)) (p en)
  up : st < m → m < en → spLt (p (en - 1)) (p st)
theorem rot_at1 {p : Nat → Sp} {s m e k : Nat} (h : s ≤ k ∧ k < s + (e - m)) : rot p s m e k = p (k + (m - s)) := by unfold rot; rw [if_pos h]
theorem rot_at2 {p : Nat → Sp} {s m e k : Nat} (h : s + (e - m) ≤ k ∧ k < e) : rot p s m e k = p (k - (e - m)) := by unfold rot; rw [if_neg (by omega), if_pos h]
theorem rot_out {p : Nat → Sp} {s m e k : Nat} (h : k < s ∨ (s + (e - m) ≤ k ∧ e ≤ k)) : rot p s m e k = p k := by unfold rot; rw [if_neg (by omega), if_neg (by omega)]
section
variable {p : Nat → Sp} {a m b st en : Nat}
theorem Cut.cross (c : Cut p a m b st en) (t : Two p a m b) {i j : Nat} (h1 : a ≤ i) (h2 : i < st) (h3 : en ≤ j) (h4 : j < b) : spLt (p i) (p j) := by
  have := c.h1; have := c.h2; have := c.h3; have := c.h4
  have q := c.low (by omega) (by omega)
  have q1 : i = st - 1 ∨ spLt (p i) (p (st - 1)) := by
    by_cases e : i = st - 1
    · exact .inl e
    · exact .inr (t.lo i (st - 1) h1 (by omega) (by omega))
  have q2 : j = en ∨ spLt (p en) (p j) := by
    by_cases e : j = en
    · exact .inl e
    · exact .inr (t.hi en j (by omega) (by omega) h4)
  rcases q1 with q1 | q1
  · rcases q2 with q2 | q2
    · rw [q1, q2]; exact q
    · rw [q1]; exact lt_trans3 q q2
  · rcases q2 with q2 | q2
    · rw [q2]; exact lt_trans3 q1 q
    · exact lt_trans3 (lt_trans3 q1 q) q2
theorem Cut.back (c : Cut p a m b st en) (t : Two p a m b) {i j : Nat} (h1 : m ≤ i) (h2 : i < en) (h3 : st ≤ j) (h4 : j < m) : spLt (p i) (p j) := by
  have := c.h1; have := c.h2; have := c.h3; have := c.h4
  have q := c.up (by omega) (by omega)
  have q1 : i = en - 1 ∨ spLt (p i) (p (en - 1)) := by
    by_cases e : i = en - 1
    · exact .inl e
    · exact .inr (t.hi i (en - 1) h1 (by omega) (by omega))
  have q2 : j = st ∨ spLt (p st) (p j) := by
    by_cases e : j = st
    · exact .inl e
    · exact .inr (t.lo st j (by omega) (by omega) h4)
  rcases q1 with q1 | q1
  · rcases q2 with q2 | q2
    · rw [q1, q2]; exact q
    · rw [q1]; exact lt_trans3 q q2
  · rcases q2 with q2 | q2
    · rw [q2]; exact lt_trans3 q1 q
    · exact lt_trans3 (lt_trans3 q1 q) q2
/-- the first half, when the middle stretches have changed places. -/
theorem Cut.first (c : Cut p a m b st en) (t : Two p a m b) : Two (rot p st m en) a st (st + (en - m)) := by
  have := c.h1; have := c.h2; have := c.h3; have := c.h4
  refine ⟨fun i j x y z => ?_, fun i j x y z => ?_, fun i j x y z u => ?_⟩
  · rw [rot_out (by omega), rot_out (by omega)]
    exact t.lo i j x y (by omega)
  · rw [rot_at1 (by omega), rot_at1 (by omega)]
    exact t.hi _ _ (by omega) (by omega) (by omega)
  · rw [rot_out (by omega), rot_at1 (by omega)]
    exact t.ah _ _ x (by omega) (by omega) (by omega)
theorem Cut.second (c : Cut p a m b st en) (t : Two p a m b) : Two (rot p st m en) (st + (en - m)) en b := by
  have := c.h1; have := c.h2; have := c.h3; have := c.h4
  refine ⟨fun i j x y z => ?_, fun i j x y z => ?_, fun i j x y z u => ?_⟩
  · rw [rot_at2 (by omega), rot_at2 (by omega)]
    exact t.lo _ _ (by omega) (by omega) (by omega)
  · rw [rot_out (by omega), rot_out (by omega)]
    exact t.hi _ _ (by omega) (by omega) (by omega)
  · rw [rot_at2 (by omega), rot_out (by omega)]
    exact t.ah _ _ (by omega) (by omega) (by omega) u
/-- all of the first half ahead of all of the second. -/
theorem Cut.halves (c : Cut p a m b st en) (t : Two p a m b) {i j : Nat} (h1 : a ≤ i) (h2 : i < st + (en - m)) (h3 : st + (en - m) ≤ j) (h4 : j < b) : spLt (rot p st m en i) (rot p st m en j) := by
  have := c.h1; have := c.h2; have := c.h3; have := c.h4
  by_cases e1 : i < st
  · rw [rot_out (.inl e1)]
    by_cases e2 : j < en
    · rw [rot_at2 ⟨h3, e2⟩]
      exact t.lo _ _ h1 (by omega) (by omega)
    · rw [rot_out (.inr ⟨h3, by omega⟩)]
      exact c.cross t h1 e1 (by omega) h4
  · rw [rot_at1 ⟨by omega, h2⟩]
    by_cases e2 : j < en
    · rw [rot_at2 ⟨h3, e2⟩]
      exact c.back t (by omega) (by omega) (by omega) (by omega)
    · rw [rot_out (.inr ⟨h3, by omega⟩)]
      exact t.hi _ _ (by omega) (by omega) h4
/-- both halves joined: all is. -/
theorem Cut.join {q r : Nat → Sp} (c : Cut p a m b st en) (t : Two p a m b) (d1 : Done (rot p st m en) q a (st + (en - m))) (d2 : Done q r (st + (en - m)) b) : Done p r a b := by
  have := c.h1; have := c.h2; have := c.h3; have := c.h4
  refine ⟨fun i j x y z => ?_, ((rot_re c.h2 c.h3).wide c.h1 c.h4).trans ((d1.re.wide (Nat.le_refl _) (by omega)).trans (d2.re.wide (by omega) (Nat.le_refl _)))⟩
  by_cases e1 : j < st + (en - m)
  · rw [d2.re.out (by omega), d2.re.out (by omega)]
    exact d1.ord i j x y e1
  · by_cases e2 : i < st + (en - m)
    · rw [d2.re.out (by omega)]
      obtain ⟨j', y1, y2, y3⟩ := d2.re.has (show st + (en - m) ≤ j by omega) z
      rw [y3, d1.re.out (k := j') (by omega)]
      obtain ⟨i', z1, z2, z3⟩ := d1.re.has x e2
      rw [z3]
      exact c.halves t z1 z2 y1 y2
    · exact d2.ord i j (by omega) y z
end
theorem done_refl {p : Nat → Sp} {a b : Nat} (h : Ord p a b) : Done p p a b := ⟨h, re_refl _ _ _⟩
/-- nothing in one of the two: in order already. -/
theorem Two.left {p : Nat → Sp} {a b : Nat} (h : Two p a b b) : Done p p a b := done_refl h.lo
theorem Two.right {p : Nat → Sp} {a b : Nat} (h : Two p a a b) : Done p p a b := done_refl h.hi
theorem Two.kept {p q : Nat → Sp} {a m b : Nat} (h : Two p a m b) (e : ∀ k, a ≤ k → k < b → q k = p k) (h1 : a ≤ m) (h2 : m ≤ b) : Two q a m b :=
  ⟨fun i j x y z => by rw [e i (by omega) (by omega), e j (by omega) (by omega)]; exact h.lo i j x y z,
   fun i j x y z => by rw [e i (by omega) (by omega), e j (by omega) (by omega)]; exact h.hi i j x y z,
   fun i j x y z u => by rw [e i (by omega) (by omega), e j (by omega) (by omega)]; exact h.ah i j x y z u⟩
/-! the first of two has one thing: where it goes -/
theorem one_left {p : Nat → Sp} {a b i : Nat} (t : Two p a (a + 1) b) (h1 : a + 1 ≤ i) (h2 : i ≤ b) (lo : ∀ j, a + 1 ≤ j → j < i → (p a).li < (p j).li) (hi : ∀ j, i ≤ j → j < b → ¬ (p a).li < (p j).li) : Done p (mvOn p a i) a b := by
  rw [mv_rot (by omega)]
  have c : Cut p a (a + 1) b a i := ⟨Nat.le_refl _, by omega, h1, h2, fun q => by omega, fun _ q => (ahead_lt t.ah (Nat.le_refl _) (by omega) (by omega) (by omega)).1 (lo (i - 1) (by omega) (by omega))⟩
  have e : a + (i - (a + 1)) = i - 1 := by omega
  have f := c.first t
  have g := c.second t
  rw [e] at f g
  refine ⟨fun x y hx hy hz => ?_, (rot_re (by omega) h1).wide (Nat.le_refl _) h2⟩
  by_cases q1 : y < i - 1
  · exact f.hi x y hx hy q1
  · by_cases q2 : x < i - 1
    · exact c.halves t hx (by omega) (by omega) hz
    · by_cases q3 : x < i
      · obtain rfl : x = i - 1 := by omega
        rw [rot_at2 (by omega), rot_out (by omega)]
        exact (ahead_ge t.ah (by omega) (by omega) (by omega) hz).1 (by rw [show i - 1 - (i - (a + 1)) = a by omega]; exact hi y (by omega) hz)
      · exact g.hi x y (by omega) hy hz
theorem one_right {p : Nat → Sp} {a m i : Nat} (t : Two p a m (m + 1)) (h1 : a ≤ i) (h2 : i ≤ m) (lo : ∀ j, a ≤ j → j < i → ¬ (p j).li < (p m).li) (hi : ∀ j, i ≤ j → j < m → (p j).li < (p m).li) : Done p (mvBk p i m) a (m + 1) := by
  rw [bk_rot h2]
  have c : Cut p a m (m + 1) i (m + 1) := ⟨h1, h2, by omega, Nat.le_refl _, fun _ q => by omega, fun q _ => by rw [Nat.add_sub_cancel]; exact (ahead_lt t.ah h1 q (Nat.le_refl _) (by omega)).1 (hi i (Nat.le_refl _) q)⟩
  have e : i + (m + 1 - m) = i + 1 := by omega
  have f := c.first t
  have g := c.second t
  rw [e] at f g
  refine ⟨fun x y hx hy hz => ?_, (rot_re h2 (by omega)).wide h1 (Nat.le_refl _)⟩
  by_cases q1 : y < i
  · exact f.lo x y hx hy q1
  · by_cases q2 : x < i
    · by_cases q3 : y = i
      · subst q3
        rw [rot_out (by omega), rot_at1 (by omega), show y + (m - y) = m by omega]
        exact (ahead_ge t.ah hx (by omega) (Nat.le_refl _) (by omega)).1 (lo x hx q2)
      · exact c.halves t hx (by omega) (by omega) hz
    · by_cases q3 : x = i
      · exact c.halves t hx (by omega) (by omega) hz
      · exact g.lo x y (by omega) hy hz
end Go.Proofs.YtmgnobeaacjdjajGreatDoor
namespace Go.Proofs.YtmgnobeaacjdjajGreatDoor

theorem one_left2 {p : Nat → Sp} {a b i : Nat} (t : Two p a (a + 1) b) (h1 : a + 1 ≤ i) (h2 : i ≤ b) (lo : a + 1 < i → (p a).li < (p (i - 1)).li) (hi : i < b → ¬ (p a).li < (p i).li) : Done p (mvOn p a i) a b := by
  refine one_left t h1 h2 (fun j x y => ?_) (fun j x y => ?_)
  · have q := (ahead_lt t.ah (Nat.le_refl a) (Nat.lt_succ_self a) (show a + 1 ≤ i - 1 by omega) (by omega)).1 (lo (by omega))
    refine (ahead_lt t.ah (Nat.le_refl a) (Nat.lt_succ_self a) x (by omega)).2 ?_
    by_cases e : j = i - 1
    · rw [e]; exact q
    · exact lt_trans3 (t.hi j (i - 1) x (by omega) (by omega)) q
  · have q := (ahead_ge t.ah (Nat.le_refl a) (Nat.lt_succ_self a) (show a + 1 ≤ i by omega) (by omega)).1 (hi (by omega))
    refine (ahead_ge t.ah (Nat.le_refl a) (Nat.lt_succ_self a) (by omega) y).2 ?_
    by_cases e : j = i
    · rw [e]; exact q
    · exact lt_trans3 q (t.hi i j (by omega) (by omega) y)
theorem one_right2 {p : Nat → Sp} {a m i : Nat} (t : Two p a m (m + 1)) (h1 : a ≤ i) (h2 : i ≤ m) (lo : a < i → ¬ (p (i - 1)).li < (p m).li) (hi : i < m → (p i).li < (p m).li) : Done p (mvBk p i m) a (m + 1) := by
  refine one_right t h1 h2 (fun j x y => ?_) (fun j x y => ?_)
  · have q := (ahead_ge t.ah (show a ≤ i - 1 by omega) (by omega) (Nat.le_refl m) (Nat.lt_succ_self m)).1 (lo (by omega))
    refine (ahead_ge t.ah x (by omega) (Nat.le_refl m) (Nat.lt_succ_self m)).2 ?_
    by_cases e : j = i - 1
    · rw [e]; exact q
    · exact lt_trans3 (t.lo j (i - 1) x (by omega) (by omega)) q
  · have q := (ahead_lt t.ah h1 (by omega) (Nat.le_refl m) (Nat.lt_succ_self m)).1 (hi (by omega))
    refine (ahead_lt t.ah (by omega) y (Nat.le_refl m) (Nat.lt_succ_self m)).2 ?_
    by_cases e : j = i
    · rw [e]; exact q
    · exact lt_trans3 q (t.lo i j h1 (by omega) y)
theorem rot_idle {p : Nat → Sp} {s m e : Nat} (h : ¬ (s < m ∧ m < e)) (h1 : s ≤ m) (h2 : m ≤ e) : rot p s m e = p := by
  funext k
  unfold rot
  repeat' split
  all_goals first | (exfalso; omega) | rfl | (congr 1; omega)
/-- where a search between f and l has come: low from f on, high up to l. -/
structure Srch (t : Nat → Prop) (f l st r : Nat) : Prop where
  h1 : f ≤ st
  h2 : st ≤ r
  h3 : r ≤ l
  low : f < st → ¬ t (st - 1)
  up : r < l → t r
theorem srch0 (t : Nat → Prop) {f l : Nat} (h : f ≤ l) : Srch t f l f l := ⟨Nat.le_refl _, h, Nat.le_refl _, fun q => by omega, fun q => by omega⟩
theorem Srch.on {t : Nat → Prop} {f l st r c : Nat} (h : Srch t f l st r) (h1 : st ≤ c) (h2 : c < r) (n : ¬ t c) : Srch t f l (c + 1) r := ⟨by have := h.h1; omega, by omega, h.h3, fun _ => by rw [Nat.add_sub_cancel]; exact n, h.up⟩
theorem Srch.back {t : Nat → Prop} {f l st r c : Nat} (h : Srch t f l st r) (h1 : st ≤ c) (h2 : c < r) (n : t c) : Srch t f l st c := ⟨h.h1, h1, by have := h.h3; omega, h.low, fun _ => n⟩
/-- the search of a joining ends at a cut. -/
theorem cut_of {p : Nat → Sp} {a m b mid f l st : Nat} (t : Two p a m b) (hm2 : m < b) (hmid : mid = (a + b) / 2) (hf : f = if mid < m then mid + m - b else a) (hl : l = if mid < m then mid else m)
    (s : Srch (fun c => (p c).li < (p (mid + m - 1 - c)).li) f l st st) : Cut p a m b st (mid + m - st) := by
  have h1 := s.h1
  have h3 := s.h3
  have hfa : a ≤ f := by rw [hf]; split <;> omega
  have hlm : l ≤ m := by rw [hl]; split <;> omega
  have hst : mid ≤ mid + m - st := by omega
  have hen : m ≤ mid + m - st := by
    rw [hl] at h3
    split at h3 <;> omega
  have heb : mid + m - st ≤ b := by
    rw [hf] at h1
    split at h1 <;> omega
  refine ⟨by omega, by omega, hen, heb, fun q1 q2 => ?_, fun q1 q2 => ?_⟩
  · have qf : f < st := by
      rw [hf] at h1 ⊢
      split at h1
      · rw [if_pos (by assumption)]; omega
      · rw [if_neg (by assumption)]; exact q1
    have := s.low qf
    rw [show mid + m - 1 - (st - 1) = mid + m - st by omega] at this
    exact (ahead_ge t.ah (by omega) (by omega) hen q2).1 this
  · have ql : st < l := by
      rw [hl] at h3 ⊢
      split at h3
      · rw [if_pos (by assumption)]; omega
      · rw [if_neg (by assumption)]; exact q1
    have := s.up ql
    rw [show mid + m - 1 - st = mid + m - st - 1 by omega] at this
    exact (ahead_lt t.ah (by omega) q1 (by omega) (by omega)).1 this
/-! parts -/
/-- in parts that are in order, each with lesser numbers than the next; Bd: where a part begins. -/
structure Blk (Bd : Nat → Prop) (p : Nat → Sp) (n : Nat) : Prop where
  ord : ∀ i j, i < j → j < n → (∀ x, i < x → x ≤ j → ¬ Bd x) → spLt (p i) (p j)
  ah : ∀ i j x, i < x → x ≤ j → j < n → Bd x → (p i).k < (p j).k
theorem Blk.congr {Bd Bd' : Nat → Prop} {p : Nat → Sp} {n : Nat} (h : Blk Bd p n) (e : ∀ x, 0 < x → x < n → (Bd' x ↔ Bd x)) : Blk Bd' p n :=
  ⟨fun i j x y z => h.ord i j x y (fun c c1 c2 q => z c c1 c2 ((e c (by omega) (by omega)).2 q)), fun i j x x1 x2 x3 q => h.ah i j x x1 x2 x3 ((e x (by omega) (by omega)).1 q)⟩
theorem Blk.two {Bd : Nat → Prop} {p : Nat → Sp} {n a m b : Nat} (h : Blk Bd p n) (hb : b ≤ n) (hm : Bd m) (h1 : ∀ x, a < x → x < m → ¬ Bd x) (h2 : ∀ x, m < x → x < b → ¬ Bd x) (hmb : m ≤ b) : Two p a m b :=
  ⟨fun i j x y z => h.ord i j y (by omega) (fun c c1 c2 => h1 c (by omega) (by omega)), fun i j x y z => h.ord i j y (by omega) (fun c c1 c2 => h2 c (by omega) (by omega)), fun i j _ y z u => h.ah i j m y z (by omega) hm⟩
theorem Blk.join {Bd : Nat → Prop} {p q : Nat → Sp} {n a b : Nat} (h : Blk Bd p n) (d : Done p q a b) (ha : a = 0 ∨ Bd a) (hb : b = n ∨ Bd b) (hbn : b ≤ n) : Blk (fun x => Bd x ∧ ¬ (a < x ∧ x < b)) q n := by
  refine ⟨fun i j hij hj no => ?_, fun i j x h1 h2 hj hx => ?_⟩
  · by_cases e : a ≤ i ∧ j < b
    · exact d.ord i j e.1 hij e.2
    · by_cases e1 : i < a ∧ a ≤ j
      · exact absurd ⟨ha.resolve_left (by omega), by omega⟩ (no a e1.1 e1.2)
      · by_cases e2 : i < b ∧ b ≤ j
        · exact absurd ⟨hb.resolve_left (by omega), by omega⟩ (no b e2.1 e2.2)
        · rw [d.re.out (show ¬ (a ≤ i ∧ i < b) by omega), d.re.out (show ¬ (a ≤ j ∧ j < b) by omega)]
          exact h.ord i j hij hj (fun x x1 x2 r => no x x1 x2 ⟨r, by omega⟩)
  · have gi : ∃ i', q i = p i' ∧ i' < x := by
      by_cases e : a ≤ i ∧ i < b
      · obtain ⟨i', r1, r2, r3⟩ := d.re.has e.1 e.2
        exact ⟨i', r3, by have := hx.2; omega⟩
      · exact ⟨i, d.re.out e, h1⟩
    have gj : ∃ j', q j = p j' ∧ x ≤ j' ∧ j' < n := by
      by_cases e : a ≤ j ∧ j < b
      · obtain ⟨j', r1, r2, r3⟩ := d.re.has e.1 e.2
        exact ⟨j', r3, by have := hx.2; omega, by omega⟩
      · exact ⟨j, d.re.out e, h2, hj⟩
    obtain ⟨i', ei, hi'⟩ := gi
    obtain ⟨j', ej, hj1, hj2⟩ := gj
    rw [ei, ej]
    exact h.ah i' j' x hi' hj1 hj2 hx.1
end Go.Proofs.YtmgnobeaacjdjajGreatDoor
namespace Go.Proofs.YtmgnobeaacjdjajGreatDoor

/-- the first k pixels have got their own numbers. -/
def Fst (L : List Bool) (k : Nat) (C : List Int) : Prop := C.length = L.length ∧ ∀ j, C.getD j 0 = if j < k ∧ litB L j = true then (j : Int) + 1 else 0
theorem fst0 (L : List Bool) : Fst L 0 (List.replicate L.length 0) := ⟨by simp, fun j => by
  rw [if_neg (by omega), List.getD_eq_getElem?_getD, List.getElem?_replicate]
  by_cases h : j < L.length
  · rw [if_pos h]; rfl
  · rw [if_neg h]; rfl⟩
theorem Fst.dark {L : List Bool} {k : Nat} {C : List Int} (h : Fst L k C) (hk : litB L k = false) : Fst L (k + 1) C := ⟨h.1, fun j => by
  rw [h.2 j]
  by_cases e : j = k
  · subst e
    rw [if_neg (by omega), if_neg (fun q => by rw [hk] at q; cases q.2)]
  · by_cases q : litB L j = true
    · by_cases s : j < k
      · rw [if_pos ⟨s, q⟩, if_pos ⟨by omega, q⟩]
      · rw [if_neg (fun t => s t.1), if_neg (fun t => s (by omega))]
    · rw [if_neg (fun t => q t.2), if_neg (fun t => q t.2)]⟩
theorem Fst.lit {L : List Bool} {k : Nat} {C : List Int} (h : Fst L k C) (hk : litB L k = true) : Fst L (k + 1) (C.set k ((k : Int) + 1)) := by
  have hl : k < C.length := by rw [h.1]; exact lit_lt hk
  refine ⟨by rw [List.length_set]; exact h.1, fun j => ?_⟩
  rw [getD_setI hl, h.2 j]
  by_cases e : k = j
  · subst e
    rw [if_pos rfl, if_pos ⟨by omega, hk⟩]
  · rw [if_neg e]
    by_cases q : litB L j = true
    · by_cases s : j < k
      · rw [if_pos ⟨s, q⟩, if_pos ⟨by omega, q⟩]
      · rw [if_neg (fun t => s t.1), if_neg (fun t => s (by omega))]
    · rw [if_neg (fun t => q t.2), if_neg (fun t => q t.2)]
theorem Fst.way {L : List Bool} {W : Nat} {C : List Int} (h : Fst L L.length C) : OnWay L W C := ⟨h.1, fun i hi => by
  rw [h.2 i, if_neg (fun q => by rw [hi] at q; cases q.2)], fun i hi => ⟨i, by rw [h.2 i, if_pos ⟨lit_lt hi, hi⟩], Nat.le_refl _, .one hi⟩⟩
/-- up to k none has a lesser number around. -/
def StillTo (L : List Bool) (W : Nat) (v : List Int) (k : Nat) : Prop := ∀ i j, i < k → litB L i = true → litB L j = true → Adj W i j → v.getD i 0 ≤ v.getD j 0
theorem still0 (L : List Bool) (W : Nat) (v : List Int) : StillTo L W v 0 := fun i _ h => by omega
theorem StillTo.all {L : List Bool} {W : Nat} {v : List Int} (h : StillTo L W v L.length) : Still L W v := fun i k hi hk a => h i k (lit_lt hi) hi hk a
theorem StillTo.dark {L : List Bool} {W k : Nat} {v : List Int} (h : StillTo L W v k) (hk : litB L k = false) : StillTo L W v (k + 1) := fun i j hi li lj a => by
  by_cases e : i = k
  · subst e; rw [hk] at li; cases li
  · exact h i j (by omega) li lj a
theorem StillTo.least {L : List Bool} {W k : Nat} {v : List Int} {m : Int} (o : OnWay L W v) (h : StillTo L W v k) (g : Least v W k m) (hm : ¬ m < v.getD k 0) : StillTo L W v (k + 1) := fun i j hi li lj a => by
  by_cases e : i = k
  · subst e
    have := g.all j (by rw [o.len]; exact lit_lt lj) a (o.pos.2 lj)
    omega
  · exact h i j (by omega) li lj a
theorem OnWay.least {L : List Bool} {W k : Nat} {v : List Int} {m : Int} (o : OnWay L W v) (hk : litB L k = true) (g : Least v W k m) (hm : m < v.getD k 0) : OnWay L W (v.set k m) ∧ 0 ≤ m := by
  rcases g.is with e | ⟨j, _, a, p, e⟩
  · omega
  · subst e
    exact ⟨o.take hk (o.pos.1 p) a hm, by omega⟩
theorem OnWay.le {L : List Bool} {W : Nat} {v : List Int} (o : OnWay L W v) (i : Nat) : 0 ≤ v.getD i 0 ∧ v.getD i 0 ≤ (i : Int) + 1 := by
  cases h : litB L i with
  | false => rw [o.dark i h]; omega
  | true => obtain ⟨j, e, l, _⟩ := o.lit i h
            rw [e]; omega
theorem OnWay.root {L : List Bool} {W : Nat} {v : List Int} (o : OnWay L W v) (s : Still L W v) {i j : Nat} (h : v.getD j 0 = (i : Int) + 1) : v.getD i 0 = (i : Int) + 1 := by
  have hj : litB L j = true := o.pos.1 (by omega)
  obtain ⟨r, e, _, f, _⟩ := still_root o s hj
  obtain rfl : r = i := by omega
  exact f
theorem rank_le (v : List Int) : ∀ n, rankV v n ≤ n
  | 0 => Nat.le_refl _
  | n + 1 => by
    have := rank_le v n
    unfold rankV
    by_cases e : v.getD n 0 = (n : Int) + 1
    · rw [if_pos e]; omega
    · rw [if_neg e]; omega
theorem rank_yes {v : List Int} {i : Nat} (h : v.getD i 0 = (i : Int) + 1) : rankV v (i + 1) = rankV v i + 1 := by
  conv => lhs; unfold rankV; rw [if_pos h]
theorem rank_no {v : List Int} {i : Nat} (h : ¬ v.getD i 0 = (i : Int) + 1) : rankV v (i + 1) = rankV v i := by
  conv => lhs; unfold rankV; rw [if_neg h, Nat.add_zero]
/-- numbered anew up to i, and i's own up to k. -/
def midV (v : List Int) (i k j : Nat) : Int := if v.getD j 0 ≤ (i : Int) then - numV2 v j else if v.getD j 0 = (i : Int) + 1 ∧ j < k then - (rankV v (i + 1) : Nat) else v.getD j 0
def Mid (v : List Int) (i k : Nat) (C : List Int) : Prop := C.length = v.length ∧ ∀ j, C.getD j 0 = midV v i k j
theorem num_nat (v : List Int) (j : Nat) : 0 ≤ numV2 v j := by
  unfold numV2
  by_cases h : v.getD j 0 = 0
  · rw [if_pos h]; omega
  · rw [if_neg h]; omega
section
variable {L : List Bool} {W : Nat} {v : List Int}
theorem mid0 (o : OnWay L W v) : Mid v 0 0 v := ⟨rfl, fun j => by
  unfold midV
  have := o.le j
  by_cases h : v.getD j 0 ≤ ((0 : Nat) : Int)
  · have e : v.getD j 0 = 0 := by omega
    rw [if_pos h]
    unfold numV2
    rw [e, if_pos rfl]
    rfl
  · rw [if_neg h, if_neg (by omega)]⟩
theorem Mid.own {i : Nat} {C : List Int} (o : OnWay L W v) (h : Mid v i 0 C) : Mid v i i C := ⟨h.1, fun j => by
  rw [h.2 j]
  have := o.le j
  unfold midV
  by_cases q : v.getD j 0 ≤ (i : Int)
  · rw [if_pos q, if_pos q]
  · rw [if_neg q, if_neg q, if_neg (by omega), if_neg (by omega)]⟩
theorem Mid.is {i k : Nat} {C : List Int} (h : Mid v i k C) : C.getD k 0 = (i : Int) + 1 ↔ v.getD k 0 = (i : Int) + 1 := by
  rw [h.2 k]
  have := num_nat v k
  unfold midV
  by_cases q : v.getD k 0 ≤ (i : Int)
  · rw [if_pos q]
    constructor <;> intro t <;> omega
  · rw [if_neg q, if_neg (by omega)]
theorem Mid.put {i k : Nat} {C : List Int} (h : Mid v i k C) (hk : k < v.length) (e : v.getD k 0 = (i : Int) + 1) : Mid v i (k + 1) (C.set k (- (rankV v (i + 1) : Nat))) := ⟨by rw [List.length_set]; exact h.1, fun j => by
  rw [getD_setI (by rw [h.1]; exact hk), h.2 j]
  unfold midV
  by_cases q : k = j
  · subst q
    rw [if_pos rfl, if_neg (by omega), if_pos ⟨e, by omega⟩]
  · rw [if_neg q]
    by_cases s : v.getD j 0 = (i : Int) + 1
    · have hs : ¬ v.getD j 0 ≤ (i : Int) := by omega
      rw [if_neg hs, if_neg hs]
      by_cases t : j < k
      · rw [if_pos ⟨s, t⟩, if_pos ⟨s, by omega⟩]
      · rw [if_neg (fun z => t z.2), if_neg (fun z => t (by omega))]
    · by_cases t : v.getD j 0 ≤ (i : Int)
      · rw [if_pos t, if_pos t]
      · rw [if_neg t, if_neg t, if_neg (fun z => s z.1), if_neg (fun z => s z.1)]⟩
theorem Mid.skip {i k : Nat} {C : List Int} (h : Mid v i k C) (e : ¬ v.getD k 0 = (i : Int) + 1) : Mid v i (k + 1) C := ⟨h.1, fun j => by
  rw [h.2 j]
  unfold midV
  by_cases s : v.getD j 0 = (i : Int) + 1
  · have hs : ¬ v.getD j 0 ≤ (i : Int) := by omega
    rw [if_neg hs, if_neg hs]
    by_cases q : j = k
    · subst q; exact absurd s e
    · by_cases t : j < k
      · rw [if_pos ⟨s, t⟩, if_pos ⟨s, by omega⟩]
      · rw [if_neg (fun z => t z.2), if_neg (fun z => t (by omega))]
  · by_cases t : v.getD j 0 ≤ (i : Int)
    · rw [if_pos t, if_pos t]
    · rw [if_neg t, if_neg t, if_neg (fun z => s z.1), if_neg (fun z => s z.1)]⟩
theorem get_lt {j : Nat} (h : v.getD j 0 ≠ 0) : j < v.length := by
  refine Decidable.byContradiction (fun q => h ?_)
  rw [List.getD_eq_getElem?_getD, List.getElem?_eq_none (by omega)]
  rfl
theorem num_at {i j : Nat} (e : v.getD j 0 = (i : Int) + 1) : numV2 v j = (rankV v (i + 1) : Nat) := by
  unfold numV2
  rw [if_neg (by omega), e]
  rfl
theorem Mid.next {i : Nat} {C : List Int} (h : Mid v i v.length C) : Mid v (i + 1) 0 C := ⟨h.1, fun j => by
  rw [h.2 j]
  unfold midV
  by_cases s : v.getD j 0 = (i : Int) + 1
  · rw [if_neg (by omega), if_pos ⟨s, get_lt (by omega)⟩, if_pos (by omega), num_at s]
  · by_cases t : v.getD j 0 ≤ (i : Int)
    · rw [if_pos t, if_pos (by omega)]
    · rw [if_neg t, if_neg (fun z => s z.1), if_neg (by omega), if_neg (fun z => by omega)]⟩
theorem Mid.none {i : Nat} {C : List Int} (o : OnWay L W v) (s : Still L W v) (h : Mid v i 0 C) (e : ¬ v.getD i 0 = (i : Int) + 1) : Mid v (i + 1) 0 C := ⟨h.1, fun j => by
  rw [h.2 j]
  have no : ¬ v.getD j 0 = (i : Int) + 1 := fun q => e (o.root s q)
  unfold midV
  by_cases t : v.getD j 0 ≤ (i : Int)
  · rw [if_pos t, if_pos (by omega)]
  · rw [if_neg t, if_neg (fun z => no z.1), if_neg (by omega), if_neg (fun z => by omega)]⟩
/-- turned up to i. -/
def NegTo (v : List Int) (i : Nat) (C : List Int) : Prop := C.length = v.length ∧ ∀ j, C.getD j 0 = if j < i then numV2 v j else - numV2 v j
theorem Mid.neg {C : List Int} (o : OnWay L W v) (h : Mid v v.length 0 C) : NegTo v 0 C := ⟨h.1, fun j => by
  rw [h.2 j, if_neg (by omega)]
  unfold midV
  have := o.le j
  by_cases q : v.getD j 0 = 0
  · rw [if_pos (by omega)]
  · have := get_lt q
    rw [if_pos (by omega)]⟩
theorem NegTo.put {i : Nat} {C : List Int} (h : NegTo v i C) (hi : i < v.length) : NegTo v (i + 1) (C.set i (numV2 v i)) ∧ C.getD i 0 = - numV2 v i := ⟨⟨by rw [List.length_set]; exact h.1, fun j => by
  rw [getD_setI (by rw [h.1]; exact hi), h.2 j]
  by_cases q : i = j
  · subst q
    rw [if_pos rfl, if_pos (by omega)]
  · rw [if_neg q]
    by_cases t : j < i
    · rw [if_pos t, if_pos (by omega)]
    · rw [if_neg t, if_neg (by omega)]⟩, by rw [h.2 i, if_neg (by omega)]⟩
theorem NegTo.done {C : List Int} (h : NegTo v v.length C) : C = labV v := by
  have hl : (labV v).length = v.length := by unfold labV; rw [List.length_map, List.length_range]
  refine List.ext_getElem (by rw [h.1, hl]) (fun i h1 h2 => ?_)
  have e := h.2 i
  have f := lab_at (v := v) (i := i) (by rw [← h.1]; exact h1)
  rw [if_pos (by rw [← h.1]; exact h1), ← f] at e
  simpa [List.getD, List.getElem?_eq_getElem h1, List.getElem?_eq_getElem h2] using e
theorem num_le {j : Nat} (o : OnWay L W v) : numV2 v j ≤ (v.length : Nat) := by
  unfold numV2
  by_cases q : v.getD j 0 = 0
  · rw [if_pos q]; omega
  · rw [if_neg q]
    have h1 := rank_le v (v.getD j 0).toNat
    have h2 := o.le j
    have h3 := get_lt q
    omega
end
end Go.Proofs.YtmgnobeaacjdjajGreatDoor
