/-
  The ground of a picture's tiles, and what lies above it. Nothing of the program.
-/
import Derived.Test.YtgmaganajfcpbaiDoorFrP
namespace Go.Proofs.YtgmaganajfcpbaiDoor

/-- a number of tiles that is enough. -/
def cdiv (n t : Nat) : Nat := (n + t - 1) / t
theorem cdiv_lt {n t a : Nat} (ht : 1 ≤ t) : a < cdiv n t ↔ a * t < n := by
  unfold cdiv
  rw [Nat.lt_div_iff_mul_lt (by omega)]
  omega
theorem cdiv_in {n t i : Nat} (ht : 1 ≤ t) (h : i < n) : i / t < cdiv n t := (cdiv_lt ht).2 (Nat.lt_of_le_of_lt (Nat.div_mul_le_self i t) h)
/-- so many counts of a row. -/
def segL (p : Pic) (v x n : Nat) : List Int := (List.range n).map fun d => p.L.getD (v * p.wide.toNat + (x + d)) 0
theorem seg_next (p : Pic) (v x n : Nat) : segL p v x (n + 1) = segL p v x n ++ [p.L.getD (v * p.wide.toNat + (x + n)) 0] := by
  unfold segL
  rw [List.range_succ, List.map_append]
  rfl
theorem seg_len (p : Pic) (v x n : Nat) : (segL p v x n).length = n := by unfold segL; rw [List.length_map, List.length_range]
/-- so many rows of so many counts. -/
def boxL (p : Pic) (y x n m : Nat) : List Int := ((List.range m).map fun d => segL p (y + d) x n).flatten
theorem box_next (p : Pic) (y x n m : Nat) : boxL p y x n (m + 1) = boxL p y x n m ++ segL p (y + m) x n := by
  unfold boxL
  rw [List.range_succ, List.map_append, List.flatten_append]
  simp
theorem box_len (p : Pic) (y x n : Nat) : ∀ m, (boxL p y x n m).length = m * n
  | 0 => by unfold boxL; simp
  | m + 1 => by rw [box_next, List.length_append, box_len p y x n m, seg_len, Nat.succ_mul]
def tileL (p : Pic) (t y x : Nat) : List Int := boxL p y x (min t (p.wide.toNat - x)) (min t (p.high.toNat - y))
theorem tile_pos {p : Pic} {t y x : Nat} (ht : 1 ≤ t) (hx : x < p.wide.toNat) (hy : y < p.high.toNat) : 0 < (tileL p t y x).length := by
  unfold tileL
  rw [box_len]
  exact Nat.mul_pos (by omega) (by omega)
/-- one row of tiles. -/
def gRow (p : Pic) (t a n : Nat) : List Int := (List.range n).map fun b => medV (tileL p t (a * t) (b * t))
theorem gRow_next (p : Pic) (t a n : Nat) : gRow p t a (n + 1) = gRow p t a n ++ [medV (tileL p t (a * t) (n * t))] := by
  unfold gRow
  rw [List.range_succ, List.map_append]
  rfl
theorem gRow_len (p : Pic) (t a n : Nat) : (gRow p t a n).length = n := by unfold gRow; rw [List.length_map, List.length_range]
def gRows (p : Pic) (t n m : Nat) : List Int := ((List.range m).map fun a => gRow p t a n).flatten
theorem gRows_next (p : Pic) (t n m : Nat) : gRows p t n (m + 1) = gRows p t n m ++ gRow p t m n := by
  unfold gRows
  rw [List.range_succ, List.map_append, List.flatten_append]
  simp
theorem gRows_len (p : Pic) (t n : Nat) : ∀ m, (gRows p t n m).length = m * n
  | 0 => by unfold gRows; simp
  | m + 1 => by rw [gRows_next, List.length_append, gRows_len p t n m, gRow_len, Nat.succ_mul]
def groundV (p : Pic) (t : Nat) : List Int := gRows p t (cdiv p.wide.toNat t) (cdiv p.high.toNat t)
theorem gRows_at (p : Pic) (t n : Nat) {a b : Nat} (hb : b < n) : ∀ {m : Nat}, a < m → (gRows p t n m).getD (a * n + b) 0 = medV (tileL p t (a * t) (b * t))
  | 0, h => absurd h (Nat.not_lt_zero _)
  | m + 1, h => by
    rw [gRows_next]
    by_cases e : a < m
    · have hl : a * n + b < (gRows p t n m).length := by
        rw [gRows_len]
        have := Nat.mul_le_mul_right n (show a + 1 ≤ m by omega)
        rw [Nat.succ_mul] at this
        omega
      rw [List.getD_eq_getElem?_getD, List.getElem?_append_left hl, ← List.getD_eq_getElem?_getD]
      exact gRows_at p t n hb e
    · obtain rfl : a = m := by omega
      rw [List.getD_eq_getElem?_getD, List.getElem?_append_right (by rw [gRows_len]; omega), gRows_len, Nat.add_sub_cancel_left]
      unfold gRow
      rw [List.getElem?_map, List.getElem?_range hb]
      rfl
theorem ground_at {p : Pic} {t a b : Nat} (ha : a < cdiv p.high.toNat t) (hb : b < cdiv p.wide.toNat t) : (groundV p t).getD (a * cdiv p.wide.toNat t + b) 0 = medV (tileL p t (a * t) (b * t)) := gRows_at p t _ hb ha
def groundE (p : Pic) (t : Int) : Int := if picE p ≠ 0 then picE p else if t < 1 ∨ 256 < t then 5 else 0
/-- a pixel's tile's ground. -/
def gAt (p : Pic) (t i : Nat) : Int := (groundV p t).getD (i / p.wide.toNat / t * cdiv p.wide.toNat t + i % p.wide.toNat / t) 0
def overV (p : Pic) (t : Nat) : List Int := (List.range (p.high.toNat * p.wide.toNat)).map fun i => p.L.getD i 0 - gAt p t i
theorem over_len (p : Pic) (t : Nat) : (overV p t).length = p.high.toNat * p.wide.toNat := by unfold overV; rw [List.length_map, List.length_range]
theorem over_at {p : Pic} {t i : Nat} (h : i < p.high.toNat * p.wide.toNat) : (overV p t).getD i 0 = p.L.getD i 0 - gAt p t i := by
  unfold overV
  simp [List.getD, h]
def litE (p : Pic) (t o : Int) : Int := if groundE p t ≠ 0 then groundE p t else if o < 0 then 5 else 0
def litV (p : Pic) (t : Nat) (o : Int) : List Bool := (overV p t).map fun n => decide (o < n)
/-- a count that is met, as the median of counts. -/
theorem tile_count {p : Pic} (h : PicOk p) {t y x : Nat} (hx : x < p.wide.toNat) (hy : y < p.high.toNat) : ∀ z ∈ tileL p t y x, 0 ≤ z ∧ z ≤ 65535 := by
  intro z hz
  unfold tileL boxL at hz
  obtain ⟨l, hl, hz⟩ := List.mem_flatten.1 hz
  obtain ⟨d, hd, rfl⟩ := List.mem_map.1 hl
  unfold segL at hz
  obtain ⟨e, he, rfl⟩ := List.mem_map.1 hz
  rw [List.mem_range] at hd he
  refine h.each _ ?_
  have hlen := h.len
  have hw : ((p.wide.toNat : Nat) : Int) = p.wide := Int.toNat_of_nonneg (by have := h.w1; omega)
  have hh : ((p.high.toNat : Nat) : Int) = p.high := Int.toNat_of_nonneg (by have := h.h1; omega)
  have hn : p.L.length = p.wide.toNat * p.high.toNat := by
    have : ((p.wide.toNat * p.high.toNat : Nat) : Int) = p.wide * p.high := by rw [Int.natCast_mul, hw, hh]
    omega
  rw [hn]
  have h1 := Nat.mul_le_mul_left p.wide.toNat (show y + d + 1 ≤ p.high.toNat by omega)
  have h2 : p.wide.toNat * (y + d + 1) = (y + d) * p.wide.toNat + p.wide.toNat := by rw [Nat.mul_succ, Nat.mul_comm]
  omega
end Go.Proofs.YtgmaganajfcpbaiDoor
