/-
  Directions and cells of a level. Nothing of the program.
-/
import Derived.Test.YtkdmeclbnnjdgalDoorKitA
namespace Go.Proofs.YtkdmeclbnnjdgalDoor
open Go Go.RowKit

/-- three whole numbers of a direction. -/
structure Dr where
  x : Int
  y : Int
  z : Int
def Dr.val (p : Dr) : Value := .agg #[.int .i64 p.x, .int .i64 p.y, .int .i64 p.z]
def dr0 : Dr := ⟨0, 0, 0⟩
def dtV (d e : Dr) : Int := d.x * e.x + d.y * e.y + d.z * e.z
/-- a number's size. -/
def szV (n : Int) : Int := if n < 0 then -n else n
def dirB (d : Dr) : Bool := decide (-1048576 ≤ d.x ∧ d.x ≤ 1048576 ∧ -1048576 ≤ d.y ∧ d.y ≤ 1048576 ∧ -1048576 ≤ d.z ∧ d.z ≤ 1048576 ∧ (d.x ≠ 0 ∨ d.y ≠ 0 ∨ d.z ≠ 0))
theorem dir_is {d : Dr} (h : dirB d = true) : -1048576 ≤ d.x ∧ d.x ≤ 1048576 ∧ -1048576 ≤ d.y ∧ d.y ≤ 1048576 ∧ -1048576 ≤ d.z ∧ d.z ≤ 1048576 ∧ (d.x ≠ 0 ∨ d.y ≠ 0 ∨ d.z ≠ 0) := of_decide_eq_true h
/-- which axis is greatest in size. -/
def axV (d : Dr) : Nat := if szV d.x < szV d.y then (if szV d.y < szV d.z then 2 else 1) else if szV d.x < szV d.z then 2 else 0
def atV (d : Dr) (a : Nat) : Int := if a = 0 then d.x else if a = 1 then d.y else d.z
def uV (d : Dr) : Int := if axV d = 0 then d.y else d.x
def vV (d : Dr) : Int := if axV d = 2 then d.y else d.z
def mV (d : Dr) : Int := szV (atV d (axV d))
def faV (d : Dr) : Int := if atV d (axV d) < 0 then 2 * (axV d : Int) + 1 else 2 * (axV d : Int)
theorem axV_lt (d : Dr) : axV d < 3 := by
  unfold axV
  by_cases q1 : szV d.x < szV d.y <;> by_cases q2 : szV d.y < szV d.z <;> by_cases q3 : szV d.x < szV d.z <;> simp [q1, q2, q3]
theorem sz_is (n : Int) : n ≤ szV n ∧ -n ≤ szV n ∧ (szV n = n ∨ szV n = -n) := by
  unfold szV
  split <;> omega
theorem dir_m {d : Dr} (h : dirB d = true) : 1 ≤ mV d ∧ mV d ≤ 1048576 ∧ -mV d ≤ uV d ∧ uV d ≤ mV d ∧ -mV d ≤ vV d ∧ vV d ≤ mV d := by
  have q := dir_is h
  have hx := sz_is d.x
  have hy := sz_is d.y
  have hz := sz_is d.z
  by_cases q1 : szV d.x < szV d.y
  · by_cases q2 : szV d.y < szV d.z
    · have e : axV d = 2 := by unfold axV; rw [if_pos q1, if_pos q2]
      have e1 : mV d = szV d.z := by unfold mV atV; rw [e]; rfl
      have e2 : uV d = d.x := by unfold uV; rw [e]; rfl
      have e3 : vV d = d.y := by unfold vV; rw [e]; rfl
      rw [e1, e2, e3]
      omega
    · have e : axV d = 1 := by unfold axV; rw [if_pos q1, if_neg q2]
      have e1 : mV d = szV d.y := by unfold mV atV; rw [e]; rfl
      have e2 : uV d = d.x := by unfold uV; rw [e]; rfl
      have e3 : vV d = d.z := by unfold vV; rw [e]; rfl
      rw [e1, e2, e3]
      omega
  · by_cases q2 : szV d.x < szV d.z
    · have e : axV d = 2 := by unfold axV; rw [if_neg q1, if_pos q2]
      have e1 : mV d = szV d.z := by unfold mV atV; rw [e]; rfl
      have e2 : uV d = d.x := by unfold uV; rw [e]; rfl
      have e3 : vV d = d.y := by unfold vV; rw [e]; rfl
      rw [e1, e2, e3]
      omega
    · have e : axV d = 0 := by unfold axV; rw [if_neg q1, if_neg q2]
      have e1 : mV d = szV d.x := by unfold mV atV; rw [e]; rfl
      have e2 : uV d = d.y := by unfold uV; rw [e]; rfl
      have e3 : vV d = d.z := by unfold vV; rw [e]; rfl
      rw [e1, e2, e3]
      omega
/-- column or row: half by half. -/
structure StI (u m : Int) (i : Nat) (c : Int) : Prop where
  lo : 0 ≤ c
  hi : c < 2 ^ i
  le : c * (2 * m) ≤ (u + m) * 2 ^ i
  lt : (u + m) * 2 ^ i < (c + 1) * (2 * m) ∨ c = 2 ^ i - 1
theorem StI.start {u m : Int} (h1 : -m ≤ u) : StI u m 0 0 := ⟨by omega, by simp, by simp; omega, .inr (by simp)⟩
theorem StI.up {u m : Int} {i : Nat} {c : Int} (h : StI u m i c) (_hm : 1 ≤ m) (hq : (2 * c + 1) * (2 * m) ≤ (u + m) * 2 ^ (i + 1)) : StI u m (i + 1) (2 * c + 1) := by
  have e : (2 : Int) ^ (i + 1) = 2 * 2 ^ i := by rw [Int.pow_succ, Int.mul_comm]
  have h1 := h.lo
  have h2 := h.hi
  refine ⟨by omega, by omega, hq, ?_⟩
  rcases h.lt with q | q
  · left
    have a1 : (2 * c + 1 + 1) * (2 * m) = 2 * ((c + 1) * (2 * m)) := by rw [show 2 * c + 1 + 1 = 2 * (c + 1) by omega, Int.mul_assoc]
    have a2 : (u + m) * 2 ^ (i + 1) = 2 * ((u + m) * 2 ^ i) := by rw [e, Int.mul_left_comm]
    rw [a1, a2]
    omega
  · right
    omega
theorem StI.dn {u m : Int} {i : Nat} {c : Int} (h : StI u m i c) (hq : (u + m) * 2 ^ (i + 1) < (2 * c + 1) * (2 * m)) : StI u m (i + 1) (2 * c) := by
  have e : (2 : Int) ^ (i + 1) = 2 * 2 ^ i := by rw [Int.pow_succ, Int.mul_comm]
  have h1 := h.lo
  have h2 := h.hi
  refine ⟨by omega, by omega, ?_, .inl hq⟩
  have a2 : (u + m) * 2 ^ (i + 1) = 2 * ((u + m) * 2 ^ i) := by rw [e, Int.mul_left_comm]
  have a3 : 2 * c * (2 * m) = 2 * (c * (2 * m)) := Int.mul_assoc 2 c (2 * m)
  have h3 := h.le
  rw [a2, a3]
  omega
/-- (u + m) * 2^l over 2 * m, rounded down, but at most 2^l - 1. -/
def colV (u m : Int) (l : Nat) : Int := if (u + m) * 2 ^ l / (2 * m) < 2 ^ l then (u + m) * 2 ^ l / (2 * m) else 2 ^ l - 1
theorem StI.one {u m : Int} {l : Nat} {c : Int} (h : StI u m l c) (hm : 1 ≤ m) : c = colV u m l := by
  have p : (0 : Int) < 2 * m := by omega
  have h1 : c ≤ (u + m) * 2 ^ l / (2 * m) := (Int.le_ediv_iff_mul_le p).2 h.le
  have h2 := h.hi
  unfold colV
  rcases h.lt with q | q
  · have h3 : (u + m) * 2 ^ l / (2 * m) < c + 1 := (Int.ediv_lt_iff_lt_mul p).2 q
    rw [if_pos (by omega)]
    omega
  · split
    · omega
    · exact q
/-- a cell of a level. -/
structure Sq where
  f : Int
  l : Int
  c : Int
  r : Int
def Sq.val (s : Sq) : Value := .agg #[.int .i64 s.f, .int .i64 s.l, .int .i64 s.c, .int .i64 s.r]
def i64B (x : Int) : Prop := -9223372036854775808 ≤ x ∧ x ≤ 9223372036854775807
structure SqOk (s : Sq) : Prop where
  f : i64B s.f
  l : i64B s.l
  c : i64B s.c
  r : i64B s.r
/-- the cell of a direction. -/
def sqV (d : Dr) (l : Nat) : Sq := ⟨faV d, l, colV (uV d) (mV d) l, colV (vV d) (mV d) l⟩
def sqE (d : Dr) (l : Int) : Int := if dirB d = false then 5 else if l < 0 ∨ 12 < l then 2 else 0
def sqA (d : Dr) (l : Int) : Sq := if sqE d l = 0 then sqV d l.toNat else ⟨0, 0, 0, 0⟩
end Go.Proofs.YtkdmeclbnnjdgalDoor
