/-
  Angles' texts as lists of bytes. No program here.
-/
import Derived.Test.YtfifbcoedfdnjabDoorShelf
import Derived.Lib.ItoaNum
import Derived.Lib.ItoaMem
import Derived.Lib.Repeat
namespace Go.Proofs.YtfifbcoedfdnjabDoor
open Go.Lib

/-- A digit's byte. -/
def dig (n : Nat) : UInt8 := UInt8.ofNat (48 + n % 10)
/-- So many digits. -/
def wide : Nat → Nat → List UInt8
  | 0, _ => []
  | m + 1, n => wide m (n / 10) ++ [dig n]

theorem wide_length (m : Nat) : ∀ n, (wide m n).length = m := by
  induction m with
  | zero => intro n; rfl
  | succ m ih => intro n; simp [wide, ih]
theorem wide_zero (m : Nat) : wide m 0 = List.replicate m 48 := by
  induction m with
  | zero => rfl
  | succ m ih => rw [wide, Nat.zero_div, ih, List.replicate_succ']; rfl
theorem wide_cons (m : Nat) : ∀ n, wide (m + 1) n = dig (n / 10 ^ m) :: wide m n := by
  induction m with
  | zero => intro n; simp [wide]
  | succ m ih =>
    intro n
    rw [wide, ih (n / 10), wide, List.cons_append, Nat.div_div_eq_div_mul, Nat.pow_succ, Nat.mul_comm 10]
theorem dec_length_le (m : Nat) : ∀ n, n < 10 ^ (m + 1) → (decDigits n).length ≤ m + 1 := by
  induction m with
  | zero => intro n h; rw [decDigits_one (by simpa using h)]; simp
  | succ m ih =>
    intro n h
    rcases (show n < 10 ∨ ¬ n < 10 by omega) with h' | h'
    · rw [decDigits_one h']; simp
    · rw [decDigits, dif_neg h', List.length_append]
      have := ih (n / 10) (by rw [Nat.pow_succ] at h; omega)
      simp; omega
theorem wide_dec (m : Nat) : ∀ n, n < 10 ^ (m + 1) → List.replicate (m + 1 - (decDigits n).length) 48 ++ decDigits n = wide (m + 1) n := by
  induction m with
  | zero =>
    intro n h
    have h' : n < 10 := by simpa using h
    rw [decDigits_one h']
    simp [wide, dig, Nat.mod_eq_of_lt h']
  | succ m ih =>
    intro n h
    rcases (show n < 10 ∨ ¬ n < 10 by omega) with h' | h'
    · rw [decDigits_one h', wide, Nat.div_eq_of_lt h', wide_zero]
      simp [dig, Nat.mod_eq_of_lt h']
    · have hn : n / 10 < 10 ^ (m + 1) := by rw [Nat.pow_succ] at h; omega
      have hl := dec_length_le m _ hn
      rw [decDigits, dif_neg h', wide, ← ih _ hn, List.length_append]
      simp only [List.length_cons, List.length_nil, ← List.append_assoc]
      rw [show m + 1 + 1 - ((decDigits (n / 10)).length + 1) = m + 1 - (decDigits (n / 10)).length by omega]
      rfl

/-- minutes, seconds and what is below of a number of microseconds, behind a whole one. -/
def sixL (n : Nat) (m s : List UInt8) : List UInt8 := wide 2 (n / 60000000 % 60) ++ m ++ wide 2 (n / 1000000 % 60) ++ [46] ++ wide 6 (n % 1000000) ++ s
def degL (a : Int) : List UInt8 := (if a < 0 then [45] else []) ++ decDigits (a.natAbs / 3600000000) ++ [194, 176] ++ sixL a.natAbs [226, 128, 178] [226, 128, 179]
/-- microseconds of time of an angle. -/
def hrs (a : Int) : Nat := ((a % 1296000000000).toNat + 7) / 15 % 86400000000
def hrsL (a : Int) : List UInt8 := wide 2 (hrs a / 3600000000) ++ [104] ++ sixL (hrs a) [109] [115]
end Go.Proofs.YtfifbcoedfdnjabDoor
