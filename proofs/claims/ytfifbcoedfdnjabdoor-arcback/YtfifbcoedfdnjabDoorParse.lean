/-
  Angles' texts as lists of runes: what is read of them. No program here.
-/
import Derived.Test.YtfifbcoedfdnjabDoorProg
namespace Go.Proofs.YtfifbcoedfdnjabDoor

/-- Digits from the list's head on, at most so many, behind a number: the number, how many, what is left. -/
def digs : Nat → Int → List Int → Int × Nat × List Int
  | 0, n, L => (n, 0, L)
  | _ + 1, n, [] => (n, 0, [])
  | m + 1, n, x :: L => if 48 ≤ x ∧ x ≤ 57 then ((digs m (n * 10 + (x - 48)) L).1, (digs m (n * 10 + (x - 48)) L).2.1 + 1, (digs m (n * 10 + (x - 48)) L).2.2) else (n, 0, x :: L)

/-- What is read: a value and the state behind it; or where it is wrong. -/
inductive Got where
  | bad (p : Nat)
  | got (n : Int) (L : List Int) (k : Nat)

def numP (many : Nat) (L : List Int) (k : Nat) : Got :=
  if (digs many 0 L).2.1 = 0 then .bad k else .got (digs many 0 L).1 (digs many 0 L).2.2 (k + (digs many 0 L).2.1)

def digP (L : List Int) (k : Nat) : Got :=
  match L with
  | [] => .bad k
  | x :: M => if 48 ≤ x ∧ x ≤ 57 then .got (x - 48) M (k + 1) else .bad k

def upTo (bound : Int) (n : Int) (first : Nat) (L : List Int) (k : Nat) : Got := if bound < n then .bad first else .got n L k

def twoP (L : List Int) (k : Nat) : Got :=
  match digP L k with
  | .bad p => .bad p
  | .got a M j => match digP M j with
    | .bad p => .bad p
    | .got b M' j' => upTo 59 (a * 10 + b) k M' j'

def needP (c : Int) (L : List Int) (k : Nat) : Got :=
  match L with
  | [] => .bad k
  | x :: M => if x = c then .got 0 M (k + 1) else .bad k

/-- so many digits were read of six. -/
def pad (n : Int) (k : Nat) : Int := n * 10 ^ (6 - k)

def micP (L : List Int) (k : Nat) : Got :=
  match numP 6 L k with
  | .bad p => .bad p
  | .got n M j => .got (pad n (j - k)) M j

def pointP (L : List Int) (k : Nat) : Got :=
  match L with
  | [] => .got 0 [] k
  | x :: M => if x = 46 then micP M (k + 1) else .got 0 (x :: M) k

def endP (n : Int) (L : List Int) (k : Nat) : Got :=
  match L with
  | [] => .got n [] k
  | _ :: _ => .bad k

/-- seconds, up to the end. -/
def secP (s : Int) (L : List Int) (k : Nat) : Got :=
  match twoP L k with
  | .bad p => .bad p
  | .got b M j => match pointP M j with
    | .bad p => .bad p
    | .got c M' j' => match needP s M' j' with
      | .bad p => .bad p
      | .got _ M'' j'' => endP (b * 1000000 + c) M'' j''

/-- minutes and seconds, up to the end. -/
def sixP (m s : Int) (L : List Int) (k : Nat) : Got :=
  match L with
  | [] => .got 0 [] k
  | _ :: _ => match twoP L k with
    | .bad p => .bad p
    | .got a M j => match needP m M j with
      | .bad p => .bad p
      | .got _ M' j' => match M' with
        | [] => .got (a * 60000000) [] j'
        | _ :: _ => match secP s M' j' with
          | .bad p => .bad p
          | .got b M'' j'' => .got (a * 60000000 + b) M'' j''

/-- degrees behind a sign. -/
def degP (minus : Bool) (L : List Int) (k : Nat) : Got :=
  match numP 6 L k with
  | .bad p => .bad p
  | .got d M j => match needP 176 M j with
    | .bad p => .bad p
    | .got _ M' j' => match sixP 8242 8243 M' j' with
      | .bad p => .bad p
      | .got b M'' j'' => .got (if minus then -(d * 3600000000 + b) else d * 3600000000 + b) M'' j''

def degreesP (L : List Int) : Got :=
  match L with
  | [] => degP false [] 0
  | x :: M => if x = 45 then degP true M 1 else if x = 43 then degP false M 1 else degP false (x :: M) 0

def hoursP (L : List Int) : Got :=
  match numP 2 L 0 with
  | .bad p => .bad p
  | .got h M j => if 23 < h then .bad 0 else match needP 104 M j with
    | .bad p => .bad p
    | .got _ M' j' => match sixP 109 115 M' j' with
      | .bad p => .bad p
      | .got b M'' j'' => .got ((h * 3600000000 + b) * 15) M'' j''

/-! bounds -/
theorem digs_le (m : Nat) : ∀ (n : Int) (L : List Int), (digs m n L).2.1 ≤ m := by
  induction m with
  | zero => intro n L; simp [digs]
  | succ m ih =>
    intro n L
    cases L with
    | nil => simp [digs]
    | cons x L =>
      simp only [digs]
      split
      · have := ih (n * 10 + (x - 48)) L; simp only; omega
      · simp
theorem digs_bound (m : Nat) : ∀ (n : Int) (L : List Int) (b : Int), 0 ≤ n → n < b → 0 ≤ (digs m n L).1 ∧ (digs m n L).1 < b * 10 ^ (digs m n L).2.1 := by
  induction m with
  | zero => intro n L b h1 h2; simp [digs]; omega
  | succ m ih =>
    intro n L b h1 h2
    cases L with
    | nil => simp [digs]; omega
    | cons x L =>
      simp only [digs]
      split
      · have := ih (n * 10 + (x - 48)) L (b * 10) (by omega) (by omega)
        simp only
        refine ⟨this.1, ?_⟩
        rw [Int.pow_succ, ← Int.mul_assoc, Int.mul_right_comm]
        exact this.2
      · simp; omega
end Go.Proofs.YtfifbcoedfdnjabDoor
