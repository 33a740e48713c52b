/-
  How two pictures go together at a move; the best move. Nothing of the program.
-/
import Derived.Test.YtngdemhhcablmalDoorFrP
namespace Go.Proofs.YtngdemhhcablmalDoor

/-- a pixel's part: its count times the other picture's count so far from there, if there is one. -/
def tgT (A B : List Int) (W H V U : Nat) (dx dy : Int) (y x : Nat) : Int :=
  if x < W ∧ y < H ∧ 0 ≤ (x : Int) + dx ∧ (x : Int) + dx < (V : Int) ∧ 0 ≤ (y : Int) + dy ∧ (y : Int) + dy < (U : Int) then A.getD (y * W + x) 0 * B.getD (((y : Int) + dy).toNat * V + ((x : Int) + dx).toNat) 0 else 0
/-- the first k pixels of a row. -/
def tgR (A B : List Int) (W H V U : Nat) (dx dy : Int) (y : Nat) : Nat → Int
  | 0 => 0
  | x + 1 => tgR A B W H V U dx dy y x + tgT A B W H V U dx dy y x
/-- the first k rows. -/
def tgC (A B : List Int) (W H V U : Nat) (dx dy : Int) : Nat → Int
  | 0 => 0
  | y + 1 => tgC A B W H V U dx dy y + tgR A B W H V U dx dy y W
def tgV (A B : List Int) (W H V U : Nat) (dx dy : Int) : Int := tgC A B W H V U dx dy H
section
variable {A B : List Int} {W H V U : Nat} {dx dy : Int}
theorem tgR_zero {y : Nat} : ∀ {m : Nat}, (∀ x, x < m → tgT A B W H V U dx dy y x = 0) → tgR A B W H V U dx dy y m = 0
  | 0, _ => rfl
  | m + 1, h => by
    unfold tgR
    rw [tgR_zero (fun x hx => h x (by omega)), h m (by omega)]
    rfl
theorem tgR_more {y m : Nat} : ∀ {k : Nat}, (∀ x, m ≤ x → tgT A B W H V U dx dy y x = 0) → tgR A B W H V U dx dy y (m + k) = tgR A B W H V U dx dy y m
  | 0, _ => rfl
  | k + 1, h => by
    show tgR A B W H V U dx dy y (m + k) + tgT A B W H V U dx dy y (m + k) = _
    rw [tgR_more h, h (m + k) (by omega), Int.add_zero]
theorem tgR_ends {y m n k : Nat} (h : ∀ x, k ≤ x → tgT A B W H V U dx dy y x = 0) (h1 : k ≤ m) (h2 : k ≤ n) : tgR A B W H V U dx dy y m = tgR A B W H V U dx dy y n := by
  obtain ⟨i, rfl⟩ : ∃ i, m = k + i := ⟨m - k, by omega⟩
  obtain ⟨j, rfl⟩ : ∃ j, n = k + j := ⟨n - k, by omega⟩
  rw [tgR_more h, tgR_more h]
theorem tgC_zero : ∀ {m : Nat}, (∀ y, y < m → tgR A B W H V U dx dy y W = 0) → tgC A B W H V U dx dy m = 0
  | 0, _ => rfl
  | m + 1, h => by
    unfold tgC
    rw [tgC_zero (fun x hx => h x (by omega)), h m (by omega)]
    rfl
theorem tgC_more {m : Nat} : ∀ {k : Nat}, (∀ y, m ≤ y → tgR A B W H V U dx dy y W = 0) → tgC A B W H V U dx dy (m + k) = tgC A B W H V U dx dy m
  | 0, _ => rfl
  | k + 1, h => by
    show tgC A B W H V U dx dy (m + k) + tgR A B W H V U dx dy (m + k) W = _
    rw [tgC_more h, h (m + k) (by omega), Int.add_zero]
theorem tgC_ends {m n k : Nat} (h : ∀ y, k ≤ y → tgR A B W H V U dx dy y W = 0) (h1 : k ≤ m) (h2 : k ≤ n) : tgC A B W H V U dx dy m = tgC A B W H V U dx dy n := by
  obtain ⟨i, rfl⟩ : ∃ i, m = k + i := ⟨m - k, by omega⟩
  obtain ⟨j, rfl⟩ : ∃ j, n = k + j := ⟨n - k, by omega⟩
  rw [tgC_more h, tgC_more h]
/-- a row that starts where there are both, and ends there. -/
theorem tgR_first {y m : Nat} (h : (m : Int) ≤ 0 ∨ (m : Int) ≤ -dx) : tgR A B W H V U dx dy y m = 0 := tgR_zero (fun x hx => if_neg (fun q => by omega))
theorem tgR_last {y m : Nat} (h : (W : Int) ≤ (m : Int) ∨ (V : Int) - dx ≤ (m : Int)) : tgR A B W H V U dx dy y m = tgR A B W H V U dx dy y W := by
  rcases Nat.lt_or_ge m W with q | q
  · exact tgR_ends (k := m) (fun x hx => if_neg (fun r => by omega)) (Nat.le_refl _) (by omega)
  · exact tgR_ends (k := W) (fun x hx => if_neg (fun r => by omega)) q (Nat.le_refl _)
theorem tgC_first {m : Nat} (h : (m : Int) ≤ 0 ∨ (m : Int) ≤ -dy) : tgC A B W H V U dx dy m = 0 := tgC_zero (fun y hy => tgR_zero (fun x _ => if_neg (fun q => by omega)))
theorem tgC_last {m : Nat} (h : (H : Int) ≤ (m : Int) ∨ (U : Int) - dy ≤ (m : Int)) : tgC A B W H V U dx dy m = tgV A B W H V U dx dy := by
  unfold tgV
  rcases Nat.lt_or_ge m H with q | q
  · exact tgC_ends (k := m) (fun y hy => tgR_zero (fun x _ => if_neg (fun r => by omega))) (Nat.le_refl _) (by omega)
  · exact tgC_ends (k := H) (fun y hy => tgR_zero (fun x _ => if_neg (fun r => by omega))) q (Nat.le_refl _)
theorem mul_16 {x y : Int} (h1 : 0 ≤ x ∧ x ≤ 65535) (h2 : 0 ≤ y ∧ y ≤ 65535) : 0 ≤ x * y ∧ x * y ≤ 4294836225 :=
  ⟨Int.mul_nonneg h1.1 h2.1, by have := Int.mul_le_mul h1.2 h2.2 h2.1 (by omega : (0 : Int) ≤ 65535); omega⟩
theorem tgT_range (hA : ∀ k, 0 ≤ A.getD k 0 ∧ A.getD k 0 ≤ 65535) (hB : ∀ k, 0 ≤ B.getD k 0 ∧ B.getD k 0 ≤ 65535) (y x : Nat) : 0 ≤ tgT A B W H V U dx dy y x ∧ tgT A B W H V U dx dy y x ≤ 4294836225 := by
  unfold tgT
  split
  · exact mul_16 (hA _) (hB _)
  · exact ⟨by decide, by decide⟩
theorem tgR_range (hA : ∀ k, 0 ≤ A.getD k 0 ∧ A.getD k 0 ≤ 65535) (hB : ∀ k, 0 ≤ B.getD k 0 ∧ B.getD k 0 ≤ 65535) (y : Nat) : ∀ x : Nat, 0 ≤ tgR A B W H V U dx dy y x ∧ tgR A B W H V U dx dy y x ≤ 4294836225 * (x : Int)
  | 0 => ⟨Int.le_refl _, by simp [tgR]⟩
  | x + 1 => by
    have h1 := tgR_range hA hB y x
    have h2 := tgT_range (W := W) (H := H) (V := V) (U := U) (dx := dx) (dy := dy) hA hB y x
    unfold tgR
    omega
theorem tgC_range (hA : ∀ k, 0 ≤ A.getD k 0 ∧ A.getD k 0 ≤ 65535) (hB : ∀ k, 0 ≤ B.getD k 0 ∧ B.getD k 0 ≤ 65535) (hW : W ≤ 256) : ∀ y : Nat, 0 ≤ tgC A B W H V U dx dy y ∧ tgC A B W H V U dx dy y ≤ 1099478073600 * (y : Int)
  | 0 => ⟨Int.le_refl _, by simp [tgC]⟩
  | y + 1 => by
    have h1 := tgC_range hA hB hW y
    have h2 := tgR_range (W := W) (H := H) (V := V) (U := U) (dx := dx) (dy := dy) hA hB y W
    unfold tgC
    omega
end
/-- the best so far: across, down, and how they go together. -/
structure Bst where
  x : Int
  y : Int
  s : Int
def bstP (b : Bst) (dx dy s : Int) : Bst := if b.s < s then ⟨dx, dy, s⟩ else b
/-- the first k moves across. -/
def bstX (f : Int → Int → Int) (m : Int) (dy : Int) (b : Bst) : Nat → Bst
  | 0 => b
  | k + 1 => bstP (bstX f m dy b k) (-m + (k : Int)) dy (f (-m + (k : Int)) dy)
/-- the first k moves down. -/
def bstY (f : Int → Int → Int) (m : Int) : Nat → Bst
  | 0 => ⟨0, 0, -1⟩
  | k + 1 => bstX f m (-m + (k : Int)) (bstY f m k) (2 * m + 1).toNat
end Go.Proofs.YtngdemhhcablmalDoor
