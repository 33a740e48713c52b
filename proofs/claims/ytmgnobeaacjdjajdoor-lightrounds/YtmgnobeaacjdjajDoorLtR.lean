/-
  How bright a star is: its light within a circle, the ground in a ring around it. Nothing of the program.
-/
import Derived.Test.YtmgnobeaacjdjajDoorSpRA
namespace Go.Proofs.YtmgnobeaacjdjajDoor

/-- from the middle of the i-th pixel to a star, squared. -/
def pxD (s : Sta) (W i : Nat) : Int := distV s ((i % W : Nat) : Int) ((i / W : Nat) : Int)
/-- the light of the first k pixels within a circle. -/
def inL (L : List Int) (s : Sta) (W : Nat) (a : Int) : Nat → Int
  | 0 => 0
  | k + 1 => inL L s W a k + if pxD s W k ≤ a then L.getD k 0 else 0
def inN (s : Sta) (W : Nat) (a : Int) : Nat → Nat
  | 0 => 0
  | k + 1 => inN s W a k + if pxD s W k ≤ a then 1 else 0
/-- the counts of the first k pixels in the ring. -/
def ringL (L : List Int) (s : Sta) (W : Nat) (a b : Int) : Nat → List Int
  | 0 => []
  | k + 1 => ringL L s W a b k ++ if ¬ pxD s W k ≤ a ∧ pxD s W k ≤ b then [L.getD k 0] else []
def rdG (L : List Int) (s : Sta) (W : Nat) (a b : Int) (n : Nat) : Int := if ringL L s W a b n = [] then 0 else medV (ringL L s W a b n)
def rdL (L : List Int) (s : Sta) (W : Nat) (a b : Int) (n : Nat) : Int := inL L s W a n - (inN s W a n : Int) * rdG L s W a b n
def badRd (s : Sta) (i o : Int) : Prop := i < 1 ∨ o ≤ i ∨ 1048576 < o ∨ decide (268435456 < s.x ∨ s.x < -268435456) = true ∨ decide (268435456 < s.y ∨ s.y < -268435456) = true
instance (s : Sta) (i o : Int) : Decidable (badRd s i o) := by unfold badRd; exact inferInstance
def roundE (p : Pic) (s : Sta) (i o : Int) : Int := if picE p ≠ 0 then picE p else if badRd s i o then 5 else 0
/-- light, ground, pixels. -/
def roundV (p : Pic) (s : Sta) (i o : Int) : Int × Int × Int :=
  if roundE p s i o ≠ 0 then (0, 0, 0) else (rdL p.L s p.wide.toNat (i * i) (o * o) (p.high.toNat * p.wide.toNat), rdG p.L s p.wide.toNat (i * i) (o * o) (p.high.toNat * p.wide.toNat), (inN s p.wide.toNat (i * i) (p.high.toNat * p.wide.toNat) : Nat))
theorem inN_le (s : Sta) (W : Nat) (a : Int) : ∀ k, inN s W a k ≤ k
  | 0 => Nat.le_refl _
  | k + 1 => by
    have := inN_le s W a k
    unfold inN
    split <;> omega
theorem inL_range {L : List Int} (h : ∀ k, 0 ≤ L.getD k 0 ∧ L.getD k 0 ≤ 65535) (s : Sta) (W : Nat) (a : Int) : ∀ k, 0 ≤ inL L s W a k ∧ inL L s W a k ≤ 65535 * (k : Int)
  | 0 => ⟨Int.le_refl _, by simp [inL]⟩
  | k + 1 => by
    have h1 := inL_range h s W a k
    have h2 := h k
    unfold inL
    split <;> omega
theorem ring_len (L : List Int) (s : Sta) (W : Nat) (a b : Int) : ∀ k, (ringL L s W a b k).length ≤ k
  | 0 => Nat.le_refl _
  | k + 1 => by
    have := ring_len L s W a b k
    unfold ringL
    rw [List.length_append]
    split <;> simp <;> omega
theorem ring_mem {L : List Int} (h : ∀ k, 0 ≤ L.getD k 0 ∧ L.getD k 0 ≤ 65535) {s : Sta} {W : Nat} {a b : Int} : ∀ {k : Nat} {x : Int}, x ∈ ringL L s W a b k → 0 ≤ x ∧ x ≤ 65535
  | 0, x, hx => by cases hx
  | k + 1, x, hx => by
    unfold ringL at hx
    rcases List.mem_append.1 hx with hx | hx
    · exact ring_mem h hx
    · split at hx
      · rw [List.mem_singleton.1 hx]; exact h k
      · cases hx
theorem rdG_range {L : List Int} (h : ∀ k, 0 ≤ L.getD k 0 ∧ L.getD k 0 ≤ 65535) (s : Sta) (W : Nat) (a b : Int) (n : Nat) : 0 ≤ rdG L s W a b n ∧ rdG L s W a b n ≤ 65535 := by
  unfold rdG
  split
  · omega
  · rename_i q
    have h0 : 0 < (ringL L s W a b n).length := List.length_pos_iff.2 q
    obtain ⟨k, hk, e⟩ := med_in h0
    rw [← e]
    refine ring_mem h (s := s) (W := W) (a := a) (b := b) (k := n) ?_
    rw [List.getD_eq_getElem?_getD, List.getElem?_eq_getElem hk]
    exact List.getElem_mem hk
end Go.Proofs.YtmgnobeaacjdjajDoor
