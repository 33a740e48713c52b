/-
  Numbers of any size added, and one taken from another, digit by digit. Nothing of the program.
-/
import Derived.Test.YtkdmeclbnnjdgalDoorNum2
namespace Go.Proofs.YtkdmeclbnnjdgalDoor

theorem val_take_all (A : List Int) (i : Nat) : val (A.take (i + 1)) = val (A.take i) + A.getD i 0 * pw i := by
  by_cases h : i < A.length
  · exact val_take_succ A i h
  · rw [List.take_of_length_le (by omega), List.take_of_length_le (by omega), List.getD_eq_getElem?_getD, List.getElem?_eq_none (by omega)]
    simp
theorem val_snoc (O : List Int) (x : Int) : val (O ++ [x]) = val O + x * pw O.length := by
  rw [val_append]
  simp [val, Int.mul_comm]
theorem pw_next (i : Nat) : pw (i + 1) = 1000000 * pw i := rfl
theorem digs_snoc {O : List Int} (h : Digs O) {x : Int} (h0 : 0 ≤ x) (h1 : x < 1000000) : Digs (O ++ [x]) := fun d hd => by
  rcases List.mem_append.1 hd with q | q
  · exact h d q
  · rw [List.mem_singleton.1 q]
    exact ⟨h0, h1⟩
/-- added so far: the first i digits, and what is carried. -/
structure AddI (A B O : List Int) (i : Nat) (c : Int) : Prop where
  len : O.length = i
  digs : Digs O
  c0 : 0 ≤ c
  c1 : c ≤ 1
  fin : A.length < i → B.length < i → c = 0
  sum : val O + c * pw i = val (A.take i) + val (B.take i)
theorem AddI.start (A B : List Int) : AddI A B [] 0 0 := ⟨rfl, (fun d hd => by cases hd), by decide, by decide, fun h => absurd h (Nat.not_lt_zero _), by simp [val]⟩
theorem AddI.next {A B O : List Int} {i : Nat} {c t : Int} (h : AddI A B O i c) (hA : Digs A) (hB : Digs B) (ht : t = c + A.getD i 0 + B.getD i 0) : AddI A B (O ++ [t % 1000000]) (i + 1) (t / 1000000) := by
  have a := digs_getD hA i
  have b := digs_getD hB i
  have c0 := h.c0
  have c1 := h.c1
  refine ⟨by rw [List.length_append, h.len]; rfl, digs_snoc h.digs (by omega) (by omega), by omega, by omega, fun h1 h2 => ?_, ?_⟩
  · have e1 : A.getD i 0 = 0 := by rw [List.getD_eq_getElem?_getD, List.getElem?_eq_none (by omega)]; rfl
    have e2 : B.getD i 0 = 0 := by rw [List.getD_eq_getElem?_getD, List.getElem?_eq_none (by omega)]; rfl
    omega
  · rw [val_snoc, h.len, pw_next, val_take_all, val_take_all]
    have s := h.sum
    have e : t % 1000000 * pw i + t / 1000000 * (1000000 * pw i) = t * pw i := by
      rw [← Int.mul_assoc, ← Int.add_mul]
      congr 1
      omega
    have e2 : t * pw i = c * pw i + A.getD i 0 * pw i + B.getD i 0 * pw i := by rw [ht, Int.add_mul, Int.add_mul]
    omega
theorem AddI.done {A B O : List Int} {i : Nat} {c : Int} (h : AddI A B O i c) (hA : A.length ≤ i) (hB : B.length ≤ i) (hc : ¬ 0 < c) : val O = val A + val B := by
  have c0 := h.c0
  obtain rfl : c = 0 := by omega
  have s := h.sum
  rw [List.take_of_length_le hA, List.take_of_length_le hB, Int.zero_mul, Int.add_zero] at s
  exact s
/-- taken away so far. -/
structure SubI (A B O : List Int) (i : Nat) (b : Int) : Prop where
  len : O.length = i
  digs : Digs O
  b0 : 0 ≤ b
  b1 : b ≤ 1
  sum : val O + val (B.take i) = val (A.take i) + b * pw i
theorem SubI.start (A B : List Int) : SubI A B [] 0 0 := ⟨rfl, (fun d hd => by cases hd), by decide, by decide, by simp [val]⟩
theorem SubI.next {A B O : List Int} {i : Nat} {b d : Int} (h : SubI A B O i b) (hA : Digs A) (hB : Digs B) (hd : d = A.getD i 0 - b - B.getD i 0) : SubI A B (O ++ [if d < 0 then d + 1000000 else d]) (i + 1) (if d < 0 then 1 else 0) := by
  have a := digs_getD hA i
  have b' := digs_getD hB i
  have b0 := h.b0
  have b1 := h.b1
  have s := h.sum
  by_cases q : d < 0
  · rw [if_pos q, if_pos q]
    refine ⟨by rw [List.length_append, h.len]; rfl, digs_snoc h.digs (by omega) (by omega), by decide, by decide, ?_⟩
    rw [val_snoc, h.len, pw_next, val_take_all, val_take_all]
    have e : (d + 1000000) * pw i = A.getD i 0 * pw i - b * pw i - B.getD i 0 * pw i + 1000000 * pw i := by rw [hd, Int.add_mul, Int.sub_mul, Int.sub_mul]
    omega
  · rw [if_neg q, if_neg q]
    refine ⟨by rw [List.length_append, h.len]; rfl, digs_snoc h.digs (by omega) (by omega), by decide, by decide, ?_⟩
    rw [val_snoc, h.len, pw_next, val_take_all, val_take_all]
    have e : d * pw i = A.getD i 0 * pw i - b * pw i - B.getD i 0 * pw i := by rw [hd, Int.sub_mul, Int.sub_mul]
    omega
theorem SubI.done {A B O : List Int} {b : Int} (h : SubI A B O A.length b) (hA : Digs A) (hB : Digs B) (tB : Top B) (hle : val B ≤ val A) : val O = val A - val B := by
  have hl : B.length ≤ A.length := by
    rcases Nat.lt_or_ge A.length B.length with q | q
    · have := val_lt_len hA hB tB q
      omega
    · exact q
  have s := h.sum
  rw [List.take_length, List.take_of_length_le hl] at s
  have hO := val_lt_pw O h.digs
  rw [h.len] at hO
  have b0 := h.b0
  have b1 := h.b1
  rcases (show b = 0 ∨ b = 1 by omega) with rfl | rfl
  · omega
  · omega
end Go.Proofs.YtkdmeclbnnjdgalDoor
