/-
  The counts in a circle around a star. Nothing of the program.
-/
import Derived.Test.YtmgnobeaacjdjajDoorLtR
namespace Go.Proofs.YtmgnobeaacjdjajDoor

/-- the counts of the first k pixels within a circle. -/
def discL (L : List Int) (s : Sta) (W : Nat) (a : Int) : Nat → List Int
  | 0 => []
  | k + 1 => discL L s W a k ++ if pxD s W k ≤ a then [L.getD k 0] else []
theorem disc_len (L : List Int) (s : Sta) (W : Nat) (a : Int) : ∀ k, (discL L s W a k).length = inN s W a k
  | 0 => rfl
  | k + 1 => by
    have := disc_len L s W a k
    unfold discL inN
    rw [List.length_append, this]
    split <;> simp
theorem disc_len_le (L : List Int) (s : Sta) (W : Nat) (a : Int) (k : Nat) : (discL L s W a k).length ≤ k := by
  rw [disc_len]
  exact inN_le s W a k
theorem disc_mem {L : List Int} (h : ∀ k, 0 ≤ L.getD k 0 ∧ L.getD k 0 ≤ 65535) {s : Sta} {W : Nat} {a : Int} : ∀ {k : Nat} {x : Int}, x ∈ discL L s W a k → 0 ≤ x ∧ x ≤ 65535
  | 0, x, hx => by cases hx
  | k + 1, x, hx => by
    unfold discL at hx
    rcases List.mem_append.1 hx with hx | hx
    · exact disc_mem h hx
    · split at hx
      · rw [List.mem_singleton.1 hx]; exact h k
      · cases hx
/-- the first k counts, each less the ground. -/
def lessG (g : Int) (D : List Int) : Nat → Int
  | 0 => 0
  | k + 1 => lessG g D k + (D.getD k 0 - g)
theorem lessG_app (g : Int) (D E : List Int) : ∀ k, k ≤ D.length → lessG g (D ++ E) k = lessG g D k
  | 0, _ => rfl
  | k + 1, hk => by
    unfold lessG
    rw [lessG_app g D E k (by omega)]
    rw [List.getD_eq_getElem?_getD, List.getD_eq_getElem?_getD, List.getElem?_append_left (by omega)]
theorem disc_less (g : Int) (L : List Int) (s : Sta) (W : Nat) (a : Int) : ∀ k, lessG g (discL L s W a k) (discL L s W a k).length = inL L s W a k - (inN s W a k : Int) * g
  | 0 => by simp [discL, lessG, inL, inN]
  | k + 1 => by
    have ih := disc_less g L s W a k
    unfold discL inL inN
    by_cases q : pxD s W k ≤ a
    · rw [if_pos q, if_pos q, if_pos q, List.length_append]
      show lessG g (discL L s W a k ++ [L.getD k 0]) ((discL L s W a k).length + 1) = _
      unfold lessG
      rw [lessG_app g _ _ _ (Nat.le_refl _), ih]
      have e : (discL L s W a k ++ [L.getD k 0]).getD (discL L s W a k).length 0 = L.getD k 0 := by
        rw [List.getD_eq_getElem?_getD, List.getElem?_append_right (Nat.le_refl _)]
        simp
      rw [e, Int.natCast_add, Int.add_mul]
      omega
    · rw [if_neg q, if_neg q, if_neg q, List.append_nil, ih, Nat.add_zero]
      omega
theorem lessG_range {g : Int} {D : List Int} (hg : 0 ≤ g ∧ g ≤ 65535) (h : ∀ x ∈ D, 0 ≤ x ∧ x ≤ 65535) : ∀ k, k ≤ D.length → -(65535 * (k : Int)) ≤ lessG g D k ∧ lessG g D k ≤ 65535 * (k : Int)
  | 0, _ => by simp [lessG]
  | k + 1, hk => by
    have ih := lessG_range hg h k (by omega)
    have hx := h (D.getD k 0) (by
      rw [List.getD_eq_getElem?_getD, List.getElem?_eq_getElem (by omega)]
      exact List.getElem_mem _)
    unfold lessG
    omega
end Go.Proofs.YtmgnobeaacjdjajDoor
