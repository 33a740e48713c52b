/-
  The pixels around a pixel, one by one; the least number around. Nothing of the program.
-/
import Derived.Test.YtgmaganajfcpbaiDoorSpS
namespace Go.Proofs.YtgmaganajfcpbaiDoor

/-- the pixel that lies a - 1 rows below and c - 1 beside. -/
def NbAt (W n i a c k : Nat) : Prop := a < 3 ∧ c < 3 ∧ (k : Int) = (i : Int) + ((a : Int) - 1) * (W : Int) + ((c : Int) - 1) ∧ 0 ≤ ((i % W : Nat) : Int) + ((c : Int) - 1) ∧ ((i % W : Nat) : Int) + ((c : Int) - 1) < (W : Int) ∧ k < n
theorem nb_place {W n i a c k : Nat} (hW : 1 ≤ W) (h : NbAt W n i a c k) : (k / W : Nat) + 1 = i / W + a ∧ (k % W : Nat) + 1 = i % W + c := by
  obtain ⟨ha, hc, e, l1, l2, _⟩ := h
  have hi := Nat.div_add_mod i W
  have key : ∀ {q r : Nat}, r < W → k = q * W + r → k / W = q ∧ k % W = r := fun {q r} hr e => by
    subst e
    constructor
    · rw [Nat.mul_comm, Nat.mul_add_div (by omega), Nat.div_eq_of_lt hr, Nat.add_zero]
    · rw [Nat.mul_comm, Nat.mul_add_mod, Nat.mod_eq_of_lt hr]
  generalize i / W = Y at *
  generalize i % W = x at *
  have hYW : W * Y = Y * W := Nat.mul_comm _ _
  obtain ⟨r, hr⟩ : ∃ r : Nat, (r : Int) = (x : Int) + ((c : Int) - 1) := ⟨((x : Int) + ((c : Int) - 1)).toNat, Int.toNat_of_nonneg l1⟩
  rcases (show a = 0 ∨ a = 1 ∨ a = 2 by omega) with rfl | rfl | rfl
  · cases Y with
    | zero =>
      rw [Nat.mul_zero] at hi
      exfalso
      have : (k : Int) = (x : Int) + -1 * (W : Int) + ((c : Int) - 1) := by rw [e]; omega
      omega
    | succ Y =>
      have hm : (Y + 1) * W = Y * W + W := Nat.succ_mul Y W
      obtain ⟨d1, d2⟩ := key (q := Y) (r := r) (by omega) (by
        have e2 : ((0 : Nat) : Int) - 1 = -1 := rfl
        rw [e2] at e
        omega)
      omega
  · obtain ⟨d1, d2⟩ := key (q := Y) (r := r) (by omega) (by
      have e2 : ((1 : Nat) : Int) - 1 = 0 := rfl
      rw [e2, Int.zero_mul] at e
      omega)
    omega
  · have hm : (Y + 1) * W = Y * W + W := Nat.succ_mul Y W
    obtain ⟨d1, d2⟩ := key (q := Y + 1) (r := r) (by omega) (by
      have e2 : ((2 : Nat) : Int) - 1 = 1 := rfl
      rw [e2, Int.one_mul] at e
      omega)
    omega
theorem nb_adj {W n i a c k : Nat} (hW : 1 ≤ W) (h : NbAt W n i a c k) : Adj W i k := by
  obtain ⟨h1, h2⟩ := nb_place hW h
  have := h.1
  have := h.2.1
  unfold Adj
  omega
theorem adj_nb {W n i k : Nat} (hW : 1 ≤ W) (h : Adj W i k) (hk : k < n) : ∃ a c, NbAt W n i a c k := by
  unfold Adj at h
  have hi := Nat.div_add_mod i W
  have hk2 := Nat.div_add_mod k W
  have r1 := Nat.mod_lt i (show W > 0 by omega)
  have r2 := Nat.mod_lt k (show W > 0 by omega)
  refine ⟨k / W + 1 - i / W, k % W + 1 - i % W, by omega, by omega, ?_, by omega, by omega, hk⟩
  generalize hY : i / W = Y at *
  generalize hZ : k / W = Z at *
  generalize i % W = x at *
  generalize k % W = z at *
  have m1 : W * Y = Y * W := Nat.mul_comm _ _
  have m2 : W * Z = Z * W := Nat.mul_comm _ _
  rcases (show Z + 1 = Y ∨ Z = Y ∨ Z = Y + 1 by omega) with e | e | e
  · have m3 : (Z + 1) * W = Z * W + W := Nat.succ_mul Z W
    rw [e] at m3
    rw [show ((Z + 1 - Y : Nat) : Int) = 0 by omega, show (0 : Int) - 1 = -1 from rfl]
    omega
  · subst e
    rw [show ((Z + 1 - Z : Nat) : Int) = 1 by omega, Int.sub_self, Int.zero_mul]
    omega
  · have m3 : (Y + 1) * W = Y * W + W := Nat.succ_mul Y W
    rw [← e] at m3
    rw [show ((Z + 1 - Y : Nat) : Int) = 2 by omega, show (2 : Int) - 1 = 1 from rfl, Int.one_mul]
    omega
/-- the best so far, of the pixels around that were looked at. -/
structure Vis (v : List Int) (W i a c : Nat) (best : Int) : Prop where
  le : best ≤ v.getD i 0
  is : best = v.getD i 0 ∨ ∃ k, k < v.length ∧ Adj W i k ∧ 0 < v.getD k 0 ∧ best = v.getD k 0
  all : ∀ a' c' k, (a' < a ∨ (a' = a ∧ c' < c)) → NbAt W v.length i a' c' k → 0 < v.getD k 0 → best ≤ v.getD k 0
theorem vis0 (v : List Int) (W i : Nat) : Vis v W i 0 0 (v.getD i 0) := ⟨Int.le_refl _, .inl rfl, fun a' c' k h _ _ => by omega⟩
theorem Vis.skip {v : List Int} {W i a c : Nat} {best : Int} (h : Vis v W i a c best) (no : ∀ k, ¬ NbAt W v.length i a c k) : Vis v W i a (c + 1) best :=
  ⟨h.le, h.is, fun a' c' k q nb hp => by
    by_cases e : a' = a ∧ c' = c
    · obtain ⟨rfl, rfl⟩ := e
      exact absurd nb (no k)
    · exact h.all a' c' k (by omega) nb hp⟩
theorem nb_one {W n i a c k m : Nat} (h : NbAt W n i a c k) (g : NbAt W n i a c m) : k = m := by
  have h1 := h.2.2.1
  have h2 := g.2.2.1
  omega
theorem Vis.look {v : List Int} {W i a c k : Nat} {best : Int} (hW : 1 ≤ W) (h : Vis v W i a c best) (nb : NbAt W v.length i a c k) : Vis v W i a (c + 1) (if 0 < v.getD k 0 ∧ v.getD k 0 < best then v.getD k 0 else best) := by
  by_cases q : 0 < v.getD k 0 ∧ v.getD k 0 < best
  · rw [if_pos q]
    refine ⟨by have := h.le; omega, .inr ⟨k, nb.2.2.2.2.2, nb_adj hW nb, q.1, rfl⟩, fun a' c' m s g hp => ?_⟩
    by_cases e : a' = a ∧ c' = c
    · obtain ⟨rfl, rfl⟩ := e
      rw [nb_one g nb]
      exact Int.le_refl _
    · have := h.all a' c' m (by omega) g hp
      omega
  · rw [if_neg q]
    refine ⟨h.le, h.is, fun a' c' m s g hp => ?_⟩
    by_cases e : a' = a ∧ c' = c
    · obtain ⟨rfl, rfl⟩ := e
      rw [nb_one g nb] at hp ⊢
      omega
    · exact h.all a' c' m (by omega) g hp
theorem Vis.row {v : List Int} {W i a : Nat} {best : Int} (h : Vis v W i a 3 best) : Vis v W i (a + 1) 0 best :=
  ⟨h.le, h.is, fun a' c' k q nb hp => h.all a' c' k (by have := nb.2.1; omega) nb hp⟩
/-- the least around. -/
structure Least (v : List Int) (W i : Nat) (m : Int) : Prop where
  le : m ≤ v.getD i 0
  is : m = v.getD i 0 ∨ ∃ k, k < v.length ∧ Adj W i k ∧ 0 < v.getD k 0 ∧ m = v.getD k 0
  all : ∀ k, k < v.length → Adj W i k → 0 < v.getD k 0 → m ≤ v.getD k 0
theorem Vis.done {v : List Int} {W i : Nat} {best : Int} (hW : 1 ≤ W) (h : Vis v W i 3 0 best) : Least v W i best :=
  ⟨h.le, h.is, fun k hk a hp => by
    obtain ⟨a', c', nb⟩ := adj_nb hW a hk
    exact h.all a' c' k (by have := nb.1; omega) nb hp⟩
end Go.Proofs.YtgmaganajfcpbaiDoor
