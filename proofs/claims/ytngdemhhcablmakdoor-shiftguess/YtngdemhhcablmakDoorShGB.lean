/-
  Which number is guessed of a row and the same row shifted. The law of guesses: its walk.
-/
import Derived.Test.YtngdemhhcablmakDoorShG3
import Derived.Test.YtngdemhhcablmakDoorShH3
import Derived.Test.YtngdemhhcablmakDoorShGo
namespace Go.Proofs.YtngdemhhcablmakDoor
open Go

theorem rowsE_of {a b : List Int} {n : Nat} (h : RowsOk a b n) : rowsE a b = 0 := by
  have h1 := h.few
  have h2 := h.pos
  unfold rowsE
  rw [h.la, h.lb, if_neg (by omega), if_neg (by omega), badAB_none (fun k _ => ?_)]
  · exact if_neg (by decide)
  · have h3 := h.each k
    have e1 : bigB (a.getD k 0) = false := decide_eq_false (by omega)
    have e2 : bigB (b.getD k 0) = false := decide_eq_false (by omega)
    rw [e1, e2]
    rfl
theorem pow_few {d n : Nat} (h : n = 2 ^ d) (hn : n ≤ 256) : d ≤ 8 := by
  rcases Nat.lt_or_ge 8 d with q | q
  · have : (2 : Nat) ^ 9 ≤ 2 ^ d := Nat.pow_le_pow_right (by decide) q
    omega
  · exact q
theorem guess_lt {vk vs ck cs M : Rat} (h1 : vk ≤ ck + 1 / 1000 * M) (h2 : cs ≤ vs + 1 / 1000 * M) (h3 : 2 * ck + M ≤ 2 * cs) (hM : 1 ≤ M) : vk < vs := by grind
theorem guess_is {A B : List Int} {n s l r : Nat} (h : GsN A B r) (lA : A.length = n) (lB : B.length = n) (hn : n ≤ 256) (hs : s < n) (hl1 : 1 ≤ l) (hl2 : l ≤ 1048576) (hA : ∀ i, A.getD i 0 ≤ (l : Int) ∧ -(l : Int) ≤ A.getD i 0) (hB : ∀ i, B.getD i 0 ≤ (l : Int) ∧ -(l : Int) ≤ B.getD i 0) (hd : ∀ i, i < n → i ≠ s → 2 * crossV A B i + (l : Int) * (l : Int) ≤ 2 * crossV A B s) : r = s := by
  obtain ⟨d, Z, h1, h2, rfl⟩ := h
  have e : n = 2 ^ d := lA.symm.trans h1
  have d8 := pow_few e hn
  have hv := fun t (ht : t < 2 ^ d) => guess_val d8 h1 (lB.trans e) hl1 hl2 hA hB h2 ht
  have hv2 : ∃ v : Nat → Rat, ∀ t, t < 2 ^ d → Is (Z.getD t (0, 0)).1 (v t) ∧ v t ≤ (crossV A B t : Rat) + 1 / 1000 * ((l : Rat) * (l : Rat)) ∧ (crossV A B t : Rat) ≤ v t + 1 / 1000 * ((l : Rat) * (l : Rat)) :=
    ⟨fun t => if ht : t < 2 ^ d then (hv t ht).choose else 0, fun t ht => by
      simp only [dif_pos ht]
      exact (hv t ht).choose_spec⟩
  obtain ⟨v, hv3⟩ := hv2
  have l1 : (1 : Rat) ≤ (l : Rat) := (Rat.natCast_le_natCast (a := 1) (b := l)).2 hl1
  have ll : (1 : Rat) ≤ (l : Rat) * (l : Rat) := by
    have := Rat.mul_le_mul_of_nonneg_left l1 (show (0 : Rat) ≤ (l : Rat) by grind)
    grind
  refine bestN_is (v := v) (by rw [← e]; exact hs) (fun k hk => (hv3 k hk).1) (fun k hk hne => ?_)
  have h3 : ((2 * crossV A B k + (l : Int) * (l : Int) : Int) : Rat) ≤ ((2 * crossV A B s : Int) : Rat) := Rat.intCast_le_intCast.2 (hd k (by rw [e]; exact hk) hne)
  rw [Rat.intCast_add, Rat.intCast_mul, Rat.intCast_mul, Rat.intCast_mul] at h3
  exact guess_lt (hv3 k hk).2.1 (hv3 s (by rw [← e]; exact hs)).2.2 h3 ll
/-- a row, shifted around. -/
def shL (A : List Int) (s n : Nat) : List Int := (List.range n).map (fun i => A.getD ((i + n - s) % n) 0)
theorem shL_len (A : List Int) (s n : Nat) : (shL A s n).length = n := by simp [shL]
theorem shL_at {A : List Int} {s n i : Nat} (h : i < n) : (shL A s n).getD i 0 = A.getD ((i + n - s) % n) 0 := by
  rw [List.getD_eq_getElem?_getD, shL, List.getElem?_map, List.getElem?_range h]
  rfl
theorem shL_take {A : List Int} {s n k : Nat} (h : k < n) : (shL A s n).take (k + 1) = (shL A s n).take k ++ [A.getD ((k + n - s) % n) 0] := by
  rw [List.take_add_one]
  congr 1
  rw [shL, List.getElem?_map, List.getElem?_range h]
  rfl
theorem shL_all (A : List Int) (s n : Nat) : (shL A s n).take n = shL A s n := List.take_of_length_le (by rw [shL_len]; exact Nat.le_refl _)
theorem getD_none {A : List Int} {i : Nat} (h : A.length ≤ i) : A.getD i 0 = 0 := by
  rw [List.getD_eq_getElem?_getD, List.getElem?_eq_none h]
  rfl
theorem shL_each {A : List Int} {s n : Nat} {P : Int → Prop} (hA : ∀ i, P (A.getD i 0)) (h0 : P 0) (i : Nat) : P ((shL A s n).getD i 0) := by
  by_cases h : i < n
  · rw [shL_at h]
    exact hA _
  · rw [getD_none (by rw [shL_len]; omega)]
    exact h0
theorem sh_back {k s n : Nat} (hk : k < n) (hs : s < n) : ((k + s) % n + n - s) % n = k := by
  by_cases q : k + s < n
  · rw [Nat.mod_eq_of_lt q, show k + s + n - s = k + n by omega, Nat.add_mod_right, Nat.mod_eq_of_lt hk]
  · have e : (k + s) % n = k + s - n := by rw [Nat.mod_eq_sub_mod (by omega), Nat.mod_eq_of_lt (by omega)]
    rw [e, show k + s - n + n - s = k by omega, Nat.mod_eq_of_lt hk]
def sqK (A : List Int) : Nat → Int
  | 0 => 0
  | k + 1 => sqK A k + A.getD k 0 * A.getD k 0
theorem crossK_sq {A : List Int} {n s : Nat} (hs : s < n) : ∀ k, k ≤ n → crossK A (shL A s n) n s k = sqK A k
  | 0, _ => rfl
  | k + 1, hk => by
    unfold crossK sqK
    rw [crossK_sq hs k (by omega), shL_at (Nat.mod_lt _ (by omega)), sh_back (by omega) hs]
theorem sqK_ge (A : List Int) : ∀ k, 0 ≤ sqK A k ∧ ∀ j, j < k → A.getD j 0 * A.getD j 0 ≤ sqK A k
  | 0 => ⟨Int.le_refl _, fun j hj => absurd hj (Nat.not_lt_zero j)⟩
  | k + 1 => by
    obtain ⟨h1, h2⟩ := sqK_ge A k
    have h3 : 0 ≤ A.getD k 0 * A.getD k 0 := by
      rw [← Int.natAbs_mul_self]
      exact Int.natCast_nonneg _
    unfold sqK
    refine ⟨by omega, fun j hj => ?_⟩
    by_cases e : j = k
    · subst e
      omega
    · have := h2 j (by omega)
      omega
theorem crossK_zero {A C : List Int} {n s : Nat} (h : ∀ i, A.getD i 0 = 0) : ∀ k, crossK A C n s k = 0
  | 0 => rfl
  | k + 1 => by
    unfold crossK
    rw [crossK_zero h k, h k, Int.zero_mul]
    rfl
theorem max_abs (A : List Int) : ∀ k, ∃ l : Nat, (∀ i, i < k → A.getD i 0 ≤ (l : Int) ∧ -(l : Int) ≤ A.getD i 0) ∧ (l = 0 ∨ ∃ j, j < k ∧ l = (A.getD j 0).natAbs)
  | 0 => ⟨0, fun i hi => absurd hi (Nat.not_lt_zero i), .inl rfl⟩
  | k + 1 => by
    obtain ⟨l, h1, h2⟩ := max_abs A k
    by_cases q : (A.getD k 0).natAbs ≤ l
    · refine ⟨l, fun i hi => ?_, h2.imp id (fun ⟨j, hj, e⟩ => ⟨j, by omega, e⟩)⟩
      by_cases e : i = k
      · subst e
        omega
      · exact h1 i (by omega)
    · refine ⟨(A.getD k 0).natAbs, fun i hi => ?_, .inr ⟨k, by omega, rfl⟩⟩
      by_cases e : i = k
      · subst e
        omega
      · have := h1 i (by omega)
        omega
theorem shift_is {A : List Int} {n s r : Nat} (lA : A.length = n) (hn : n ≤ 256) (hs : s < n) (hr : ∀ k, -1048576 ≤ A.getD k 0 ∧ A.getD k 0 ≤ 1048576) (hd : ∀ i, i < n → i ≠ s → 2 * crossV A (shL A s n) i < crossV A (shL A s n) s) (h : GsN A (shL A s n) r) : r = s := by
  by_cases n1 : n = 1
  · have := h.lt
    omega
  obtain ⟨l, h1, h2⟩ := max_abs A n
  have hA : ∀ i, A.getD i 0 ≤ (l : Int) ∧ -(l : Int) ≤ A.getD i 0 := fun i => by
    by_cases q : i < n
    · exact h1 i q
    · rw [getD_none (by rw [lA]; omega)]
      omega
  by_cases l0 : l = 0
  · subst l0
    have z : ∀ i, A.getD i 0 = 0 := fun i => by have := hA i; omega
    obtain ⟨i, hi, hne⟩ : ∃ i, i < n ∧ i ≠ s := by
      by_cases q : s = 0
      · exact ⟨1, by omega, by omega⟩
      · exact ⟨0, by omega, by omega⟩
    have := hd i hi hne
    unfold crossV at this
    rw [crossK_zero z, crossK_zero z] at this
    omega
  · obtain ⟨j, hj, e⟩ : ∃ j, j < n ∧ l = (A.getD j 0).natAbs := h2.resolve_left l0
    have hj2 := hr j
    have sq : (l : Int) * (l : Int) = A.getD j 0 * A.getD j 0 := by
      rw [e]
      exact Int.natAbs_mul_self' _
    have ge : (l : Int) * (l : Int) ≤ crossV A (shL A s n) s := by
      unfold crossV
      rw [lA, crossK_sq hs n (Nat.le_refl _), sq]
      exact (sqK_ge A n).2 j hj
    exact guess_is h lA (shL_len A s n) hn hs (by omega) (by omega) hA (fun i => shL_each (P := fun x => x ≤ (l : Int) ∧ -(l : Int) ≤ x) hA (by omega) i) (fun i hi hne => by have := hd i hi hne; omega)
theorem first_E : gsE [0, 5, 0, 0] [0, 0, 5, 0] = 0 := by decide +kernel
theorem four_each {x y z u : Int} (l : Int) (hx : x ≤ l ∧ -l ≤ x) (hy : y ≤ l ∧ -l ≤ y) (hz : z ≤ l ∧ -l ≤ z) (hu : u ≤ l ∧ -l ≤ u) (h0 : 0 ≤ l) (i : Nat) : [x, y, z, u].getD i 0 ≤ l ∧ -l ≤ [x, y, z, u].getD i 0 := by
  rcases i with _ | _ | _ | _ | i
  · exact hx
  · exact hy
  · exact hz
  · exact hu
  · rw [getD_none (by simp)]
    omega
theorem first_cross : (2 * crossV [0, 5, 0, 0] [0, 0, 5, 0] 0 + ((5 : Nat) : Int) * ((5 : Nat) : Int) ≤ 2 * crossV [0, 5, 0, 0] [0, 0, 5, 0] 1) ∧ (2 * crossV [0, 5, 0, 0] [0, 0, 5, 0] 2 + ((5 : Nat) : Int) * ((5 : Nat) : Int) ≤ 2 * crossV [0, 5, 0, 0] [0, 0, 5, 0] 1) ∧ (2 * crossV [0, 5, 0, 0] [0, 0, 5, 0] 3 + ((5 : Nat) : Int) * ((5 : Nat) : Int) ≤ 2 * crossV [0, 5, 0, 0] [0, 0, 5, 0] 1) := by decide +kernel
theorem first_guess {r : Nat} (h : GsN [0, 5, 0, 0] [0, 0, 5, 0] r) : r = 1 := by
  obtain ⟨f0, f2, f3⟩ := first_cross
  refine guess_is (n := 4) (s := 1) (l := 5) h rfl rfl (by decide) (by decide) (by decide) (by decide) (fun i => four_each _ (by decide) (by decide) (by decide) (by decide) (by decide) i) (fun i => four_each _ (by decide) (by decide) (by decide) (by decide) (by decide) i) (fun i hi hne => ?_)
  rcases (show i = 0 ∨ i = 2 ∨ i = 3 by omega) with rfl | rfl | rfl
  · exact f0
  · exact f2
  · exact f3
end Go.Proofs.YtngdemhhcablmakDoor
namespace Go.Proofs.YtngdemhhcablmakDoor
open Go Go.RowKit

theorem four_came {w : World} {g : Nat} {x y z u : Int} (h : w.heap[g]? = some (.cells #[.int .i64 x, .int .i64 y, .int .i64 z, .int .i64 u] 3)) : ICame w (some ⟨g, 0, none⟩) [x, y, z, u] := ⟨fun k hk => by
  refine ⟨g, 0, rfl, ltB h, ?_⟩
  rw [Nat.zero_add]
  rcases (show k = 0 ∨ k = 1 ∨ k = 2 ∨ k = 3 by simp at hk; omega) with rfl | rfl | rfl | rfl
  · exact (cells_at h 0 (by simp)).1
  · exact (cells_at h 1 (by simp)).1
  · exact (cells_at h 2 (by simp)).1
  · exact (cells_at h 3 (by simp)).1⟩
theorem one_int {w : World} {g : Nat} {x : Int} {ty : TypeId} (h : w.heap[g]? = some (.cells #[.int .i64 x] ty)) : ∀ k u, ([.int .i64 x] : List Value)[k]? = some u → w.cell? ((⟨g, 0, none⟩ : Addr).add k) = some u := by
  intro k u hu
  have hk : k < 1 := (List.getElem?_eq_some_iff.1 hu).1
  have := (cells_at h k (by simpa using hk)).1
  rw [add_pl2, Nat.zero_add, this]
  obtain rfl : k = 0 := by omega
  exact hu
theorem rowsE_pos {A B : List Int} (h : rowsE A B ≠ 0) : 0 < rowsE A B := by
  unfold rowsE at h ⊢
  split
  · decide
  · split
    · decide
    · split
      · decide
      · rename_i q1 q2 q3
        rw [if_neg q1, if_neg q2, if_neg q3] at h
        omega
set_option maxRecDepth 100000 in
set_option maxHeartbeats 6400000 in
theorem guess_walk {a : Nat → Addr} {w : World} {a1 a2 : Option Addr} {c1 c2 : Nat} {A B : List Int} (hS : Sents w a) (hA : ICame w a1 A) (hB : ICame w a2 B) (l1 : A.length ≤ 9223372036854775807) (l2 : B.length ≤ 9223372036854775807) (s : Int) :
    Calls Tryd.prog 7 #[.slice a1 A.length c1, .slice a2 B.length c2, .int .i64 s] w (SwPost w) := by
  obtain ⟨i0, hi0, hz0, hz1, hz2⟩ := info_parts infoI
  have HS : HeldR (∀ u, Below w.heap.size w u → Sents u a) := hideR (fun u k => hS.below k (Nat.le_refl _))
  have HA : HeldR (∀ u, Below w.heap.size w u → ICame u a1 A) := hideR (fun u k => hA.below k)
  have HB : HeldR (∀ u, Below w.heap.size w u → ICame u a2 B) := hideR (fun u k => hB.below k)
  have hb0 := below_a w (.cells #[.int .i64 0, .int .i64 5, .int .i64 0, .int .i64 0] 3)
  have hb1 := below_go hb0 (below_a (w.alloc (.cells #[.int .i64 0, .int .i64 5, .int .i64 0, .int .i64 0] 3)) (.cells #[.int .i64 0, .int .i64 0, .int .i64 5, .int .i64 0] 3))
  have hg0 := keepA (o' := .cells #[.int .i64 0, .int .i64 0, .int .i64 5, .int .i64 0] 3) (alloc_last w (.cells #[.int .i64 0, .int .i64 5, .int .i64 0, .int .i64 0] 3))
  have hg1 : ((w.alloc (.cells #[.int .i64 0, .int .i64 5, .int .i64 0, .int .i64 0] 3)).alloc (.cells #[.int .i64 0, .int .i64 0, .int .i64 5, .int .i64 0] 3)).heap[w.heap.size + 1]? = some (.cells #[.int .i64 0, .int .i64 0, .int .i64 5, .int .i64 0] 3) := by
    have := alloc_last (w.alloc (.cells #[.int .i64 0, .int .i64 5, .int .i64 0, .int .i64 0] 3)) (.cells #[.int .i64 0, .int .i64 0, .int .i64 5, .int .i64 0] 3)
    simpa using this
  have hf : Calls Tryd.prog 25 #[.slice (some ⟨w.heap.size, 0, none⟩) 4 4, .slice (some ⟨w.heap.size + 1, 0, none⟩) 4 4] ((w.alloc (.cells #[.int .i64 0, .int .i64 5, .int .i64 0, .int .i64 0] 3)).alloc (.cells #[.int .i64 0, .int .i64 0, .int .i64 5, .int .i64 0] 3)) fun e w' => e = .returned (.tuple #[.int .i64 1, .nilIface]) ∧ HeldR (Below w.heap.size w w') := by
    refine (guess_ok (c1 := 4) (c2 := 4) (A := [0, 5, 0, 0]) (B := [0, 0, 5, 0]) (unhideR HS _ hb1) (four_came hg0) (four_came hg1) (by decide) (by decide)).mono ?_
    rintro e w' ⟨r, er, rfl, her, _, hr, k⟩
    rw [first_E] at her
    obtain rfl := errIs_0 her
    obtain rfl := first_guess (hr first_E)
    exact ⟨rfl, hideR (below_go hb1 k)⟩
  have HGu : HeldR (∀ u, Below w.heap.size w u → Calls Tryd.prog 25 #[.slice a1 A.length c1, .slice a2 B.length c2] u (GuPost a A B u)) := hideR (fun u k => guess_ok (unhideR HS u k) (unhideR HA u k) (unhideR HB u k) l1 l2)
  have HRe : HeldR (∀ u, Below w.heap.size w u → Calls Tryd.prog 23 #[.slice a1 A.length c1, .slice a2 B.length c2] u (RePost A B u)) := hideR (fun u k => rowsError_any (unhideR HA u k) (unhideR HB u k) l1 l2)
  obtain ⟨nA, hnA⟩ : ∃ n, A.length = n := ⟨_, rfl⟩
  obtain ⟨nB, hnB⟩ : ∃ n, B.length = n := ⟨_, rfl⟩
  rw [hnA] at l1 HGu HRe ⊢
  rw [hnB] at l2 HGu HRe ⊢
  have HnA := hideR hnA
  have HnB := hideR hnB
  clear hS hA hB hb0 hb1 hg0 hg1 hnA hnB
  go_enter Tryd.func7, Tryd.ntmps7
  go_wp2_with fail
  refine hf.mono ?_
  rintro e w1 ⟨rfl, HB1⟩
  clear hf
  by_cases qa : 300 < nA
  · have t1 : decide ((300 : Int) < (nA : Int)) = true := decide_eq_true (by omega)
    have t1n : decide (300 < nA) = true := decide_eq_true qa
    clear HGu HRe
    go_wp2
    go_ret
    exact ⟨rfl, unhideR HB1⟩
  have t1 : decide ((300 : Int) < (nA : Int)) = false := decide_eq_false (by omega)
  have t1n : decide (300 < nA) = false := decide_eq_false qa
  by_cases qb : 300 < nB
  · have t2 : decide ((300 : Int) < (nB : Int)) = true := decide_eq_true (by omega)
    have t2n : decide (300 < nB) = true := decide_eq_true qb
    clear HGu HRe
    go_wp2
    go_ret
    exact ⟨rfl, unhideR HB1⟩
  have t2 : decide ((300 : Int) < (nB : Int)) = false := decide_eq_false (by omega)
  have t2n : decide (300 < nB) = false := decide_eq_false qb
  have h1 := unhideR HGu w1 (unhideR HB1)
  go_wp2_with fail
  refine h1.mono ?_
  rintro e w2 ⟨r, er, rfl, her, hr0, hr1, k2⟩
  have HB2 := hideR (below_go (unhideR HB1) k2)
  have HEr := hideR her
  have HR0 := hideR hr0
  have HR1 := hideR hr1
  have h2 := unhideR HRe w2 (unhideR HB2)
  unfold RePost at h2
  have h3 := isTwo_any nA (by omega) w2
  have HGE : HeldR (gsE A B = if rowsE A B ≠ 0 then rowsE A B else if twoB nA = true then 0 else 5) := hideR (by unfold gsE; rw [unhideR HnA])
  have HPos : HeldR (rowsE A B ≠ 0 → 0 < rowsE A B) := hideR rowsE_pos
  have HOk : HeldR (rowsE A B = 0 → ∃ n, RowsOk A B n) := hideR rows_ok
  have HTw : HeldR (twoB nA = true → ∃ d, nA = 2 ^ d) := hideR twoB_is
  obtain ⟨E, hE⟩ : ∃ E, rowsE A B = E := ⟨_, rfl⟩
  obtain ⟨tw, htw⟩ : ∃ t, twoB nA = t := ⟨_, rfl⟩
  obtain ⟨G, hG⟩ : ∃ g, gsE A B = g := ⟨_, rfl⟩
  rw [hE] at h2 HGE HPos HOk
  rw [htw] at h3 HGE HTw
  rw [hG] at HGE HEr HR0 HR1
  have HT2 := hideR htw
  clear h1 her hr0 hr1 k2 HGu HRe hE htw hG HB1
  go_wp2_with fail
  refine h2.mono ?_
  rintro e u2 ⟨rfl, rfl⟩
  clear h2
  go_wp2_with fail
  refine h3.mono ?_
  rintro e u3 ⟨rfl, rfl⟩
  clear h3
  have hcd := coded_err (unhideR HS _ (unhideR HB2)) (unhideR HEr)
  by_cases e0 : E = 0
  case neg =>
    have hpos := unhideR HPos e0
    obtain rfl : G = E := by rw [unhideR HGE, if_pos e0]
    obtain rfl := unhideR HR0 e0
    have tE : decide (0 < G) = true := decide_eq_true hpos
    have tE0 : (G == 0) = false := beq_eq_false_iff_ne.2 e0
    have tE1 : decide (G = 0) = false := decide_eq_false e0
    clear HGE HR0 HR1 HEr HPos HOk HTw
    go_wp2_with fail
    refine hcd.mono ?_
    rintro e w3 ⟨rfl, k3⟩
    have HB3 := hideR (below_go (unhideR HB2) k3)
    clear hcd k3
    go_wp2
    go_ret
    exact ⟨rfl, unhideR HB3⟩
  case pos =>
  subst e0
  cases tw with
  | false =>
    obtain rfl : G = 5 := by rw [unhideR HGE, if_neg (fun q => q rfl)]; rfl
    obtain rfl := unhideR HR0 (by decide)
    clear HGE HR0 HR1 HEr HPos HOk HTw
    go_wp2_with fail
    refine hcd.mono ?_
    rintro e w3 ⟨rfl, k3⟩
    have HB3 := hideR (below_go (unhideR HB2) k3)
    clear hcd k3
    go_wp2
    go_ret
    exact ⟨rfl, unhideR HB3⟩
  | true =>
  obtain rfl : G = 0 := by rw [unhideR HGE, if_neg (fun q => q rfl)]; rfl
  obtain ⟨n, hO⟩ := unhideR HOk rfl
  obtain ⟨d, hd⟩ := unhideR HTw rfl
  obtain rfl : n = nA := by rw [← unhideR HnA, hO.la]
  obtain rfl : n = nB := by rw [← unhideR HnB, hO.lb]
  have hpos := hO.pos
  have hfew := hO.few
  have HO := hideR hO
  have HD := hideR hd
  have HG := hideR (unhideR HR1 rfl)
  clear HGE HR0 HR1 HEr HPos HOk HTw hO hd
  go_wp2_with fail
  refine hcd.mono ?_
  rintro e w3 ⟨rfl, k3⟩
  have HB3 := hideR (below_go (unhideR HB2) k3)
  have hgo := guessOf_any (c1 := c1) (c2 := c2) (unhideR HA w3 (unhideR HB3)) (unhideR HB w3 (unhideR HB3)) (unhideR HO).la (unhideR HO).lb (unhideR HD) hfew
  clear hcd k3 HB2
  go_wp2_with fail
  refine hgo.mono ?_
  rintro e w4 ⟨r', rfl, hr', k4⟩
  obtain rfl := (unhideR HG).same hr'
  have HB4 := hideR (below_go (unhideR HB3) k4)
  have tnn : ((r : Int) != (r : Int)) = false := by simp
  have tnn' : (r != r) = false := by simp
  clear hgo hr' k4 HB3 HG
  by_cases s0 : s < 0
  · have u0 : decide (s < 0) = true := decide_eq_true s0
    go_wp2
    go_ret
    exact ⟨rfl, unhideR HB4⟩
  have u0 : decide (s < 0) = false := decide_eq_false s0
  obtain ⟨m, rfl⟩ : ∃ m : Nat, s = (m : Nat) := ⟨s.toNat, by omega⟩
  by_cases s1 : n ≤ m
  · have u1 : decide ((n : Int) ≤ (m : Int)) = true := decide_eq_true (by omega)
    have u1n : decide (n ≤ m) = true := decide_eq_true s1
    go_wp2
    go_ret
    exact ⟨rfl, unhideR HB4⟩
  have u1 : decide ((n : Int) ≤ (m : Int)) = false := decide_eq_false (by omega)
  have u1n : decide (n ≤ m) = false := decide_eq_false s1
  have hm : m < n := by omega
  have HTk : HeldR (∀ k, k < n → ((shL A m n).take (k + 1)).map (Value.int .i64) = ((shL A m n).take k).map (Value.int .i64) ++ [.int .i64 (A.getD ((k + n - m) % n) 0)]) := hideR (fun k hk => by rw [shL_take hk, List.map_append]; rfl)
  have HAll : HeldR ((shL A m n).take n = shL A m n) := hideR (shL_all A m n)
  have HLen : HeldR ((shL A m n).length = n) := hideR (shL_len A m n)
  have HO2 : HeldR (RowsOk A (shL A m n) n) := hideR ⟨(unhideR HO).la, shL_len A m n, hpos, hfew, fun k => ⟨((unhideR HO).each k).1, ((unhideR HO).each k).2.1, shL_each (P := fun x => -1048576 ≤ x) (fun i => ((unhideR HO).each i).1) (by decide) k, shL_each (P := fun x => x ≤ 1048576) (fun i => ((unhideR HO).each i).2.1) (by decide) k⟩⟩
  have HSh : HeldR (∀ q, (∀ i, i < n → i ≠ m → 2 * crossV A (shL A m n) i < crossV A (shL A m n) m) → GsN A (shL A m n) q → q = m) := hideR (fun q h1 h2 => shift_is (unhideR HO).la hfew hm (fun k => ⟨((unhideR HO).each k).1, ((unhideR HO).each k).2.1⟩) h1 h2)
  have HGE : HeldR (gsE A (shL A m n) = 0) := hideR (by
    unfold gsE
    rw [if_neg (fun q => q (rowsE_of (unhideR HO2))), (unhideR HO).la]
    rw [if_pos (unhideR HT2)])
  generalize shL A m n = C at *
  clear HB HO HD HnB
  have hn0 : (n : Int) ≠ 0 := by omega
  have hn0n : n ≠ 0 := by omega
  go_wp2
  go_loopw [12, 13] (fun cv iv wl => ∃ k : Nat, k ≤ n ∧ iv = .int .i64 (k : Nat) ∧ HeldR (wl.ownsRow w4.heap.size 3 1 cv k ((C.take k).map (Value.int .i64))) ∧ HeldR (Below w4.heap.size w4 wl)) (fun _ iv _ => n + 1 - (intOf iv).toNat)
  case atStart => exact ⟨0, by omega, rfl, hideR (World.ownsRow_nil _ _ _ _), hideR (Below.refl _ _)⟩
  case round =>
    obtain ⟨k, hk, rfl, HC, HW⟩ := hrel
    by_cases hlt : k < n
    · have tk : decide (k < n) = true := decide_eq_true hlt
      have tki : decide ((k : Int) < (n : Int)) = true := decide_eq_true (by omega)
      have wk : IntKind.i64.wrap ((k : Int) + 1) = ((k + 1 : Nat) : Int) := by rw [show (k : Int) + 1 = ((k + 1 : Nat) : Int) by omega]; exact iwrap (by omega) (by omega)
      obtain ⟨kq, hkq⟩ : ∃ q, k + n - m = q := ⟨_, rfl⟩
      obtain ⟨j, hj⟩ : ∃ q, kq % n = q := ⟨_, rfl⟩
      have hjn : j < n := by rw [← hj]; exact Nat.mod_lt _ hpos
      have jj : (j : Int) < (n : Int) := by omega
      have e1 : IntKind.i64.wrap ((k : Int) - (m : Int)) = (k : Int) - (m : Int) := iwrap (by omega) (by omega)
      have e2 : IntKind.i64.wrap ((k : Int) - (m : Int) + (n : Int)) = ((kq : Nat) : Int) := by rw [show (k : Int) - (m : Int) + (n : Int) = ((kq : Nat) : Int) by omega]; exact iwrap (by omega) (by omega)
      have e3 : (kq : Int) % (n : Int) = (j : Nat) := by rw [← hj]; exact (Int.natCast_emod kq n).symm
      have e4 : (kq : Int).tmod (n : Int) = (j : Nat) := (Int.tmod_eq_emod_of_nonneg (Int.natCast_nonneg kq)).trans e3
      have HTk' := hideR (unhideR HTk k hlt)
      rw [hkq, hj] at HTk'
      obtain ⟨b1, o1, rfl, _, x1⟩ := (unhideR HA wr (below_go (unhideR HB4) (unhideR HW))).at_ j (by rw [unhideR HnA]; exact hjn)
      obtain ⟨av, hav⟩ : ∃ v, A.getD j 0 = v := ⟨_, rfl⟩
      rw [hav] at x1 HTk'
      have lk := (unhideR HW).size
      clear hkq hj hav
      go_wp2_with (first
        | (at_builtin; refine wpList_append_own _ rfl _ _ 43 rfl w4.heap.size 3 i0 (.int .i64 0) 1 8 Tryd.underlying43 hi0 hz0 hz1 hz2 rfl (by decide) _ k _ rfl (own_below2 (unhideR HC) (below_a _ _)) ⟨wr.heap.size, 0, none⟩ 1 1 [.int .i64 av] rfl rfl ?d1 ?d2 ?d3 ?d4 ?d5 ?_))
      case d1 => exact one_int (alloc_last wr _)
      case d2 => exact fun u hu => by rw [List.mem_singleton.1 hu]; rfl
      case d3 => unfold maxLen; omega
      case d4 => omega
      case d5 => simp; omega
      intro v5 w5 hown hgrow _
      have HC' : HeldR (w5.ownsRow w4.heap.size 3 1 v5 (k + 1) ((C.take (k + 1)).map (Value.int .i64))) := hideR (by rw [unhideR HTk', List.map_take]; exact hown)
      have HW' := hideR ((below_go (unhideR HW) (below_a wr (.cells #[.int .i64 av] 3))).grown hgrow (by simp; omega) (fun g h => own_at2 (unhideR HC) g h))
      clear hown hgrow HC HW x1 e1 e2 e3 e4
      go_wp2
      exact ⟨⟨k + 1, by omega, by first | rfl | go_num, HC', HW'⟩, by simp [intOf]; omega⟩
    obtain rfl : n = k := by omega
    have tk : decide (n < n) = false := decide_eq_false hlt
    have tki : decide ((n : Int) < (n : Int)) = false := decide_eq_false (by omega)
    have hC := unhideR HC
    rw [unhideR HAll] at hC
    have hC2 : wr.ownsRow w4.heap.size 3 1 u12 C.length (C.map (Value.int .i64)) := by rw [unhideR HLen]; exact hC
    obtain ⟨ac, cc, ec, hcC, _⟩ := own_ints hC2
    rw [unhideR HLen] at ec
    subst ec
    have HBr := hideR (below_go (unhideR HB4) (unhideR HW))
    have HCc : HeldR (∀ u, Below wr.heap.size wr u → ICame u ac C) := hideR (fun u k => hcC.below k)
    have HAc : HeldR (∀ u, Below wr.heap.size wr u → ICame u a1 A) := hideR (fun u k => unhideR HA u (below_go (unhideR HBr) k))
    have HCa : HeldR (∀ u i, Below wr.heap.size wr u → i < n → Calls Tryd.prog 24 #[.slice a1 n c1, .slice ac n cc, .int .i64 (i : Nat)] u (CaPost A C i u)) := hideR (fun u i hb hi => crossAt_any (unhideR HAc u hb) (unhideR HCc u hb) (unhideR HO2) i hi)
    have HRg : HeldR (∀ i, -(1099511627776 * 256) ≤ crossV A C i ∧ crossV A C i ≤ 1099511627776 * 256) := hideR (fun i => by
      have := crossK_range (unhideR HO2).each n i n
      unfold crossV
      rw [(unhideR HO2).la]
      omega)
    have hca := unhideR HCa wr m (Below.refl _ _) hm
    unfold CaPost at hca
    obtain ⟨best, hbest⟩ : ∃ b, crossV A C m = b := ⟨_, rfl⟩
    have hrb := unhideR HRg m
    rw [hbest] at hca HSh hrb
    clear hbest hC hC2 hcC HC HW HTk HAll HLen HA HnA HB4
    generalize wr = wz at *
    go_wp2_with fail
    refine hca.mono ?_
    rintro e w6 ⟨rfl, nq, hw6⟩
    have HW6 : HeldR (Below wz.heap.size wz w6) := hideR (by rw [hw6]; exact drew_below wz nq (Below.refl _ _))
    clear hca hw6
    go_wp2
    go_loopw [15] (fun iv wl => ∃ k : Nat, k ≤ n ∧ iv = .int .i64 (k : Nat) ∧ HeldR (∀ i, i < k → i ≠ m → 2 * crossV A C i < best) ∧ HeldR (Below wz.heap.size wz wl)) (fun iv _ => n + 1 - (intOf iv).toNat)
    case atStart => exact ⟨0, by omega, rfl, hideR (fun i hi => absurd hi (Nat.not_lt_zero i)), HW6⟩
    case round =>
    clear HW6
    obtain ⟨k, hk, rfl, HI, HW⟩ := hrel
    by_cases hlk : k < n
    · have tk2 : decide (k < n) = true := decide_eq_true hlk
      have tki2 : decide ((k : Int) < (n : Int)) = true := decide_eq_true (by omega)
      have wk : IntKind.i64.wrap ((k : Int) + 1) = ((k + 1 : Nat) : Int) := by rw [show (k : Int) + 1 = ((k + 1 : Nat) : Int) by omega]; exact iwrap (by omega) (by omega)
      by_cases hkm : k = m
      · have tne : ((k : Int) != (m : Int)) = false := by simp; omega
        have tne' : (k != m) = false := by simp; omega
        have HI' : HeldR (∀ i, i < k + 1 → i ≠ m → 2 * crossV A C i < best) := hideR (fun i hi hne => unhideR HI i (by omega) hne)
        clear hkm HI HCa
        go_wp2
        exact ⟨⟨k + 1, by omega, by first | rfl | go_num, HI', HW⟩, by simp [intOf]; omega⟩
      · have tne : ((k : Int) != (m : Int)) = true := by simp; omega
        have tne' : (k != m) = true := by simp; omega
        have hca2 := unhideR HCa wr k (unhideR HW) hlk
        unfold CaPost at hca2
        have hrk := unhideR HRg k
        have HI' : HeldR (2 * crossV A C k < best → ∀ i, i < k + 1 → i ≠ m → 2 * crossV A C i < best) := hideR (fun q i hi hne => by
          by_cases e : i = k
          · rw [e]; exact q
          · exact unhideR HI i (by omega) hne)
        obtain ⟨ck, hck⟩ : ∃ c, crossV A C k = c := ⟨_, rfl⟩
        rw [hck] at hca2 hrk HI'
        have e1 : IntKind.i64.wrap (2 * ck) = 2 * ck := iwrap (by omega) (by omega)
        clear hck HI HCa hkm
        go_wp2_with fail
        refine hca2.mono ?_
        rintro e w7 ⟨rfl, nq, hw7⟩
        have HW7 : HeldR (Below wz.heap.size wz w7) := hideR (by rw [hw7]; exact drew_below _ nq (unhideR HW))
        clear hca2 hw7 HW
        by_cases q : best ≤ 2 * ck
        · have tq : decide (best ≤ 2 * ck) = true := decide_eq_true q
          have HEnd := hideR (below_go (unhideR HBr) (unhideR HW7))
          clear HI'
          go_wp2
          go_ret
          exact ⟨rfl, unhideR HEnd⟩
        · have tq : decide (best ≤ 2 * ck) = false := decide_eq_false q
          have HI2 := hideR (unhideR HI' (by omega))
          clear HI'
          go_wp2
          exact ⟨⟨k + 1, by omega, by first | rfl | go_num, HI2, HW7⟩, by simp [intOf]; omega⟩
    obtain rfl : n = k := by omega
    have hgu := guess_ok (c1 := c1) (c2 := cc) (unhideR HS wr (below_go (unhideR HBr) (unhideR HW))) (unhideR HAc wr (unhideR HW)) (unhideR HCc wr (unhideR HW)) (by rw [(unhideR HO2).la]; omega) (by rw [(unhideR HO2).lb]; omega)
    rw [(unhideR HO2).la, (unhideR HO2).lb] at hgu
    have HBe := hideR (below_go (unhideR HBr) (unhideR HW))
    have HI2 := hideR (unhideR HI)
    clear HCa HRg HAc HCc HI HW hrb
    go_wp2_with fail
    refine hgu.mono ?_
    rintro e w8 ⟨q, eq, rfl, heq, _, hq1, k8⟩
    rw [unhideR HGE] at heq
    obtain rfl := errIs_0 heq
    obtain rfl := unhideR HSh q (unhideR HI2) (hq1 (unhideR HGE))
    have HEnd := hideR (below_go (unhideR HBe) k8)
    have tqq : ((q : Int) == (q : Int)) = true := by simp
    have tqq' : (q == q) = true := by simp
    clear hgu heq hq1 k8 HSh HI2 HGE
    go_wp2
    go_ret
    exact ⟨rfl, unhideR HEnd⟩
end Go.Proofs.YtngdemhhcablmakDoor
