
/-
  Plain numbers: little-endian digits to the base of a million, and greatest common divisors. Nothing of the program.
-/
namespace Go.Proofs.YtkdmeclbnnjdgalDoor

def pw : Nat → Int
  | 0 => 1
  | n + 1 => 1000000 * pw n
def val : List Int → Int
  | [] => 0
  | d :: r => d + 1000000 * val r
def Digs (L : List Int) : Prop := ∀ d ∈ L, 0 ≤ d ∧ d < 1000000
/-- No nought at the end. -/
def Top (L : List Int) : Prop := ∀ k, L.length = k + 1 → L.getD k 0 ≠ 0

theorem pw_add (i k : Nat) : pw (i + k) = pw i * pw k := by
  induction i with
  | zero => simp [pw]
  | succ i ih => rw [Nat.succ_add]; simp only [pw, ih, Int.mul_assoc]
theorem pw_pos (i : Nat) : 0 < pw i := by
  induction i with
  | zero => simp [pw]
  | succ i ih => simp only [pw]; omega
theorem val_append (A B : List Int) : val (A ++ B) = val A + pw A.length * val B := by
  induction A with
  | nil => simp [val, pw]
  | cons d r ih => simp only [List.cons_append, val, ih, List.length_cons, pw, Int.mul_add, Int.mul_assoc]; omega
theorem val_take_succ (A : List Int) (i : Nat) (h : i < A.length) : val (A.take (i + 1)) = val (A.take i) + A.getD i 0 * pw i := by
  rw [List.take_succ_eq_append_getElem h, val_append, List.length_take, Nat.min_eq_left (by omega)]
  simp [val, List.getD_eq_getElem?_getD, List.getElem?_eq_getElem h, Int.mul_comm]
theorem val_set (O : List Int) : ∀ (j : Nat) (x : Int), j < O.length → val (O.set j x) = val O + (x - O.getD j 0) * pw j := by
  induction O with
  | nil => intro j x h; simp at h
  | cons d r ih =>
    intro j x h
    cases j with
    | zero => simp [val, pw]; omega
    | succ j =>
      have := ih j x (by simpa using h)
      simp only [List.set_cons_succ, val, this, List.getD_cons_succ, pw, Int.mul_add]
      have e : 1000000 * ((x - r.getD j 0) * pw j) = (x - r.getD j 0) * (1000000 * pw j) := by ac_rfl
      rw [e]; omega
theorem val_nonneg (L : List Int) (h : Digs L) : 0 ≤ val L := by
  induction L with
  | nil => simp [val]
  | cons d r ih =>
    have h1 := h d (by simp)
    have h2 := ih (fun x hx => h x (by simp [hx]))
    simp only [val]; omega
theorem val_noughts (L : List Int) (h : ∀ i, L.getD i 0 = 0) : val L = 0 := by
  induction L with
  | nil => rfl
  | cons d r ih =>
    have h0 : d = 0 := by simpa using h 0
    have h1 := ih (fun i => by simpa using h (i + 1))
    simp [val, h0, h1]
theorem val_trim (L : List Int) (m : Nat) (h : ∀ i, m ≤ i → L.getD i 0 = 0) : val (L.take m) = val L := by
  have e := val_append (L.take m) (L.drop m)
  rw [List.take_append_drop] at e
  have z : val (L.drop m) = 0 := val_noughts _ (fun i => by
    have := h (m + i) (by omega)
    simpa [List.getD_eq_getElem?_getD, List.getElem?_drop] using this)
  rw [e, z]; simp
theorem Top.tail {d : Int} {r : List Int} (h : Top (d :: r)) : Top r := fun k hk => by
  have := h (k + 1) (by simp [hk])
  simpa using this
theorem val_pos (L : List Int) (hd : Digs L) (ht : Top L) (hne : L ≠ []) : 0 < val L := by
  induction L with
  | nil => exact absurd rfl hne
  | cons d r ih =>
    have h1 := hd d (by simp)
    have hr : Digs r := fun x hx => hd x (by simp [hx])
    cases r with
    | nil =>
      have := ht 0 rfl
      simp at this
      simp [val]; omega
    | cons e s =>
      have := ih hr ht.tail (by simp)
      simp only [val] at this ⊢; omega
theorem canon_unique (A : List Int) : ∀ B, Digs A → Digs B → Top A → Top B → val A = val B → A = B := by
  induction A with
  | nil =>
    intro B _ hB _ tB e
    cases B with
    | nil => rfl
    | cons d r =>
      have := val_pos (d :: r) hB tB (by simp)
      simp only [val] at e this; omega
  | cons d r ih =>
    intro B hA hB tA tB e
    cases B with
    | nil =>
      have := val_pos (d :: r) hA tA (by simp)
      simp only [val] at e this; omega
    | cons c s =>
      have h1 := hA d (by simp)
      have h2 := hB c (by simp)
      simp only [val] at e
      have e1 : d = c := by omega
      have e2 : val r = val s := by omega
      rw [e1, ih s (fun x hx => hA x (by simp [hx])) (fun x hx => hB x (by simp [hx])) tA.tail tB.tail e2]

/-- One step of the inner round of a product. -/
theorem mul_step (v c P o a b d c' t X Y pi pk : Int) (hP : P = pi * pk) (h : v + c * P = X + a * pi * Y) (ht : t = c + o + a * b) (hd : t = 1000000 * c' + d) :
    (v + (d - o) * P) + c' * (1000000 * P) = X + a * pi * (Y + b * pk) := by
  have e1 : c' * (1000000 * P) + d * P = t * P := by rw [hd, Int.add_mul]; congr 1; ac_rfl
  have e2 : t * P = c * P + o * P + a * b * P := by rw [ht, Int.add_mul, Int.add_mul]
  have e3 : a * b * P = a * pi * (b * pk) := by rw [hP]; ac_rfl
  rw [Int.sub_mul, Int.mul_add, ← e3]
  omega

theorem set_getD (L : List Int) (j : Nat) (x : Int) (i : Nat) (h : j < L.length) : (L.set j x).getD i 0 = if i = j then x else L.getD i 0 := by
  simp only [List.getD_eq_getElem?_getD, List.getElem?_set]
  by_cases e : i = j
  · subst e; simp [h]
  · simp [e, Ne.symm e]
theorem digs_set {L : List Int} (h : Digs L) (j : Nat) (x : Int) (hx : 0 ≤ x ∧ x < 1000000) : Digs (L.set j x) := fun d hd => by
  rcases List.mem_or_eq_of_mem_set hd with m | e
  · exact h d m
  · rw [e]; exact hx
theorem digs_getD {L : List Int} (h : Digs L) (i : Nat) : 0 ≤ L.getD i 0 ∧ L.getD i 0 < 1000000 := by
  by_cases hi : i < L.length
  · rw [List.getD_eq_getElem?_getD, List.getElem?_eq_getElem hi]; exact h _ (List.getElem_mem hi)
  · rw [List.getD_eq_getElem?_getD, List.getElem?_eq_none (by omega)]; simp
theorem digs_take {L : List Int} (h : Digs L) (m : Nat) : Digs (L.take m) := fun d hd => h d (List.mem_of_mem_take hd)
theorem top_take {L : List Int} {m : Nat} (hm : m ≤ L.length) (h : m = 0 ∨ L.getD (m - 1) 0 ≠ 0) : Top (L.take m) := fun k hk => by
  rw [List.length_take, Nat.min_eq_left hm] at hk
  subst hk
  rcases h with h | h
  · omega
  · simpa [List.getD_eq_getElem?_getD, List.getElem?_take] using h

/-- The greatest common divisor goes through a step of Go's remainder. -/
theorem gcd_rem (a b : Int) : Int.gcd (b.tmod a) a = Int.gcd a b := by
  simp only [Int.gcd, Int.natAbs_tmod]
  exact (Nat.gcd_rec _ _).symm
theorem gcd_rem' (a b : Int) : Int.gcd b (a.tmod b) = Int.gcd a b := by
  rw [Int.gcd_comm, gcd_rem, Int.gcd_comm]
end Go.Proofs.YtkdmeclbnnjdgalDoor
