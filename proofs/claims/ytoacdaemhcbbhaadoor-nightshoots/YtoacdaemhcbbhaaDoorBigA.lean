/-
   Plain numbers, more: which of two rows of digits is the greater number.
-/
/-
  Plain numbers: little-endian digits to the base of a million, and greatest common divisors. Nothing of the program.
-/
namespace Go.Proofs.YtoacdaemhcbbhaaDoor

def pw : Nat → Int
  | 0 => 1
  | n + 1 => 1000000 * pw n
def val : List Int → Int
  | [] => 0
  | d :: r => d + 1000000 * val r
def Digs (L : List Int) : Prop := ∀ d ∈ L, 0 ≤ d ∧ d < 1000000
/-- No nought at the end. -/
def Top (L : List Int) : Prop := ∀ k, L.length = k + 1 → L.getD k 0 ≠ 0

theorem pw_add (i k : Nat) : pw (i + k) = pw i * pw k := by
  induction i with
  | zero => simp [pw]
  | succ i ih => rw [Nat.succ_add]; simp only [pw, ih, Int.mul_assoc]
theorem pw_pos (i : Nat) : 0 < pw i := by
  induction i with
  | zero => simp [pw]
  | succ i ih => simp only [pw]; omega
theorem val_append (A B : List Int) : val (A ++ B) = val A + pw A.length * val B := by
  induction A with
  | nil => simp [val, pw]
  | cons d r ih => simp only [List.cons_append, val, ih, List.length_cons, pw, Int.mul_add, Int.mul_assoc]; omega
theorem val_take_succ (A : List Int) (i : Nat) (h : i < A.length) : val (A.take (i + 1)) = val (A.take i) + A.getD i 0 * pw i := by
  rw [List.take_succ_eq_append_getElem h, val_append, List.length_take, Nat.min_eq_left (by omega)]
  simp [val, List.getD_eq_getElem?_getD, List.getElem?_eq_getElem h, Int.mul_comm]
theorem val_set (O : List Int) : ∀ (j : Nat) (x : Int), j < O.length → val (O.set j x) = val O + (x - O.getD j 0) * pw j := by
  induction O with
  | nil => intro j x h; simp at h
  | cons d r ih =>
    intro j x h
    cases j with
    | zero => simp [val, pw]; omega
    | succ j =>
      have := ih j x (by simpa using h)
      simp only [List.set_cons_succ, val, this, List.getD_cons_succ, pw, Int.mul_add]
      have e : 1000000 * ((x - r.getD j 0) * pw j) = (x - r.getD j 0) * (1000000 * pw j) := by ac_rfl
      rw [e]; omega
theorem val_nonneg (L : List Int) (h : Digs L) : 0 ≤ val L := by
  induction L with
  | nil => simp [val]
  | cons d r ih =>
    have h1 := h d (by simp)
    have h2 := ih (fun x hx => h x (by simp [hx]))
    simp only [val]; omega
theorem val_noughts (L : List Int) (h : ∀ i, L.getD i 0 = 0) : val L = 0 := by
  induction L with
  | nil => rfl
  | cons d r ih =>
    have h0 : d = 0 := by simpa using h 0
    have h1 := ih (fun i => by simpa using h (i + 1))
    simp [val, h0, h1]
theorem val_trim (L : List Int) (m : Nat) (h : ∀ i, m ≤ i → L.getD i 0 = 0) : val (L.take m) = val L := by
  have e := val_append (L.take m) (L.drop m)
  rw [List.take_append_drop] at e
  have z : val (L.drop m) = 0 := val_noughts _ (fun i => by
    have := h (m + i) (by omega)
    simpa [List.getD_eq_getElem?_getD, List.getElem?_drop] using this)
  rw [e, z]; simp
theorem Top.tail {d : Int} {r : List Int} (h : Top (d :: r)) : Top r := fun k hk => by
  have := h (k + 1) (by simp [hk])
  simpa using this
theorem val_pos (L : List Int) (hd : Digs L) (ht : Top L) (hne : L ≠ []) : 0 < val L := by
  induction L with
  | nil => exact absurd rfl hne
  | cons d r ih =>
    have h1 := hd d (by simp)
    have hr : Digs r := fun x hx => hd x (by simp [hx])
    cases r with
    | nil =>
      have := ht 0 rfl
      simp at this
      simp [val]; omega
    | cons e s =>
      have := ih hr ht.tail (by simp)
      simp only [val] at this ⊢; omega
theorem canon_unique (A : List Int) : ∀ B, Digs A → Digs B → Top A → Top B → val A = val B → A = B := by
  induction A with
  | nil =>
    intro B _ hB _ tB e
    cases B with
    | nil => rfl
    | cons d r =>
      have := val_pos (d :: r) hB tB (by simp)
      simp only [val] at e this; omega
  | cons d r ih =>
    intro B hA hB tA tB e
    cases B with
    | nil =>
      have := val_pos (d :: r) hA tA (by simp)
      simp only [val] at e this; omega
    | cons c s =>
      have h1 := hA d (by simp)
      have h2 := hB c (by simp)
      simp only [val] at e
      have e1 : d = c := by omega
      have e2 : val r = val s := by omega
      rw [e1, ih s (fun x hx => hA x (by simp [hx])) (fun x hx => hB x (by simp [hx])) tA.tail tB.tail e2]

/-- One step of the inner round of a product. -/
theorem mul_step (v c P o a b d c' t X Y pi pk : Int) (hP : P = pi * pk) (h : v + c * P = X + a * pi * Y) (ht : t = c + o + a * b) (hd : t = 1000000 * c' + d) :
    (v + (d - o) * P) + c' * (1000000 * P) = X + a * pi * (Y + b * pk) := by
  have e1 : c' * (1000000 * P) + d * P = t * P := by rw [hd, Int.add_mul]; congr 1; ac_rfl
  have e2 : t * P = c * P + o * P + a * b * P := by rw [ht, Int.add_mul, Int.add_mul]
  have e3 : a * b * P = a * pi * (b * pk) := by rw [hP]; ac_rfl
  rw [Int.sub_mul, Int.mul_add, ← e3]
  omega

theorem set_getD (L : List Int) (j : Nat) (x : Int) (i : Nat) (h : j < L.length) : (L.set j x).getD i 0 = if i = j then x else L.getD i 0 := by
  simp only [List.getD_eq_getElem?_getD, List.getElem?_set]
  by_cases e : i = j
  · subst e; simp [h]
  · simp [e, Ne.symm e]
theorem digs_set {L : List Int} (h : Digs L) (j : Nat) (x : Int) (hx : 0 ≤ x ∧ x < 1000000) : Digs (L.set j x) := fun d hd => by
  rcases List.mem_or_eq_of_mem_set hd with m | e
  · exact h d m
  · rw [e]; exact hx
theorem digs_getD {L : List Int} (h : Digs L) (i : Nat) : 0 ≤ L.getD i 0 ∧ L.getD i 0 < 1000000 := by
  by_cases hi : i < L.length
  · rw [List.getD_eq_getElem?_getD, List.getElem?_eq_getElem hi]; exact h _ (List.getElem_mem hi)
  · rw [List.getD_eq_getElem?_getD, List.getElem?_eq_none (by omega)]; simp
theorem digs_take {L : List Int} (h : Digs L) (m : Nat) : Digs (L.take m) := fun d hd => h d (List.mem_of_mem_take hd)
theorem top_take {L : List Int} {m : Nat} (hm : m ≤ L.length) (h : m = 0 ∨ L.getD (m - 1) 0 ≠ 0) : Top (L.take m) := fun k hk => by
  rw [List.length_take, Nat.min_eq_left hm] at hk
  subst hk
  rcases h with h | h
  · omega
  · simpa [List.getD_eq_getElem?_getD, List.getElem?_take] using h

/-- The greatest common divisor goes through a step of Go's remainder. -/
theorem gcd_rem (a b : Int) : Int.gcd (b.tmod a) a = Int.gcd a b := by
  simp only [Int.gcd, Int.natAbs_tmod]
  exact (Nat.gcd_rec _ _).symm
theorem gcd_rem' (a b : Int) : Int.gcd b (a.tmod b) = Int.gcd a b := by
  rw [Int.gcd_comm, gcd_rem, Int.gcd_comm]
end Go.Proofs.YtoacdaemhcbbhaaDoor
namespace Go.Proofs.YtoacdaemhcbbhaaDoor

theorem val_lt_pw (L : List Int) (h : Digs L) : val L < pw L.length := by
  induction L with
  | nil => simp [val, pw]
  | cons d r ih =>
    have h1 := h d (by simp)
    have h2 := ih (fun x hx => h x (by simp [hx]))
    simp only [val, List.length_cons, pw]
    omega
theorem pw_le {i k : Nat} (h : i ≤ k) : pw i ≤ pw k := by
  obtain ⟨j, rfl⟩ := Nat.exists_eq_add_of_le h
  rw [pw_add]
  have a := pw_pos i
  have b := pw_pos j
  have : pw i * 1 ≤ pw i * pw j := Int.mul_le_mul_of_nonneg_left (by omega) (by omega)
  omega
theorem val_ge_pw {L : List Int} {k : Nat} (hd : Digs L) (ht : Top L) (hl : L.length = k + 1) : pw k ≤ val L := by
  have e : val L = val (L.take k) + L.getD k 0 * pw k := by
    rw [← val_take_succ L k (by omega), ← hl, List.take_length]
  have h1 := val_nonneg (L.take k) (digs_take hd k)
  have h2 := (digs_getD hd k).1
  have h3 := ht k hl
  have h4 := pw_pos k
  have h5 : 1 * pw k ≤ L.getD k 0 * pw k := Int.mul_le_mul_of_nonneg_right (by omega) (by omega)
  omega
/-- the longer is the greater. -/
theorem val_lt_len {A B : List Int} (hA : Digs A) (hB : Digs B) (tB : Top B) (h : A.length < B.length) : val A < val B := by
  obtain ⟨k, hk⟩ : ∃ k, B.length = k + 1 := ⟨B.length - 1, by omega⟩
  have h1 := val_lt_pw A hA
  have h2 := pw_le (show A.length ≤ k by omega)
  have h3 := val_ge_pw hB tB hk
  omega
theorem val_split (A : List Int) (i : Nat) (h : i ≤ A.length) : val A = val (A.take i) + pw i * val (A.drop i) := by
  have e := val_append (A.take i) (A.drop i)
  rw [List.take_append_drop, List.length_take, Nat.min_eq_left h] at e
  exact e
theorem drop_same {A B : List Int} (hl : A.length = B.length) {i : Nat} (h : ∀ j, i ≤ j → A.getD j 0 = B.getD j 0) : A.drop i = B.drop i := by
  refine List.ext_getElem? (fun j => ?_)
  rw [List.getElem?_drop, List.getElem?_drop]
  have e := h (i + j) (by omega)
  rw [List.getD_eq_getElem?_getD, List.getD_eq_getElem?_getD] at e
  by_cases hj : i + j < A.length
  · rw [List.getElem?_eq_getElem hj, List.getElem?_eq_getElem (by omega)] at e ⊢
    exact congrArg some e
  · rw [List.getElem?_eq_none (by omega), List.getElem?_eq_none (by omega)]
/-- the first digit from the top that differs tells. -/
theorem val_lt_digit {A B : List Int} (hA : Digs A) (hB : Digs B) (hl : A.length = B.length) {i : Nat} (hi : i < A.length) (h : ∀ j, i + 1 ≤ j → A.getD j 0 = B.getD j 0) (hd : A.getD i 0 < B.getD i 0) : val A < val B := by
  have e1 := val_split A (i + 1) (by omega)
  have e2 := val_split B (i + 1) (by omega)
  rw [drop_same hl h] at e1
  rw [val_take_succ A i hi] at e1
  rw [val_take_succ B i (by omega)] at e2
  have a1 := val_lt_pw (A.take i) (digs_take hA i)
  rw [List.length_take, Nat.min_eq_left (by omega)] at a1
  have a2 := val_nonneg (B.take i) (digs_take hB i)
  have a3 : (A.getD i 0 + 1) * pw i ≤ B.getD i 0 * pw i := Int.mul_le_mul_of_nonneg_right (by omega) (Int.le_of_lt (pw_pos i))
  rw [Int.add_mul] at a3
  omega
theorem val_same {A B : List Int} (hl : A.length = B.length) (h : ∀ j, A.getD j 0 = B.getD j 0) : val A = val B := by
  have := drop_same hl (i := 0) (fun j _ => h j)
  simp at this
  rw [this]
theorem nil_of_val {L : List Int} (hd : Digs L) (ht : Top L) (h : val L = 0) : L = [] := by
  cases L with
  | nil => rfl
  | cons d r => have := val_pos _ hd ht (by simp); omega
theorem val_nil_iff {L : List Int} (hd : Digs L) (ht : Top L) : L.length = 0 ↔ val L = 0 := by
  constructor
  · intro h
    rw [List.length_eq_zero_iff.1 h]
    rfl
  · intro h
    rw [nil_of_val hd ht h]
    rfl
/-- -1, 0, 1. -/
def cmp3 (a b : Int) : Int := if a < b then -1 else if b < a then 1 else 0
theorem cmp3_lt {a b : Int} (h : a < b) : cmp3 a b = -1 := by unfold cmp3; rw [if_pos h]
theorem cmp3_gt {a b : Int} (h : b < a) : cmp3 a b = 1 := by unfold cmp3; rw [if_neg (by omega), if_pos h]
theorem cmp3_eq {a b : Int} (h : a = b) : cmp3 a b = 0 := by unfold cmp3; rw [if_neg (by omega), if_neg (by omega)]
end Go.Proofs.YtoacdaemhcbbhaaDoor
