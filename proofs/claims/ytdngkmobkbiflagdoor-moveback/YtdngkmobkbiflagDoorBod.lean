/-
  Bodies that pull each other, in whole numbers.
-/
import Derived.RowKitTokens
namespace Go.Proofs.YtdngkmobkbiflagDoor

/-- three whole numbers. -/
structure Cl where
  x : Int
  y : Int
  z : Int
deriving DecidableEq, Inhabited
theorem Cl.ext' {p q : Cl} (h1 : p.x = q.x) (h2 : p.y = q.y) (h3 : p.z = q.z) : p = q := by
  cases p
  cases q
  simp_all
def Cl.add (p q : Cl) : Cl := ⟨p.x + q.x, p.y + q.y, p.z + q.z⟩
def Cl.sub (p q : Cl) : Cl := ⟨p.x - q.x, p.y - q.y, p.z - q.z⟩
def Cl.mul (k : Int) (p : Cl) : Cl := ⟨k * p.x, k * p.y, k * p.z⟩
def Cl.neg (p : Cl) : Cl := ⟨-p.x, -p.y, -p.z⟩
def cl0 : Cl := ⟨0, 0, 0⟩
/-- no coordinate is greater. -/
structure Cl.In (p : Cl) (n : Int) : Prop where
  x1 : -n ≤ p.x
  x2 : p.x ≤ n
  y1 : -n ≤ p.y
  y2 : p.y ≤ n
  z1 : -n ≤ p.z
  z2 : p.z ≤ n
instance (p : Cl) (n : Int) : Decidable (p.In n) :=
  decidable_of_iff (-n ≤ p.x ∧ p.x ≤ n ∧ -n ≤ p.y ∧ p.y ≤ n ∧ -n ≤ p.z ∧ p.z ≤ n) ⟨fun h => ⟨h.1, h.2.1, h.2.2.1, h.2.2.2.1, h.2.2.2.2.1, h.2.2.2.2.2⟩, fun h => ⟨h.x1, h.x2, h.y1, h.y2, h.z1, h.z2⟩⟩

/-! roots -/
def IsRoot (n r : Int) : Prop := 0 ≤ r ∧ r * r ≤ n ∧ n < (r + 1) * (r + 1)
theorem IsRoot.same {n r s : Int} (h : IsRoot n r) (k : IsRoot n s) : r = s := by
  obtain ⟨h1, h2, h3⟩ := h
  obtain ⟨k1, k2, k3⟩ := k
  rcases Int.lt_trichotomy r s with l | e | l
  · exfalso
    have : (r + 1) * (r + 1) ≤ s * s := Int.mul_le_mul (by omega) (by omega) (by omega) (by omega)
    omega
  · exact e
  · exfalso
    have : (s + 1) * (s + 1) ≤ r * r := Int.mul_le_mul (by omega) (by omega) (by omega) (by omega)
    omega
/-- bit by bit, from the top. -/
def rootB (n : Int) : Nat → Int → Int
  | 0, r => r
  | k + 1, r => rootB n k (if (r + 2 ^ k) * (r + 2 ^ k) ≤ n then r + 2 ^ k else r)
theorem rootB_is (n : Int) : ∀ (k : Nat) (r : Int), 0 ≤ r → r * r ≤ n → n < (r + 2 ^ k) * (r + 2 ^ k) → IsRoot n (rootB n k r)
  | 0, r, h0, h1, h2 => ⟨h0, h1, by show n < (r + 1) * (r + 1); simpa using h2⟩
  | k + 1, r, h0, h1, h2 => by
    have hp : (0 : Int) < 2 ^ k := Int.pow_pos (by decide)
    have e : (2 : Int) ^ (k + 1) = 2 ^ k + 2 ^ k := by rw [Int.pow_succ]; omega
    unfold rootB
    split
    · rename_i h
      refine rootB_is n k _ (by omega) h ?_
      rw [e] at h2
      rw [show r + 2 ^ k + 2 ^ k = r + (2 ^ k + 2 ^ k) by omega]
      exact h2
    · rename_i h
      exact rootB_is n k r h0 h1 (by omega)
def rootV (n : Int) : Int := rootB n 31 0
theorem rootV_is {n : Int} (h : 0 ≤ n) (k : n < 2 ^ 62) : IsRoot n (rootV n) := rootB_is n 31 0 (by omega) (by omega) (by
  rw [show ((0 : Int) + 2 ^ 31) * (0 + 2 ^ 31) = 2 ^ 62 by decide]
  exact k)

/-! the pull -/
def sqC (d : Cl) : Int := d.x * d.x + d.y * d.y + d.z * d.z
def shareV (n r2 r : Int) : Int := (n * 1073741824).tdiv ((r2 + 64) * (r + 8))
def pullV (d : Cl) : Cl := if d.In 2097152 then ⟨shareV d.x (sqC d) (rootV (sqC d)), shareV d.y (sqC d) (rootV (sqC d)), shareV d.z (sqC d) (rootV (sqC d))⟩ else cl0
theorem shareV_neg (n r2 r : Int) : shareV (-n) r2 r = -shareV n r2 r := by
  unfold shareV
  rw [Int.neg_mul, Int.neg_tdiv]
theorem sqC_neg (d : Cl) : sqC d.neg = sqC d := by
  unfold sqC Cl.neg
  simp only [Int.neg_mul_neg]
theorem In.neg {d : Cl} {n : Int} (h : d.In n) : d.neg.In n := by
  obtain ⟨a, b, c, d, e, f⟩ := h
  exact ⟨by show -n ≤ -_; omega, by show -_ ≤ n; omega, by show -n ≤ -_; omega, by show -_ ≤ n; omega, by show -n ≤ -_; omega, by show -_ ≤ n; omega⟩
theorem neg_neg (d : Cl) : d.neg.neg = d := by
  unfold Cl.neg
  simp
theorem pullV_neg (d : Cl) : pullV d.neg = (pullV d).neg := by
  unfold pullV
  by_cases h : d.In 2097152
  · rw [if_pos h, if_pos (In.neg h), sqC_neg]
    unfold Cl.neg
    simp only [shareV_neg]
  · rw [if_neg h, if_neg (fun k => h (by have := In.neg k; rwa [neg_neg] at this))]
    rfl
theorem pullV_zero : pullV cl0 = cl0 := by decide +kernel
theorem sqC_range {d : Cl} (h : d.In 2097152) : 0 ≤ sqC d ∧ sqC d ≤ 13194139533312 := by
  unfold sqC
  have q : ∀ a : Int, -2097152 ≤ a → a ≤ 2097152 → 0 ≤ a * a ∧ a * a ≤ 4398046511104 := fun a h1 h2 => by
    have e : a * a = (a.natAbs : Int) * (a.natAbs : Int) := by
      rw [← Int.natAbs_mul_self (a := a), Int.natCast_mul]
    rw [e]
    have l : (a.natAbs : Int) ≤ 2097152 := by omega
    refine ⟨Int.mul_nonneg (by omega) (by omega), ?_⟩
    exact Int.le_trans (Int.mul_le_mul l l (by omega) (by omega)) (by decide)
  have a1 := q d.x h.x1 h.x2
  have a2 := q d.y h.y1 h.y2
  have a3 := q d.z h.z1 h.z2
  omega
theorem shareV_size {n r2 r : Int} (h1 : -2097152 ≤ n) (h2 : n ≤ 2097152) (h3 : 0 ≤ r2) (h4 : 0 ≤ r) : -4398046511104 ≤ shareV n r2 r ∧ shareV n r2 r ≤ 4398046511104 := by
  have hd : (512 : Int) ≤ (r2 + 64) * (r + 8) := Int.le_trans (by decide : (512 : Int) ≤ 64 * 8) (Int.mul_le_mul (by omega) (by omega) (by omega) (by omega))
  generalize hD : (r2 + 64) * (r + 8) = D at *
  have key : ∀ m : Int, 0 ≤ m → m ≤ 2097152 → 0 ≤ (m * 1073741824).tdiv D ∧ (m * 1073741824).tdiv D ≤ 4398046511104 := fun m a b => by
    rw [Int.tdiv_eq_ediv_of_nonneg (by omega)]
    refine ⟨Int.ediv_nonneg (by omega) (by omega), ?_⟩
    refine Int.ediv_le_of_le_mul (by omega) ?_
    have : (4398046511104 : Int) * 512 ≤ 4398046511104 * D := Int.mul_le_mul_of_nonneg_left hd (by decide)
    omega
  unfold shareV
  rw [hD]
  rcases Int.le_total 0 n with a | a
  · have := key n a h2
    omega
  · have k := key (-n) (by omega) (by omega)
    rw [Int.neg_mul, Int.neg_tdiv] at k
    omega
theorem pullV_size (d : Cl) : (pullV d).In 4398046511104 := by
  unfold pullV
  by_cases h : d.In 2097152
  · rw [if_pos h]
    have s := sqC_range h
    have r := (rootV_is s.1 (by have := s.2; omega)).1
    have a1 := shareV_size h.x1 h.x2 s.1 r
    have a2 := shareV_size h.y1 h.y2 s.1 r
    have a3 := shareV_size h.z1 h.z2 s.1 r
    exact ⟨a1.1, a1.2, a2.1, a2.2, a3.1, a3.2⟩
  · rw [if_neg h]
    exact ⟨by decide, by decide, by decide, by decide, by decide, by decide⟩

/-! bodies -/
structure Bd where
  at_ : Cl
  sp : Cl
  m : Int
deriving DecidableEq, Inhabited
def bd0 : Bd := ⟨cl0, cl0, 0⟩
/-- what the first k pull at p. -/
def forceK (l : List Bd) (p : Cl) : Nat → Cl
  | 0 => cl0
  | k + 1 => (forceK l p k).add (Cl.mul (l.getD k bd0).m (pullV ((l.getD k bd0).at_.sub p)))
def force (l : List Bd) (p : Cl) : Cl := forceK l p l.length
def kick (s : Int) (l : List Bd) : List Bd := l.map fun b => { b with sp := b.sp.add (Cl.mul s (force l b.at_)) }
def drift (s : Int) (l : List Bd) : List Bd := l.map fun b => { b with at_ := b.at_.add (Cl.mul s b.sp) }
def stepV (s : Int) (l : List Bd) : List Bd := kick s (drift s (kick s l))
theorem kick_length (s : Int) (l : List Bd) : (kick s l).length = l.length := List.length_map _
theorem drift_length (s : Int) (l : List Bd) : (drift s l).length = l.length := List.length_map _
theorem stepV_length (s : Int) (l : List Bd) : (stepV s l).length = l.length := by
  unfold stepV
  rw [kick_length, drift_length, kick_length]
/-- the force hangs on the places and the masses alone. -/
theorem forceK_same {l l' : List Bd} (p : Cl) : ∀ k, (∀ j, j < k → (l.getD j bd0).m = (l'.getD j bd0).m ∧ (l.getD j bd0).at_ = (l'.getD j bd0).at_) → forceK l p k = forceK l' p k
  | 0, _ => rfl
  | k + 1, h => by
    unfold forceK
    rw [forceK_same p k (fun j hj => h j (by omega)), (h k (by omega)).1, (h k (by omega)).2]
theorem getD_map {f : Bd → Bd} (l : List Bd) {j : Nat} (h : j < l.length) : (l.map f).getD j bd0 = f (l.getD j bd0) := by
  rw [List.getD_eq_getElem?_getD, List.getD_eq_getElem?_getD, List.getElem?_map, List.getElem?_eq_getElem h]
  rfl
theorem force_kick (s : Int) (l : List Bd) (p : Cl) : force (kick s l) p = force l p := by
  unfold force
  rw [kick_length]
  refine forceK_same p _ (fun j hj => ?_)
  unfold kick
  rw [getD_map l hj]
  exact ⟨rfl, rfl⟩
theorem add_back (p q : Cl) (s : Int) : (p.add (Cl.mul s q)).add (Cl.mul (-s) q) = p := by
  unfold Cl.add Cl.mul
  refine Cl.ext' ?_ ?_ ?_
  all_goals
    show _ + _ * _ + -_ * _ = _
    rw [Int.neg_mul]
    omega
theorem kick_back (s : Int) (l : List Bd) : kick (-s) (kick s l) = l := by
  have e : ∀ b : Bd, force (kick s l) b.at_ = force l b.at_ := fun b => force_kick s l _
  rw [kick]
  simp only [e]
  unfold kick
  rw [List.map_map]
  refine Eq.trans (List.map_congr_left (fun b _ => ?_)) (List.map_id l)
  show Bd.mk b.at_ ((b.sp.add (Cl.mul s (force l b.at_))).add (Cl.mul (-s) (force l b.at_))) b.m = b
  rw [add_back]
theorem drift_back (s : Int) (l : List Bd) : drift (-s) (drift s l) = l := by
  unfold drift
  rw [List.map_map]
  refine Eq.trans (List.map_congr_left (fun b _ => ?_)) (List.map_id l)
  show Bd.mk ((b.at_.add (Cl.mul s b.sp)).add (Cl.mul (-s) b.sp)) b.sp b.m = b
  rw [add_back]
theorem kick_forth (s : Int) (l : List Bd) : kick s (kick (-s) l) = l := by
  have := kick_back (-s) l
  rwa [Int.neg_neg] at this
theorem stepV_back (s : Int) (l : List Bd) : stepV (-s) (stepV s l) = l := by
  unfold stepV
  rw [kick_back, drift_back, kick_back]
end Go.Proofs.YtdngkmobkbiflagDoor
