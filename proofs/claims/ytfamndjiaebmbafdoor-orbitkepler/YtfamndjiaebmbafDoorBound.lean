/-
  Errors of sums and products, and of expressions. No program here.
-/
import Derived.Test.YtfamndjiaebmbafDoorRound
import Derived.Test.YtfamndjiaebmbafDoorFloatEv
namespace Go.Proofs.YtfamndjiaebmbafDoor
open Go

theorem p2_lt {a b : Int} (h : p2 a < p2 b) : a < b := by
  rcases (show a < b ∨ b ≤ a by omega) with h' | h'
  · exact h'
  · have := p2_mono h'
    exact absurd h (Rat.not_lt.2 this)
theorem log_lt {m : Nat} {i k : Int} (h0 : m ≠ 0) (h : (m : Rat) * p2 i < p2 k) : i + (m.log2 : Int) < k := by
  have h1 : ((2 ^ m.log2 : Nat) : Rat) ≤ (m : Rat) := Rat.natCast_le_natCast.2 (Nat.log2_self_le h0)
  rw [← p2_nat] at h1
  have h2 := Rat.mul_le_mul_of_nonneg_right h1 (Rat.le_of_lt (p2_pos i))
  rw [← p2_add] at h2
  have := p2_lt (Std.lt_of_le_of_lt h2 h)
  omega

theorem is_number {x : Nat} {v : Rat} (h : Is x v) : ∃ s m i, FloatKind.f64.format.read x = .number s m i ∧ v = sgn s ((m : Rat) * p2 i) := by
  unfold Is at h
  cases e : FloatKind.f64.format.read x with
  | number s m i => rw [e, dv_number] at h; exact ⟨s, m, i, rfl, (Option.some.inj h).symm⟩
  | infinity s => rw [e] at h; cases h
  | nan s t => rw [e] at h; cases h
theorem is_unique {x : Nat} {u v : Rat} (h : Is x u) (k : Is x v) : u = v := Option.some.inj (h.symm.trans k)

/-- A number by its sign and size, rounded. -/
theorem round_near (s : Bool) (m : Nat) (i k : Int) (h1 : sgn s ((m : Rat) * p2 i) < p2 k) (h2 : -p2 k < sgn s ((m : Rat) * p2 i)) (k1 : -1021 ≤ k) (k2 : k ≤ 1000) :
    ∃ v, Is (FloatKind.f64.format.nearest s m i) v ∧ Near v (sgn s ((m : Rat) * p2 i)) (p2 (k - 54)) := by
  refine nearest_near s m i k ?_ k1 k2
  by_cases h0 : m = 0
  · exact .inl h0
  · refine .inr (log_lt h0 ?_)
    cases s
    · exact h1
    · have h2 : -p2 k < -((m : Rat) * p2 i) := h2
      grind

theorem sgn_mul (s t : Bool) (a b : Rat) : sgn (s ^^ t) (a * b) = sgn s a * sgn t b := by
  cases s <;> cases t <;> simp [sgn] <;> grind

theorem mul_near {x y : Nat} {u v : Rat} (hx : Is x u) (hy : Is y v) (k : Int) (k1 : -1021 ≤ k) (k2 : k ≤ 1000) (h1 : u * v < p2 k) (h2 : -p2 k < u * v) {r : Nat} (hr : FOp .mul x y r) :
    ∃ t, Is r t ∧ Near t (u * v) (p2 (k - 54)) := by
  obtain ⟨s, m, i, e1, rfl⟩ := is_number hx
  obtain ⟨t, n, j, e2, rfl⟩ := is_number hy
  have hv : sgn s ((m : Rat) * p2 i) * sgn t ((n : Rat) * p2 j) = sgn (s ^^ t) (((m * n : Nat) : Rat) * p2 (i + j)) := by
    rw [← sgn_mul, Rat.natCast_mul, p2_add]
    congr 1
    grind
  rw [hv] at h1 h2 ⊢
  have hb : floatBits .mul .f64 x y = some (FloatKind.f64.format.nearest (s ^^ t) (m * n) (i + j)) := by
    show FloatKind.f64.format.mul x y = _
    unfold Ieee.Format.mul
    rw [e1, e2]
    rfl
  unfold FOp at hr
  rw [hb] at hr
  have hr : r = _ := hr
  rw [hr]
  exact round_near _ _ _ k h1 h2 k1 k2

theorem signed_val (s : Bool) (m : Nat) (i b : Int) (h : b ≤ i) : ((Ieee.signed s m (i - b).toNat : Int) : Rat) * p2 b = sgn s ((m : Rat) * p2 i) := by
  have e : p2 i = p2 ((i - b).toNat : Int) * p2 b := by rw [← p2_add]; congr 1; omega
  have e2 : ((m <<< (i - b).toNat : Nat) : Rat) * p2 b = (m : Rat) * p2 i := by
    rw [Nat.shiftLeft_eq, Rat.natCast_mul, ← p2_nat, e, Rat.mul_assoc]
  unfold Ieee.signed
  cases s
  · exact e2
  · show ((-((m <<< (i - b).toNat : Nat) : Int) : Int) : Rat) * p2 b = -((m : Rat) * p2 i)
    rw [← e2, Rat.intCast_neg, Rat.neg_mul]
    rfl
theorem abs_val (z : Int) (b : Int) (s : Bool) (h : s = decide (z < 0) ∨ z = 0) : sgn s ((z.natAbs : Rat) * p2 b) = (z : Rat) * p2 b := by
  rcases h with rfl | rfl
  · by_cases hz : z < 0
    · rw [decide_eq_true hz]
      show -((z.natAbs : Rat) * p2 b) = _
      have : ((z.natAbs : Int) : Rat) = ((-z : Int) : Rat) := by congr 1; omega
      have : (z.natAbs : Rat) = -(z : Rat) := by rw [← Rat.intCast_neg]; exact this
      rw [this]
      grind
    · rw [decide_eq_false hz]
      show (z.natAbs : Rat) * p2 b = _
      have : ((z.natAbs : Int) : Rat) = (z : Rat) := by congr 1; omega
      have : (z.natAbs : Rat) = (z : Rat) := this
      rw [this]
  · have e : ((Int.natAbs 0 : Nat) : Rat) = 0 := rfl
    have e2 : ((0 : Int) : Rat) = 0 := rfl
    rw [e, e2, Rat.zero_mul]
    cases s <;> rfl

theorem sum_near {s t : Bool} {m n : Nat} {i j : Int} (k : Int) (k1 : -1021 ≤ k) (k2 : k ≤ 1000)
    (h1 : sgn s ((m : Rat) * p2 i) + sgn t ((n : Rat) * p2 j) < p2 k) (h2 : -p2 k < sgn s ((m : Rat) * p2 i) + sgn t ((n : Rat) * p2 j)) :
    ∃ d, (Ieee.Datum.sum (.number s m i) (.number t n j)) = some d ∧ ∃ v, Is (FloatKind.f64.format.write d) v ∧ Near v (sgn s ((m : Rat) * p2 i) + sgn t ((n : Rat) * p2 j)) (p2 (k - 54)) := by
  refine ⟨_, rfl, ?_⟩
  show ∃ v, Is (FloatKind.f64.format.nearest _ _ _) v ∧ _
  have hv := abs_val (Ieee.signed s m (i - min i j).toNat + Ieee.signed t n (j - min i j).toNat) (min i j) (if Ieee.signed s m (i - min i j).toNat + Ieee.signed t n (j - min i j).toNat = 0 then s && t else decide (Ieee.signed s m (i - min i j).toNat + Ieee.signed t n (j - min i j).toNat < 0)) (by split <;> simp [*])
  rw [Rat.intCast_add, Rat.add_mul, signed_val s m i _ (by omega), signed_val t n j _ (by omega)] at hv
  rw [← hv] at h1 h2 ⊢
  exact round_near _ _ _ k h1 h2 k1 k2

theorem add_near {x y : Nat} {u v : Rat} (hx : Is x u) (hy : Is y v) (k : Int) (k1 : -1021 ≤ k) (k2 : k ≤ 1000) (h1 : u + v < p2 k) (h2 : -p2 k < u + v) {r : Nat} (hr : FOp .add x y r) :
    ∃ t, Is r t ∧ Near t (u + v) (p2 (k - 54)) := by
  obtain ⟨s, m, i, e1, rfl⟩ := is_number hx
  obtain ⟨t, n, j, e2, rfl⟩ := is_number hy
  obtain ⟨d, hd, w, hw, hn⟩ := sum_near k k1 k2 h1 h2
  have hb : floatBits .add .f64 x y = some (FloatKind.f64.format.write d) := by
    show FloatKind.f64.format.add x y = _
    unfold Ieee.Format.add
    rw [e1, e2, hd]
    rfl
  unfold FOp at hr
  rw [hb] at hr
  have hr : r = _ := hr
  rw [hr]
  exact ⟨w, hw, hn⟩
theorem sub_near {x y : Nat} {u v : Rat} (hx : Is x u) (hy : Is y v) (k : Int) (k1 : -1021 ≤ k) (k2 : k ≤ 1000) (h1 : u - v < p2 k) (h2 : -p2 k < u - v) {r : Nat} (hr : FOp .sub x y r) :
    ∃ t, Is r t ∧ Near t (u - v) (p2 (k - 54)) := by
  obtain ⟨s, m, i, e1, rfl⟩ := is_number hx
  obtain ⟨t, n, j, e2, rfl⟩ := is_number hy
  have e3 : sgn s ((m : Rat) * p2 i) - sgn t ((n : Rat) * p2 j) = sgn s ((m : Rat) * p2 i) + sgn (!t) ((n : Rat) * p2 j) := by
    cases t <;> simp [sgn] <;> grind
  rw [e3] at h1 h2 ⊢
  obtain ⟨d, hd, w, hw, hn⟩ := sum_near k k1 k2 h1 h2
  have hb : floatBits .sub .f64 x y = some (FloatKind.f64.format.write d) := by
    show FloatKind.f64.format.sub x y = _
    unfold Ieee.Format.sub
    rw [e1, e2]
    show Option.map _ (Ieee.Datum.sum (.number s m i) (.number (!t) n j)) = _
    rw [hd]
    rfl
  unfold FOp at hr
  rw [hb] at hr
  have hr : r = _ := hr
  rw [hr]
  exact ⟨w, hw, hn⟩

/-- each answer of the expression lies within d of u. -/
def Bd (e : FE) (u d : Rat) : Prop := ∀ r, Ev e r → ∃ t, Is r t ∧ Near t u d
theorem Bd.weak {e : FE} {u d d' : Rat} (h : Bd e u d) (hd : d ≤ d') : Bd e u d' := fun r hr => by
  obtain ⟨t, h1, h2, h3⟩ := h r hr
  exact ⟨t, h1, by grind, by grind⟩
theorem Bd.add {a b : FE} {u v d1 d2 : Rat} (ha : Bd a u d1) (hb : Bd b v d2) (k : Int) (k1 : -1021 ≤ k) (k2 : k ≤ 1000) (h1 : u + v + d1 + d2 < p2 k) (h2 : -p2 k < u + v - d1 - d2) : Bd (.op .add a b) (u + v) (d1 + d2 + p2 (k - 54)) := fun r hr => by
  cases hr with
  | op ea eb h =>
    obtain ⟨s, s1, s2, s3⟩ := ha _ ea
    obtain ⟨t, t1, t2, t3⟩ := hb _ eb
    obtain ⟨w, w1, w2, w3⟩ := add_near s1 t1 k k1 k2 (by grind) (by grind) h
    exact ⟨w, w1, by grind, by grind⟩
theorem prod_abs {a b A B : Rat} (a1 : a ≤ A) (a2 : -A ≤ a) (b1 : b ≤ B) (b2 : -B ≤ b) : a * b ≤ A * B ∧ -(A * B) ≤ a * b := by
  have p1 := Rat.mul_nonneg (show 0 ≤ A - a by grind) (show 0 ≤ B + b by grind)
  have p2 := Rat.mul_nonneg (show 0 ≤ A + a by grind) (show 0 ≤ B - b by grind)
  have p3 := Rat.mul_nonneg (show 0 ≤ A - a by grind) (show 0 ≤ B - b by grind)
  have p4 := Rat.mul_nonneg (show 0 ≤ A + a by grind) (show 0 ≤ B + b by grind)
  constructor <;> grind
theorem prod_near {s t u v U V d1 d2 : Rat} (hs : Near s u d1) (ht : Near t v d2) (u1 : u ≤ U) (u2 : -U ≤ u) (v1 : v ≤ V) (v2 : -V ≤ v) : Near (s * t) (u * v) (d1 * V + U * d2 + d1 * d2) := by
  obtain ⟨s1, s2⟩ := hs
  obtain ⟨t1, t2⟩ := ht
  have q1 := prod_abs (a := s - u) (b := v) (A := d1) (B := V) (by grind) (by grind) v1 v2
  have q2 := prod_abs (a := u) (b := t - v) (A := U) (B := d2) u1 u2 (by grind) (by grind)
  have q3 := prod_abs (a := s - u) (b := t - v) (A := d1) (B := d2) (by grind) (by grind) (by grind) (by grind)
  constructor <;> grind
theorem Bd.mul {a b : FE} {u v d1 d2 : Rat} (ha : Bd a u d1) (hb : Bd b v d2) (U V : Rat) (u1 : u ≤ U) (u2 : -U ≤ u) (v1 : v ≤ V) (v2 : -V ≤ v) (k : Int) (k1 : -1021 ≤ k) (k2 : k ≤ 1000) (h : U * V + (d1 * V + U * d2 + d1 * d2) < p2 k) : Bd (.op .mul a b) (u * v) (d1 * V + U * d2 + d1 * d2 + p2 (k - 54)) := fun r hr => by
  cases hr with
  | op ea eb h' =>
    obtain ⟨s, s1, s2⟩ := ha _ ea
    obtain ⟨t, t1, t2⟩ := hb _ eb
    have hp := prod_near s2 t2 u1 u2 v1 v2
    have ha := prod_abs u1 u2 v1 v2
    obtain ⟨p1, p2'⟩ := hp
    obtain ⟨w, w1, w2, w3⟩ := mul_near s1 t1 k k1 k2 (by grind) (by grind) h'
    exact ⟨w, w1, by grind, by grind⟩
theorem Bd.num {x : Nat} {u v d : Rat} (h : Is x u) (hn : Near u v d) : Bd (.num x) v d := fun r hr => by
  cases hr
  exact ⟨u, h, hn⟩
end Go.Proofs.YtfamndjiaebmbafDoor
