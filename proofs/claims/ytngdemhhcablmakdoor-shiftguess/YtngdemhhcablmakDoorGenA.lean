/-
  Products, by their relative errors. Each operation's answer by its size: sums, differences, products, quotients, roots. No program here.
-/
import Derived.Test.YtngdemhhcablmakDoorBndA
namespace Go.Proofs.YtngdemhhcablmakDoor
open Go

/-- the size. -/
def ab (v : Rat) : Rat := if 0 ≤ v then v else -v
theorem ab_nonneg (v : Rat) : 0 ≤ ab v := by unfold ab; split <;> grind
theorem ab_le {v b : Rat} (h1 : v ≤ b) (h2 : -b ≤ v) : ab v ≤ b := by unfold ab; split <;> grind
theorem le_ab (v : Rat) : v ≤ ab v ∧ -ab v ≤ v := by unfold ab; split <;> grind
theorem ab_sgn (s : Bool) (v : Rat) (h : 0 ≤ v) : ab (sgn s v) = v := by
  cases s
  · show ab v = v; unfold ab; rw [if_pos h]
  · show ab (-v) = v; unfold ab; split <;> grind
/-- A number's rounding, by its size. -/
theorem round_rel (s : Bool) (m : Nat) (i : Int) (h1 : m = 0 ∨ (p2 (-1000) ≤ (m : Rat) * p2 i ∧ (m : Rat) * p2 i < p2 1000)) :
    ∃ v, Is (FloatKind.f64.format.nearest s m i) v ∧ Near v (sgn s ((m : Rat) * p2 i)) (p2 (-53) * ((m : Rat) * p2 i)) := by
  rcases h1 with rfl | ⟨h1, h2⟩
  · refine ⟨sgn s (((0 : Nat) : Rat) * p2 (-1074 + (0 : Nat))), ?_, ?_⟩
    · unfold Ieee.Format.nearest
      rw [if_pos rfl]
      exact rung_is s 0 0 (by omega) (.inl rfl) (by omega)
    · have e : ((0 : Nat) : Rat) = 0 := rfl
      rw [e, Rat.zero_mul, Rat.zero_mul, Rat.mul_zero]
      exact near_zero _ Rat.le_refl
  · have h0 : m ≠ 0 := by
      rintro rfl
      have e : ((0 : Nat) : Rat) = 0 := rfl
      rw [e, Rat.zero_mul] at h1
      have := p2_pos (-1000)
      grind
    have hk := log_lt h0 h2
    have hlow : p2 (i + (m.log2 : Int)) ≤ (m : Rat) * p2 i := by
      have g1 : ((2 ^ m.log2 : Nat) : Rat) ≤ (m : Rat) := Rat.natCast_le_natCast.2 (Nat.log2_self_le h0)
      rw [← p2_nat] at g1
      have g2 := Rat.mul_le_mul_of_nonneg_right g1 (Rat.le_of_lt (p2_pos i))
      rw [← p2_add] at g2
      rw [show i + (m.log2 : Int) = (m.log2 : Int) + i by omega]
      exact g2
    have hhi : (m : Rat) * p2 i < p2 (i + (m.log2 : Int) + 1) := by
      have g1 : (m : Rat) < ((2 ^ (m.log2 + 1) : Nat) : Rat) := Rat.natCast_lt_natCast.2 Nat.lt_log2_self
      rw [← p2_nat] at g1
      have g2 := Rat.mul_lt_mul_of_pos_right g1 (p2_pos i)
      rw [← p2_add] at g2
      rw [show i + (m.log2 : Int) + 1 = ((m.log2 + 1 : Nat) : Int) + i by omega]
      exact g2
    have hlo : -1000 < i + (m.log2 : Int) + 1 := p2_lt (Std.lt_of_le_of_lt h1 hhi)
    obtain ⟨v, v1, v2, v3⟩ := nearest_near s m i (i + (m.log2 : Int) + 1) (.inr (by omega)) (by omega) (by omega)
    have e : p2 (i + (m.log2 : Int) + 1 - 54) = p2 (-53) * p2 (i + (m.log2 : Int)) := by rw [← p2_add]; congr 1; omega
    rw [e] at v2 v3
    have g := Rat.mul_le_mul_of_nonneg_left hlow (Rat.le_of_lt (p2_pos (-53)))
    exact ⟨v, v1, by grind, by grind⟩
theorem mul_rel {x y : Nat} {u v : Rat} (hx : Is x u) (hy : Is y v) (h : u * v = 0 ∨ (p2 (-1000) ≤ ab (u * v) ∧ ab (u * v) < p2 1000)) {r : Nat} (hr : FOp .mul x y r) :
    ∃ t, Is r t ∧ Near t (u * v) (p2 (-53) * ab (u * v)) := by
  obtain ⟨s, m, i, e1, rfl⟩ := is_number hx
  obtain ⟨t, n, j, e2, rfl⟩ := is_number hy
  have hv : sgn s ((m : Rat) * p2 i) * sgn t ((n : Rat) * p2 j) = sgn (s ^^ t) (((m * n : Nat) : Rat) * p2 (i + j)) := by
    rw [← sgn_mul, Rat.natCast_mul, p2_add]
    congr 1
    grind
  rw [hv] at h ⊢
  have hnn : 0 ≤ ((m * n : Nat) : Rat) * p2 (i + j) := Rat.mul_nonneg Rat.natCast_nonneg (Rat.le_of_lt (p2_pos _))
  rw [ab_sgn _ _ hnn] at h ⊢
  have hb : floatBits .mul .f64 x y = some (FloatKind.f64.format.nearest (s ^^ t) (m * n) (i + j)) := by
    show FloatKind.f64.format.mul x y = _
    unfold Ieee.Format.mul
    rw [e1, e2]
    rfl
  unfold FOp at hr
  rw [hb] at hr
  have hr : r = _ := hr
  rw [hr]
  refine round_rel _ _ _ ?_
  rcases h with h | h
  · left
    have hp := p2_pos (i + j)
    have hz : ((m * n : Nat) : Rat) * p2 (i + j) = 0 := by
      cases hs : (s ^^ t)
      · rw [hs] at h; exact h
      · rw [hs] at h
        have h : -(((m * n : Nat) : Rat) * p2 (i + j)) = 0 := h
        grind
    rcases Rat.mul_eq_zero.1 hz with h' | h'
    · exact Rat.natCast_eq_zero_iff.1 h'
    · rw [h'] at hp; exact absurd hp (by decide)
  · exact .inr h
end Go.Proofs.YtngdemhhcablmakDoor
namespace Go.Proofs.YtngdemhhcablmakDoor
open Go

theorem le_or (a b : Rat) : a ≤ b ∨ b ≤ a := Rat.le_total
theorem lt_or (a b : Rat) : a < b ∨ b ≤ a := by grind
/-- t is v, rounded. -/
def Rd (t v : Rat) : Prop := Near t v (p2 (-53) * ab v + p2 (-1054)) ∧ (v = 0 → t = 0)
theorem round_gen (s : Bool) (m : Nat) (i : Int) (h : (m : Rat) * p2 i < p2 1000) :
    ∃ v, Is (FloatKind.f64.format.nearest s m i) v ∧ Near v (sgn s ((m : Rat) * p2 i)) (p2 (-53) * ((m : Rat) * p2 i) + p2 (-1054)) ∧ ((m : Rat) * p2 i = 0 → v = 0) := by
  have hnn : 0 ≤ (m : Rat) * p2 i := Rat.mul_nonneg Rat.natCast_nonneg (Rat.le_of_lt (p2_pos _))
  have hq := p2_pos (-1054)
  have hu := p2_pos (-53)
  by_cases h0 : m = 0
  · subst h0
    obtain ⟨v, hv, n1, n2⟩ := round_rel s 0 i (.inl rfl)
    refine ⟨v, hv, ⟨by grind, by grind⟩, fun _ => ?_⟩
    have e : ((0 : Nat) : Rat) = 0 := rfl
    rw [e, Rat.zero_mul, Rat.mul_zero] at n1 n2
    cases s
    · have n1 : v ≤ 0 + 0 := n1
      have n2 : 0 ≤ v + 0 := n2
      grind
    · have n1 : v ≤ -0 + 0 := n1
      have n2 : -0 ≤ v + 0 := n2
      grind
  have hpos : 0 < (m : Rat) * p2 i := Rat.mul_pos (Rat.natCast_pos.2 (by omega)) (p2_pos _)
  rcases le_or (p2 (-1000)) ((m : Rat) * p2 i) with h1 | h1
  · obtain ⟨v, hv, n1, n2⟩ := round_rel s m i (.inr ⟨h1, h⟩)
    exact ⟨v, hv, ⟨by grind, by grind⟩, by grind⟩
  · rcases Rat.le_iff_lt_or_eq.1 h1 with h2 | h2
    · obtain ⟨v, hv, n1, n2⟩ := nearest_near s m i (-1000) (.inr (log_lt h0 h2)) (by omega) (by omega)
      have hp := Rat.mul_nonneg (Rat.le_of_lt hu) hnn
      have e : p2 (-1000 - 54) = p2 (-1054) := rfl
      rw [e] at n1 n2
      exact ⟨v, hv, ⟨by grind, by grind⟩, by grind⟩
    · obtain ⟨v, hv, n1, n2⟩ := round_rel s m i (.inr ⟨by grind, h⟩)
      exact ⟨v, hv, ⟨by grind, by grind⟩, by grind⟩
theorem gen_of {s : Bool} {m : Nat} {i : Int} {v : Rat} (hv : sgn s ((m : Rat) * p2 i) = v) (h : ab v < p2 1000) : ∃ t, Is (FloatKind.f64.format.nearest s m i) t ∧ Rd t v := by
  have hnn : 0 ≤ (m : Rat) * p2 i := Rat.mul_nonneg Rat.natCast_nonneg (Rat.le_of_lt (p2_pos _))
  subst hv
  unfold Rd
  rw [ab_sgn _ _ hnn] at h ⊢
  obtain ⟨v, hv, hn, hz⟩ := round_gen s m i h
  refine ⟨v, hv, hn, fun h0 => hz ?_⟩
  cases s
  · exact h0
  · have h0 : -((m : Rat) * p2 i) = 0 := h0
    grind
theorem mul_gen {x y : Nat} {u v : Rat} (hx : Is x u) (hy : Is y v) (h : ab (u * v) < p2 1000) {r : Nat} (hr : FOp .mul x y r) : ∃ t, Is r t ∧ Rd t (u * v) := by
  obtain ⟨s, m, i, e1, rfl⟩ := is_number hx
  obtain ⟨t, n, j, e2, rfl⟩ := is_number hy
  have hv : sgn s ((m : Rat) * p2 i) * sgn t ((n : Rat) * p2 j) = sgn (s ^^ t) (((m * n : Nat) : Rat) * p2 (i + j)) := by
    rw [← sgn_mul, Rat.natCast_mul, p2_add]
    congr 1
    grind
  have hb : floatBits .mul .f64 x y = some (FloatKind.f64.format.nearest (s ^^ t) (m * n) (i + j)) := by
    show FloatKind.f64.format.mul x y = _
    unfold Ieee.Format.mul
    rw [e1, e2]
    rfl
  unfold FOp at hr
  rw [hb] at hr
  have hr : r = _ := hr
  rw [hr]
  exact gen_of hv.symm h
theorem sum_gen {s t : Bool} {m n : Nat} {i j : Int} (h : ab (sgn s ((m : Rat) * p2 i) + sgn t ((n : Rat) * p2 j)) < p2 1000) :
    ∃ d, (Ieee.Datum.sum (.number s m i) (.number t n j)) = some d ∧ ∃ v, Is (FloatKind.f64.format.write d) v ∧ Rd v (sgn s ((m : Rat) * p2 i) + sgn t ((n : Rat) * p2 j)) := by
  refine ⟨_, rfl, ?_⟩
  show ∃ v, Is (FloatKind.f64.format.nearest _ _ _) v ∧ _
  have hv := abs_val (Ieee.signed s m (i - min i j).toNat + Ieee.signed t n (j - min i j).toNat) (min i j) (if Ieee.signed s m (i - min i j).toNat + Ieee.signed t n (j - min i j).toNat = 0 then s && t else decide (Ieee.signed s m (i - min i j).toNat + Ieee.signed t n (j - min i j).toNat < 0)) (by split <;> simp [*])
  rw [Rat.intCast_add, Rat.add_mul, signed_val s m i _ (by omega), signed_val t n j _ (by omega)] at hv
  exact gen_of hv h
theorem add_gen {x y : Nat} {u v : Rat} (hx : Is x u) (hy : Is y v) (h : ab (u + v) < p2 1000) {r : Nat} (hr : FOp .add x y r) : ∃ t, Is r t ∧ Rd t (u + v) := by
  obtain ⟨s, m, i, e1, rfl⟩ := is_number hx
  obtain ⟨t, n, j, e2, rfl⟩ := is_number hy
  obtain ⟨d, hd, w, hw, hn⟩ := sum_gen h
  have hb : floatBits .add .f64 x y = some (FloatKind.f64.format.write d) := by
    show FloatKind.f64.format.add x y = _
    unfold Ieee.Format.add
    rw [e1, e2, hd]
    rfl
  unfold FOp at hr
  rw [hb] at hr
  have hr : r = _ := hr
  rw [hr]
  exact ⟨w, hw, hn⟩
theorem sub_gen {x y : Nat} {u v : Rat} (hx : Is x u) (hy : Is y v) (h : ab (u - v) < p2 1000) {r : Nat} (hr : FOp .sub x y r) : ∃ t, Is r t ∧ Rd t (u - v) := by
  obtain ⟨s, m, i, e1, rfl⟩ := is_number hx
  obtain ⟨t, n, j, e2, rfl⟩ := is_number hy
  have e3 : sgn s ((m : Rat) * p2 i) - sgn t ((n : Rat) * p2 j) = sgn s ((m : Rat) * p2 i) + sgn (!t) ((n : Rat) * p2 j) := by
    cases t <;> simp [sgn] <;> grind
  rw [e3] at h ⊢
  obtain ⟨d, hd, w, hw, hn⟩ := sum_gen h
  have hb : floatBits .sub .f64 x y = some (FloatKind.f64.format.write d) := by
    show FloatKind.f64.format.sub x y = _
    unfold Ieee.Format.sub
    rw [e1, e2]
    show Option.map _ (Ieee.Datum.sum (.number s m i) (.number (!t) n j)) = _
    rw [hd]
    rfl
  unfold FOp at hr
  rw [hb] at hr
  have hr : r = _ := hr
  rw [hr]
  exact ⟨w, hw, hn⟩
/-! quotients -/
theorem quot_nat {D n : Nat} (hn : 0 < n) :
    2 * D ≤ (2 * (D / n) + (D % n != 0).toNat) * n + n ∧ (2 * (D / n) + (D % n != 0).toNat) * n ≤ 2 * D + n := by
  have h := Nat.div_add_mod D n
  have hl := Nat.mod_lt D hn
  generalize D / n = k at *
  generalize D % n = r at *
  rw [Nat.add_mul, Nat.mul_assoc, Nat.mul_comm k n]
  by_cases h0 : r = 0
  · subst h0
    simp
    omega
  · have : (r != 0) = true := by simpa using h0
    rw [this]
    simp
    omega
theorem quo_gen {x y : Nat} {u v : Rat} (hx : Is x u) (hy : Is y v) (hv : v ≠ 0) (h : ab (u / v) < p2 990) {r : Nat} (hr : FOp .quo x y r) :
    ∃ t, Is r t ∧ Near t (u / v) (8 / 5 * p2 (-53) * ab (u / v) + p2 (-1054)) := by
  obtain ⟨s, m, i, e1, rfl⟩ := is_number hx
  obtain ⟨t, n, j, e2, rfl⟩ := is_number hy
  have hn : n ≠ 0 := by
    rintro rfl
    apply hv
    have e : ((0 : Nat) : Rat) = 0 := rfl
    rw [e, Rat.zero_mul]
    cases t <;> rfl
  obtain ⟨more, hmore⟩ : ∃ more, more = 54 + n.log2 - m.log2 := ⟨_, rfl⟩
  obtain ⟨Q, hQ⟩ : ∃ Q, Q = 2 * ((m <<< more) / n) + ((m <<< more) % n != 0).toNat := ⟨_, rfl⟩
  have hb : floatBits .quo .f64 x y = some (FloatKind.f64.format.nearest (s ^^ t) Q (i - j - more - 1)) := by
    show FloatKind.f64.format.div x y = _
    unfold Ieee.Format.div
    rw [e1, e2, hQ, hmore, f64_fb]
    show Option.map _ (if n = 0 then _ else _) = _
    rw [if_neg hn]
    rfl
  unfold FOp at hr
  rw [hb] at hr
  have hr : r = _ := hr
  rw [hr]
  -- the true one
  have hB : 0 < (n : Rat) * p2 j := Rat.mul_pos (Rat.natCast_pos.2 (by omega)) (p2_pos _)
  obtain ⟨B, rB⟩ : ∃ B, (n : Rat) * p2 j = B := ⟨_, rfl⟩
  obtain ⟨X, rX⟩ : ∃ X, (m : Rat) * p2 i / ((n : Rat) * p2 j) = X := ⟨_, rfl⟩
  have hX : X * B = (m : Rat) * p2 i := by rw [← rX, ← rB]; exact Rat.div_mul_cancel (by grind)
  have hsg : sgn s ((m : Rat) * p2 i) / sgn t ((n : Rat) * p2 j) = sgn (s ^^ t) X := by
    rw [rB, ← hX]
    rw [rB] at hB
    have hB0 : B ≠ 0 := by grind
    have hc : X * B / B = X := Rat.mul_div_cancel hB0
    cases s <;> cases t <;> simp [sgn, Rat.div_def] at hc ⊢ <;> grind
  rw [hsg] at h ⊢
  rw [rB] at hB
  have hA : 0 ≤ (m : Rat) * p2 i := Rat.mul_nonneg Rat.natCast_nonneg (Rat.le_of_lt (p2_pos _))
  have hX0 : 0 ≤ X := by
    rcases le_or 0 X with h' | h'
    · exact h'
    · have := Rat.mul_le_mul_of_nonneg_right h' (Rat.le_of_lt hB)
      rw [Rat.zero_mul, hX] at this
      have e : X * B = 0 := by grind
      rcases Rat.mul_eq_zero.1 e with h0 | h0 <;> grind
  rw [ab_sgn _ _ hX0] at h ⊢
  -- what is rounded
  obtain ⟨T, rT⟩ : ∃ T, (Q : Rat) * p2 (i - j - more - 1) = T := ⟨_, rfl⟩
  have hT0 : 0 ≤ T := rT ▸ Rat.mul_nonneg Rat.natCast_nonneg (Rat.le_of_lt (p2_pos _))
  have hnear : Near T X (p2 (-54) * X) := by
    by_cases hm : m = 0
    · subst hm
      have hQ0 : Q = 0 := by rw [hQ]; simp
      have e : ((0 : Nat) : Rat) = 0 := rfl
      rw [hQ0, e, Rat.zero_mul] at rT
      rw [e, Rat.zero_mul] at hX
      have : X = 0 := by rcases Rat.mul_eq_zero.1 hX with h0 | h0 <;> grind
      subst rT this
      constructor <;> grind
    · have hk : 9007199254740992 * n ≤ m <<< more := by
        have g1 : n < 2 ^ (n.log2 + 1) := Nat.lt_log2_self
        have g2 : 2 ^ m.log2 ≤ m := Nat.log2_self_le hm
        have g3 : 2 ^ m.log2 * 2 ^ more ≤ m * 2 ^ more := Nat.mul_le_mul_right _ g2
        have g4 : 2 ^ (53 + (n.log2 + 1)) ≤ 2 ^ (m.log2 + more) := Nat.pow_le_pow_right (by omega) (by omega)
        rw [Nat.shiftLeft_eq]
        rw [← Nat.pow_add] at g3
        rw [Nat.pow_add] at g4
        have e : (2 : Nat) ^ 53 = 9007199254740992 := by decide
        rw [e] at g4
        have g5 : 9007199254740992 * n ≤ 9007199254740992 * 2 ^ (n.log2 + 1) := Nat.mul_le_mul_left _ (by omega)
        exact Nat.le_trans g5 (Nat.le_trans g4 g3)
      obtain ⟨q1, q2⟩ := quot_nat (D := m <<< more) (Nat.pos_of_ne_zero hn)
      rw [← hQ] at q1 q2
      obtain ⟨c, rc⟩ : ∃ c, p2 (i - more - 1) = c := ⟨_, rfl⟩
      have hc : 0 < c := rc ▸ p2_pos _
      have k1 : T * B = ((Q * n : Nat) : Rat) * c := by
        rw [← rT, ← rB, ← rc, Rat.natCast_mul]
        have : p2 (i - more - 1) = p2 (i - j - more - 1) * p2 j := by rw [← p2_add]; congr 1; omega
        rw [this]
        grind
      have k2 : X * B = ((2 * (m <<< more) : Nat) : Rat) * c := by
        rw [hX, ← rc, Nat.shiftLeft_eq, Rat.natCast_mul, Rat.natCast_mul, ← p2_nat more]
        have : p2 i = p2 1 * p2 more * p2 (i - more - 1) := by rw [← p2_add, ← p2_add]; congr 1; omega
        rw [this]
        have : p2 1 = ((2 : Nat) : Rat) := by decide +kernel
        rw [this]
        grind
      have c1 : ((2 * (m <<< more) : Nat) : Rat) ≤ ((Q * n : Nat) : Rat) + (n : Rat) := by rw [← Rat.natCast_add]; exact Rat.natCast_le_natCast.2 q1
      have c2 : ((Q * n : Nat) : Rat) ≤ ((2 * (m <<< more) : Nat) : Rat) + (n : Rat) := by rw [← Rat.natCast_add]; exact Rat.natCast_le_natCast.2 q2
      have c3 : 18014398509481984 * (n : Rat) ≤ ((2 * (m <<< more) : Nat) : Rat) := by
        have : ((18014398509481984 * n : Nat) : Rat) ≤ ((2 * (m <<< more) : Nat) : Rat) := Rat.natCast_le_natCast.2 (by omega)
        rw [Rat.natCast_mul] at this
        exact this
      generalize ((2 * (m <<< more) : Nat) : Rat) = D2 at *
      generalize ((Q * n : Nat) : Rat) = Qn at *
      have d1 := Rat.mul_le_mul_of_nonneg_right c1 (Rat.le_of_lt hc)
      have d2 := Rat.mul_le_mul_of_nonneg_right c2 (Rat.le_of_lt hc)
      have d3 := Rat.mul_le_mul_of_nonneg_right c3 (Rat.le_of_lt hc)
      have hp : p2 (-54) = 1 / 18014398509481984 := by decide +kernel
      have f1 : (X - T - p2 (-54) * X) * B ≤ 0 * B := by rw [hp]; grind
      have f2 : (T - X - p2 (-54) * X) * B ≤ 0 * B := by rw [hp]; grind
      have f1 := Rat.le_of_mul_le_mul_right f1 hB
      have f2 := Rat.le_of_mul_le_mul_right f2 hB
      constructor <;> grind
  have hp : p2 (-54) = 1 / 18014398509481984 := by decide +kernel
  have hp3 : p2 (-53) = 1 / 9007199254740992 := by decide +kernel
  have hup : p2 990 < p2 1000 := by decide +kernel
  have hup2 : p2 990 * 2 < p2 1000 := by decide +kernel
  rw [hp] at hnear
  obtain ⟨t1, t2⟩ := hnear
  obtain ⟨z, hz, ⟨n1, n2⟩, _⟩ := round_gen (s ^^ t) Q (i - j - more - 1) (by rw [rT]; grind)
  rw [rT, hp3] at n1 n2
  refine ⟨z, hz, ?_⟩
  rw [hp3]
  generalize p2 (-1054) = eta at *
  generalize (s ^^ t) = b at *
  unfold sgn at *
  cases b
  · simp only [Bool.false_eq_true, if_false] at *
    constructor <;> grind
  · simp only [if_true] at *
    constructor <;> grind
/-! roots -/
theorem rootFrom_spec (n : Nat) : ∀ (todo root : Nat), root * root ≤ n → n < (root + 2 ^ todo) * (root + 2 ^ todo) →
    Ieee.Datum.rootFrom n todo root * Ieee.Datum.rootFrom n todo root ≤ n ∧ n < (Ieee.Datum.rootFrom n todo root + 1) * (Ieee.Datum.rootFrom n todo root + 1)
  | 0, root, h1, h2 => ⟨h1, h2⟩
  | todo + 1, root, h1, h2 => by
    unfold Ieee.Datum.rootFrom
    simp only [Nat.shiftLeft_eq, Nat.one_mul]
    have e : (2 : Nat) ^ (todo + 1) = 2 ^ todo + 2 ^ todo := by rw [Nat.pow_succ]; omega
    rw [e] at h2
    split
    · rename_i h
      exact rootFrom_spec n todo _ h (by rw [Nat.add_assoc]; exact h2)
    · rename_i h
      exact rootFrom_spec n todo _ h1 (by omega)
theorem sqrt_gen {x r : Nat} {v : Rat} (hx : Is x v) (h1 : p2 (-1000) ≤ v) (h2 : v < p2 990) (hr : (FloatKind.f64.format.sqrt x = some r)) :
    ∃ t, Is r t ∧ 0 < t ∧ Near (t * t) v (13 / 5 * p2 (-53) * v) := by
  obtain ⟨s, m, i, e1, rfl⟩ := is_number hx
  have hnn : 0 ≤ (m : Rat) * p2 i := Rat.mul_nonneg Rat.natCast_nonneg (Rat.le_of_lt (p2_pos _))
  have hpp := p2_pos (-1000)
  cases s
  case true =>
    have h1 : p2 (-1000) ≤ -((m : Rat) * p2 i) := h1
    exfalso
    grind
  have h1 : p2 (-1000) ≤ (m : Rat) * p2 i := h1
  have h2 : (m : Rat) * p2 i < p2 990 := h2
  show ∃ t, Is r t ∧ 0 < t ∧ Near (t * t) ((m : Rat) * p2 i) (13 / 5 * p2 (-53) * ((m : Rat) * p2 i))
  have hm : m ≠ 0 := by
    rintro rfl
    have e : ((0 : Nat) : Rat) = 0 := rfl
    rw [e, Rat.zero_mul] at h1
    grind
  obtain ⟨more, hmore⟩ : ∃ more, more = 108 - m.log2 + ((i - ((108 - m.log2 : Nat) : Int)) % 2).toNat := ⟨_, rfl⟩
  have heven : (i - more) % 2 = 0 := by omega
  have h108 : 108 ≤ m.log2 + more := by omega
  obtain ⟨n, hn⟩ : ∃ n, n = m <<< more := ⟨_, rfl⟩
  obtain ⟨k, hk⟩ : ∃ k, k = Ieee.Datum.rootFrom n (n.log2 / 2 + 1) 0 := ⟨_, rfl⟩
  obtain ⟨R, hR⟩ : ∃ R, R = 2 * k + (k * k != n).toNat := ⟨_, rfl⟩
  have hb : FloatKind.f64.format.sqrt x = some (FloatKind.f64.format.nearest false R ((i - more) / 2 - 1)) := by
    unfold Ieee.Format.sqrt
    rw [e1, hR, hk, hn, hmore, f64_fb]
    show Option.map _ (if m = 0 then _ else _) = _
    rw [if_neg hm]
    rfl
  rw [hb] at hr
  cases hr
  have hn0 : 2 ^ 108 ≤ n := by
    rw [hn, Nat.shiftLeft_eq]
    have g2 : 2 ^ m.log2 ≤ m := Nat.log2_self_le hm
    have g3 : 2 ^ m.log2 * 2 ^ more ≤ m * 2 ^ more := Nat.mul_le_mul_right _ g2
    rw [← Nat.pow_add] at g3
    exact Nat.le_trans (Nat.pow_le_pow_right (by omega) h108) g3
  obtain ⟨k1, k2⟩ := rootFrom_spec n (n.log2 / 2 + 1) 0 (by omega) (by
    have g : n < 2 ^ (n.log2 + 1) := Nat.lt_log2_self
    rw [Nat.zero_add, ← Nat.pow_add]
    exact Nat.lt_of_lt_of_le g (Nat.pow_le_pow_right (by omega) (by omega)))
  rw [← hk] at k1 k2
  have e108 : (2 : Nat) ^ 108 = 18014398509481984 * 18014398509481984 := by decide
  rw [e108] at hn0
  have k3 : 18014398509481984 ≤ k := by
    rcases Nat.lt_or_ge k 18014398509481984 with h' | h'
    · have g : (k + 1) * (k + 1) ≤ 18014398509481984 * 18014398509481984 := Nat.mul_le_mul (by omega) (by omega)
      omega
    · exact h'
  -- the square of what is rounded
  have sq : R * R ≤ 4 * n + (4 * k + 1) ∧ 4 * n ≤ R * R + (4 * k + 3) ∧ 4 * (18014398509481984 * k) ≤ 4 * n ∧ 2 * k ≤ R := by
    have hkk : 18014398509481984 * k ≤ k * k := Nat.mul_le_mul_right _ k3
    have e2 : (k + 1) * (k + 1) = k * k + 2 * k + 1 := by rw [Nat.add_mul, Nat.mul_add]; omega
    rw [e2] at k2
    by_cases he : k * k = n
    · have : R = 2 * k := by rw [hR]; simp [he]
      rw [this]
      have : 2 * k * (2 * k) = 4 * (k * k) := by rw [Nat.mul_assoc, Nat.mul_left_comm k 2 k]; omega
      rw [this]
      omega
    · have : R = 2 * k + 1 := by rw [hR]; simp [he]
      rw [this]
      have : (2 * k + 1) * (2 * k + 1) = 4 * (k * k) + 4 * k + 1 := by
        have : 2 * k * (2 * k) = 4 * (k * k) := by rw [Nat.mul_assoc, Nat.mul_left_comm k 2 k]; omega
        rw [Nat.add_mul, Nat.mul_add, this]
        omega
      rw [this]
      omega
  obtain ⟨s1, s2, s3, s4⟩ := sq
  obtain ⟨T, rT⟩ : ∃ T, (R : Rat) * p2 ((i - more) / 2 - 1) = T := ⟨_, rfl⟩
  obtain ⟨c, rc⟩ : ∃ c, p2 (i - more - 2) = c := ⟨_, rfl⟩
  have hc : 0 < c := rc ▸ p2_pos _
  have t1 : T * T = ((R * R : Nat) : Rat) * c := by
    rw [← rT, ← rc, Rat.natCast_mul, show i - (more : Int) - 2 = ((i - more) / 2 - 1) + ((i - more) / 2 - 1) by omega, p2_add]
    grind
  have t2 : (m : Rat) * p2 i = ((4 * n : Nat) : Rat) * c := by
    rw [hn, Nat.shiftLeft_eq, Rat.natCast_mul, Rat.natCast_mul, ← p2_nat more, ← rc]
    have : p2 i = p2 2 * p2 more * p2 (i - more - 2) := by rw [← p2_add, ← p2_add]; congr 1; omega
    rw [this]
    have : p2 2 = ((4 : Nat) : Rat) := by decide +kernel
    rw [this]
    grind
  obtain ⟨V, rV⟩ : ∃ V, (m : Rat) * p2 i = V := ⟨_, rfl⟩
  rw [rV] at t2 h1 h2 ⊢
  have c1 : ((R * R : Nat) : Rat) ≤ ((4 * n : Nat) : Rat) + ((4 * k + 3 : Nat) : Rat) := by rw [← Rat.natCast_add]; exact Rat.natCast_le_natCast.2 (by omega)
  have c2 : ((4 * n : Nat) : Rat) ≤ ((R * R : Nat) : Rat) + ((4 * k + 3 : Nat) : Rat) := by rw [← Rat.natCast_add]; exact Rat.natCast_le_natCast.2 (by omega)
  have c3 : 18000000000000000 * ((4 * k + 3 : Nat) : Rat) ≤ ((4 * n : Nat) : Rat) := by
    have : ((18000000000000000 * (4 * k + 3) : Nat) : Rat) ≤ ((4 * n : Nat) : Rat) := Rat.natCast_le_natCast.2 (by omega)
    rw [Rat.natCast_mul] at this
    exact this
  have hT0 : 0 ≤ T := rT ▸ Rat.mul_nonneg Rat.natCast_nonneg (Rat.le_of_lt (p2_pos _))
  generalize ((R * R : Nat) : Rat) = RR at *
  generalize ((4 * n : Nat) : Rat) = NN at *
  generalize ((4 * k + 3 : Nat) : Rat) = KK at *
  have d1 := Rat.mul_le_mul_of_nonneg_right c1 (Rat.le_of_lt hc)
  have d2 := Rat.mul_le_mul_of_nonneg_right c2 (Rat.le_of_lt hc)
  have d3 := Rat.mul_le_mul_of_nonneg_right c3 (Rat.le_of_lt hc)
  have near1 : T * T ≤ V + V / 18000000000000000 ∧ V ≤ T * T + V / 18000000000000000 := by
    rw [t1, t2]
    constructor <;> grind
  have hV0 : 0 < V := by grind
  -- T lies where the rounding is by its size
  have b1 : T < p2 1000 := by
    rcases lt_or T (p2 1000) with h' | h'
    · exact h'
    · have g := Rat.mul_le_mul_of_nonneg_right h' hT0
      have g2 := Rat.mul_le_mul_of_nonneg_left h' (Rat.le_of_lt (p2_pos 1000))
      have g3 : p2 990 * 2 < p2 1000 * p2 1000 := by decide +kernel
      grind
  have b2 : p2 (-1000) ≤ T := by
    rcases le_or (p2 (-1000)) T with h' | h'
    · exact h'
    · have g := Rat.mul_le_mul_of_nonneg_right h' hT0
      have g2 := Rat.mul_le_mul_of_nonneg_left h' (Rat.le_of_lt (p2_pos (-1000)))
      have g3 : p2 (-1000) * p2 (-1000) * 4 < p2 (-1000) := by decide +kernel
      grind
  obtain ⟨z, hz, n1, n2⟩ := round_rel false R ((i - more) / 2 - 1) (.inr ⟨by rw [rT]; exact b2, by rw [rT]; exact b1⟩)
  rw [rT] at n1 n2
  have n1 : z ≤ T + p2 (-53) * T := n1
  have n2 : T ≤ z + p2 (-53) * T := n2
  have hp3 : p2 (-53) = 1 / 9007199254740992 := by decide +kernel
  rw [hp3] at n1 n2 ⊢
  refine ⟨z, hz, by grind, ?_⟩
  have z1 : 0 < z := by grind
  have w1 := Rat.mul_le_mul_of_nonneg_left n1 (Rat.le_of_lt z1)
  have w2 := Rat.mul_le_mul_of_nonneg_right n1 hT0
  have n3 : T - 1 / 9007199254740992 * T ≤ z := by grind
  have w3 := Rat.mul_le_mul_of_nonneg_left n3 (Rat.le_of_lt z1)
  have w4 := Rat.mul_le_mul_of_nonneg_right n3 hT0
  obtain ⟨m1, m2⟩ := near1
  constructor <;> grind
end Go.Proofs.YtngdemhhcablmakDoor
