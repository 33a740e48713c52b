/-
  Rounding: a number's value, and how far the nearest one lies. No program here. Errors of sums and products, and of expressions. No program here.
-/
import GoSem.Core.Float
import Derived.Test.YtngdemhhcablmakDoorFloatEv
namespace Go.Proofs.YtngdemhhcablmakDoor
open Go

def p2 (k : Int) : Rat := (2 : Rat) ^ k
theorem p2_pos (k : Int) : 0 < p2 k := Rat.zpow_pos (by decide)
theorem p2_add (a b : Int) : p2 (a + b) = p2 a * p2 b := Rat.zpow_add (by decide) a b
theorem p2_nat (n : Nat) : p2 n = ((2 ^ n : Nat) : Rat) := by rw [Rat.natCast_pow]; rfl
theorem p2_mono {a b : Int} (h : a ≤ b) : p2 a ≤ p2 b := by
  obtain ⟨n, hn⟩ := Int.eq_ofNat_of_zero_le (by omega : 0 ≤ b - a)
  rw [show b = a + (n : Int) by omega, p2_add, p2_nat]
  have h1 : (1 : Rat) ≤ ((2 ^ n : Nat) : Rat) := by
    have : ((1 : Nat) : Rat) ≤ ((2 ^ n : Nat) : Rat) := Rat.natCast_le_natCast.2 (Nat.one_le_two_pow)
    exact this
  have := Rat.mul_le_mul_of_nonneg_left h1 (Rat.le_of_lt (p2_pos a))
  grind

/-- The number that a datum is. -/
def dv : Ieee.Datum → Option Rat
  | .number s m i => some (if s then -((m : Rat) * p2 i) else (m : Rat) * p2 i)
  | _ => none
/-- x is the number v. -/
def Is (x : Nat) (v : Rat) : Prop := dv (FloatKind.f64.format.read x) = some v

/-- what is cut off is at most half of what is kept's last. -/
theorem cut_near (s : Bool) (n d : Nat) : 2 * n ≤ 2 * (Ieee.Toward.even.cut s n d * 2 ^ d) + 2 ^ d ∧ 2 * (Ieee.Toward.even.cut s n d * 2 ^ d) ≤ 2 * n + 2 ^ d := by
  unfold Ieee.Toward.cut
  simp only [Nat.shiftLeft_eq, Nat.one_mul]
  by_cases h : d ≤ n.log2 + 2
  · rw [Nat.min_eq_left h]
    have hp := Nat.two_pow_pos d
    generalize 2 ^ d = g at *
    have e := Nat.div_add_mod n g
    have l := Nat.mod_lt n hp
    generalize n / g = q at *
    generalize n % g = r at *
    have e2 : g * q = q * g := Nat.mul_comm _ _
    have e3 : (q + 1) * g = q * g + g := Nat.succ_mul q g
    by_cases hm : g < 2 * r ∨ (g = 2 * r ∧ q % 2 = 1)
    · have hb : (decide (g < 2 * r) || (g == 2 * r && q % 2 == 1)) = true := by simpa using hm
      rw [hb]
      show 2 * n ≤ 2 * ((q + 1) * g) + g ∧ 2 * ((q + 1) * g) ≤ 2 * n + g
      omega
    · have hb : (decide (g < 2 * r) || (g == 2 * r && q % 2 == 1)) = false := by
        cases hx : (decide (g < 2 * r) || (g == 2 * r && q % 2 == 1)) with
        | false => rfl
        | true => exact absurd (by simpa using hx) hm
      rw [hb]
      show 2 * n ≤ 2 * ((q + 0) * g) + g ∧ 2 * ((q + 0) * g) ≤ 2 * n + g
      rw [Nat.add_zero]
      omega
  · rw [Nat.min_eq_right (by omega)]
    have hn : n < 2 ^ (n.log2 + 1) := Nat.lt_log2_self
    have hg : 2 ^ (n.log2 + 2) ≤ 2 ^ d := Nat.pow_le_pow_right (by omega) (by omega)
    have h2 : 2 ^ (n.log2 + 2) = 2 * 2 ^ (n.log2 + 1) := by rw [Nat.pow_succ]; omega
    generalize 2 ^ (n.log2 + 2) = g at *
    rw [Nat.div_eq_of_lt (by omega), Nat.mod_eq_of_lt (by omega)]
    have hb : (decide (g < 2 * n) || (g == 2 * n && 0 % 2 == 1)) = false := by simp; omega
    rw [hb]
    show 2 * n ≤ 2 * ((0 + 0) * 2 ^ d) + 2 ^ d ∧ 2 * ((0 + 0) * 2 ^ d) ≤ 2 * n + 2 ^ d
    simp
    omega

def sgn (s : Bool) (v : Rat) : Rat := if s then -v else v
theorem dv_number (s : Bool) (m : Nat) (i : Int) : dv (.number s m i) = some (sgn s ((m : Rat) * p2 i)) := rfl

theorem f64_sw : FloatKind.f64.format.signWeight = 9223372036854775808 := by decide
theorem f64_bn : FloatKind.f64.format.binade = 4503599627370496 := by decide
theorem f64_ir : FloatKind.f64.format.infRung = 9218868437227405312 := by decide
theorem f64_lp : FloatKind.f64.format.leastPlace = -1074 := by decide
theorem f64_fb : FloatKind.f64.format.fractionBits = 52 := by decide

/-- The number of a rung. -/
theorem rung_is (s : Bool) (L K : Nat) (hK : K ≤ 9007199254740992) (hL : L = 0 ∨ 4503599627370496 ≤ K) (hr : L * 4503599627370496 + K < 9218868437227405312) :
    Is (FloatKind.f64.format.word s (L * 4503599627370496 + K)) (sgn s ((K : Rat) * p2 (-1074 + L))) := by
  unfold Is Ieee.Format.read Ieee.Format.word
  simp only [f64_sw, f64_bn, f64_ir, f64_lp]
  have hmod : (if s then 9223372036854775808 + (L * 4503599627370496 + K) else L * 4503599627370496 + K) % 9223372036854775808 = L * 4503599627370496 + K := by
    split <;> omega
  have hneg : ((if s then 9223372036854775808 + (L * 4503599627370496 + K) else L * 4503599627370496 + K) / 9223372036854775808 % 2 == 1) = s := by
    cases s
    · simp only [Bool.false_eq_true, if_false]
      rw [show (L * 4503599627370496 + K) / 9223372036854775808 = 0 by omega]
      rfl
    · simp only [if_true]
      rw [show (9223372036854775808 + (L * 4503599627370496 + K)) / 9223372036854775808 = 1 by omega]
      rfl
  rw [hmod, hneg]
  by_cases h1 : L * 4503599627370496 + K < 4503599627370496
  · rw [if_pos h1]
    have h0 : L = 0 := by omega
    subst h0
    rw [dv_number]
    simp
  · rw [if_neg h1, if_pos hr, dv_number]
    by_cases h2 : K = 9007199254740992
    · subst h2
      rw [show (L * 4503599627370496 + 9007199254740992) % 4503599627370496 = 0 by omega, show (L * 4503599627370496 + 9007199254740992) / 4503599627370496 - 1 = L + 1 by omega]
      congr 2
      rw [show (-1074 : Int) + ((L + 1 : Nat) : Int) = (-1074 + (L : Int)) + 1 by omega, p2_add]
      have : p2 1 = 2 := by decide
      rw [this]
      have e1 : ((4503599627370496 + 0 : Nat) : Rat) = 4503599627370496 := rfl
      have e2 : ((9007199254740992 : Nat) : Rat) = 9007199254740992 := rfl
      rw [e1, e2]
      grind
    · by_cases h3 : L = 0 ∧ K < 4503599627370496
      · omega
      · rw [show (L * 4503599627370496 + K) / 4503599627370496 - 1 = L by omega, show 4503599627370496 + (L * 4503599627370496 + K) % 4503599627370496 = K by omega]

/-- within e of each other. -/
def Near (v u e : Rat) : Prop := v ≤ u + e ∧ u ≤ v + e
theorem near_sgn {v u e : Rat} (s : Bool) (h : Near v u e) : Near (sgn s v) (sgn s u) e := by
  cases s
  · exact h
  · obtain ⟨h1, h2⟩ := h
    constructor <;> (show -_ ≤ -_ + e) <;> grind
theorem near_zero (v : Rat) {e : Rat} (h : 0 ≤ e) : Near v v e := by constructor <;> grind

theorem nearest_near (s : Bool) (m : Nat) (i k : Int) (hk : m = 0 ∨ i + (m.log2 : Int) < k) (k1 : -1021 ≤ k) (k2 : k ≤ 1000) :
    ∃ v, Is (FloatKind.f64.format.nearest s m i) v ∧ Near v (sgn s ((m : Rat) * p2 i)) (p2 (k - 54)) := by
  by_cases h0 : m = 0
  · subst h0
    refine ⟨sgn s (((0 : Nat) : Rat) * p2 (-1074 + (0 : Nat))), ?_, ?_⟩
    · unfold Ieee.Format.nearest
      rw [if_pos rfl]
      exact rung_is s 0 0 (by omega) (.inl rfl) (by omega)
    · have e : ((0 : Nat) : Rat) = 0 := rfl
      have hp := p2_pos (k - 54)
      rw [e, Rat.zero_mul, Rat.zero_mul]
      exact near_zero _ (Rat.le_of_lt hp)
  · have hk := hk.resolve_left h0
    unfold Ieee.Format.nearest
    rw [if_neg h0]
    simp only [f64_fb, f64_lp, f64_bn, f64_ir]
    have hlo : 2 ^ m.log2 ≤ m := Nat.log2_self_le h0
    have hhi : m < 2 ^ (m.log2 + 1) := Nat.lt_log2_self
    generalize m.log2 = l at *
    generalize hlast : max (i + (l : Int) - (52 : Nat)) (-1074) = last
    have hl1 : i + (l : Int) - 52 ≤ last := by omega
    have hl2 : -1074 ≤ last := by omega
    have hl3 : last = -1074 ∨ last = i + (l : Int) - 52 := by omega
    have hl4 : last ≤ k - 53 := by omega
    rw [Nat.shiftLeft_eq]
    generalize hN : m * 2 ^ (i - last).toNat = N
    generalize hD : (last - i).toNat = D
    -- the number, in units of the last place
    have hval : ((m : Rat) * p2 i) * ((2 ^ D : Nat) : Rat) = (N : Rat) * p2 last := by
      rcases (show i ≤ last ∨ last ≤ i by omega) with h | h
      · have : (i - last).toNat = 0 := by omega
        rw [this, Nat.pow_zero, Nat.mul_one] at hN
        rw [← hN, ← p2_nat, show last = i + (D : Int) by omega, p2_add]
        grind
      · have : D = 0 := by omega
        have h1 : ((2 ^ 0 : Nat) : Rat) = 1 := rfl
        have e : p2 i = p2 ((i - last).toNat : Int) * p2 last := by rw [← p2_add]; congr 1; omega
        rw [this, ← hN, Rat.natCast_mul, ← p2_nat (i - last).toNat, h1, e, Rat.mul_one, Rat.mul_assoc]
    have hup : N < 2 ^ (53 + D) := by
      rcases (show i ≤ last ∨ last ≤ i by omega) with h | h
      · have : (i - last).toNat = 0 := by omega
        rw [this, Nat.pow_zero, Nat.mul_one] at hN
        rw [← hN]
        exact Nat.lt_of_lt_of_le hhi (Nat.pow_le_pow_right (by omega) (by omega))
      · rw [← hN]
        have h1 : m * 2 ^ (i - last).toNat < 2 ^ (l + 1) * 2 ^ (i - last).toNat := Nat.mul_lt_mul_of_pos_right hhi (Nat.two_pow_pos _)
        rw [← Nat.pow_add] at h1
        exact Nat.lt_of_lt_of_le h1 (Nat.pow_le_pow_right (by omega) (by omega))
    have hdn : last = -1074 ∨ 2 ^ (52 + D) ≤ N := by
      rcases hl3 with h3 | h3
      · exact .inl h3
      · right
        rw [← hN]
        have h1 : 2 ^ l * 2 ^ (i - last).toNat ≤ m * 2 ^ (i - last).toNat := Nat.mul_le_mul_right _ hlo
        rw [← Nat.pow_add] at h1
        exact Nat.le_trans (Nat.pow_le_pow_right (by omega) (by omega)) h1
    obtain ⟨c1, c2⟩ := cut_near s N D
    generalize Ieee.Toward.even.cut s N D = K at *
    have hG := Nat.two_pow_pos D
    rw [Nat.pow_add] at hup
    rw [Nat.pow_add] at hdn
    generalize hg : 2 ^ D = G at *
    have hK1 : K ≤ 9007199254740992 := by
      rcases Nat.lt_or_ge 9007199254740992 K with h | h
      · have : 9007199254740993 * G ≤ K * G := Nat.mul_le_mul_right _ h
        omega
      · exact h
    have hK2 : last = -1074 ∨ 4503599627370496 ≤ K := by
      rcases hdn with h | h
      · exact .inl h
      · right
        rcases Nat.lt_or_ge K 4503599627370496 with h' | h'
        · have : K * G ≤ 4503599627370495 * G := Nat.mul_le_mul_right _ (by omega)
          omega
        · exact h'
    obtain ⟨L, hL⟩ := Int.eq_ofNat_of_zero_le (by omega : 0 ≤ last + 1074)
    have hLt : (last - -1074).toNat = L := by omega
    rw [hLt, Nat.min_eq_left (by omega)]
    refine ⟨_, rung_is s L K hK1 (by omega) (by omega), near_sgn s ?_⟩
    rw [show (-1074 : Int) + (L : Int) = last by omega]
    have hp := p2_pos last
    have hgp : (0 : Rat) < (G : Rat) := Rat.natCast_pos.2 hG
    have d1 : ((2 * N : Nat) : Rat) ≤ ((2 * (K * G) + G : Nat) : Rat) := Rat.natCast_le_natCast.2 c1
    have d2 : ((2 * (K * G) : Nat) : Rat) ≤ ((2 * N + G : Nat) : Rat) := Rat.natCast_le_natCast.2 c2
    have f1 := Rat.mul_le_mul_of_nonneg_right d1 (Rat.le_of_lt hp)
    have f2 := Rat.mul_le_mul_of_nonneg_right d2 (Rat.le_of_lt hp)
    simp only [Rat.natCast_mul, Rat.natCast_add] at f1 f2
    have two : ((2 : Nat) : Rat) = 2 := rfl
    rw [two] at f1 f2
    have hlast2 : 2 * p2 (k - 54) = p2 (k - 53) := by
      rw [show k - 53 = (k - 54) + 1 by omega, p2_add]
      have : p2 1 = 2 := by decide
      rw [this]; grind
    have hm := p2_mono hl4
    rw [← hlast2] at hm
    clear hlast2
    generalize p2 (k - 54) = E at *
    generalize (m : Rat) * p2 i = A at *
    generalize p2 last = P at *
    generalize (G : Rat) = g at *
    generalize (K : Rat) = κ at *
    generalize (N : Rat) = ν at *
    have hmg := Rat.mul_le_mul_of_nonneg_right hm (Rat.le_of_lt hgp)
    clear d1 d2
    constructor
    · refine Rat.le_of_mul_le_mul_right (c := 2 * g) ?_ (by grind)
      clear hm hp hgp hup hdn hK1 hK2 hN hD hlast f1 c1 c2
      grind
    · refine Rat.le_of_mul_le_mul_right (c := 2 * g) ?_ (by grind)
      clear hm hp hgp hup hdn hK1 hK2 hN hD hlast f2 c1 c2
      grind
end Go.Proofs.YtngdemhhcablmakDoor
namespace Go.Proofs.YtngdemhhcablmakDoor
open Go

theorem p2_lt {a b : Int} (h : p2 a < p2 b) : a < b := by
  rcases (show a < b ∨ b ≤ a by omega) with h' | h'
  · exact h'
  · have := p2_mono h'
    exact absurd h (Rat.not_lt.2 this)
theorem log_lt {m : Nat} {i k : Int} (h0 : m ≠ 0) (h : (m : Rat) * p2 i < p2 k) : i + (m.log2 : Int) < k := by
  have h1 : ((2 ^ m.log2 : Nat) : Rat) ≤ (m : Rat) := Rat.natCast_le_natCast.2 (Nat.log2_self_le h0)
  rw [← p2_nat] at h1
  have h2 := Rat.mul_le_mul_of_nonneg_right h1 (Rat.le_of_lt (p2_pos i))
  rw [← p2_add] at h2
  have := p2_lt (Std.lt_of_le_of_lt h2 h)
  omega

theorem is_number {x : Nat} {v : Rat} (h : Is x v) : ∃ s m i, FloatKind.f64.format.read x = .number s m i ∧ v = sgn s ((m : Rat) * p2 i) := by
  unfold Is at h
  cases e : FloatKind.f64.format.read x with
  | number s m i => rw [e, dv_number] at h; exact ⟨s, m, i, rfl, (Option.some.inj h).symm⟩
  | infinity s => rw [e] at h; cases h
  | nan s t => rw [e] at h; cases h
theorem is_unique {x : Nat} {u v : Rat} (h : Is x u) (k : Is x v) : u = v := Option.some.inj (h.symm.trans k)

/-- A number by its sign and size, rounded. -/
theorem round_near (s : Bool) (m : Nat) (i k : Int) (h1 : sgn s ((m : Rat) * p2 i) < p2 k) (h2 : -p2 k < sgn s ((m : Rat) * p2 i)) (k1 : -1021 ≤ k) (k2 : k ≤ 1000) :
    ∃ v, Is (FloatKind.f64.format.nearest s m i) v ∧ Near v (sgn s ((m : Rat) * p2 i)) (p2 (k - 54)) := by
  refine nearest_near s m i k ?_ k1 k2
  by_cases h0 : m = 0
  · exact .inl h0
  · refine .inr (log_lt h0 ?_)
    cases s
    · exact h1
    · have h2 : -p2 k < -((m : Rat) * p2 i) := h2
      grind

theorem sgn_mul (s t : Bool) (a b : Rat) : sgn (s ^^ t) (a * b) = sgn s a * sgn t b := by
  cases s <;> cases t <;> simp [sgn] <;> grind

theorem mul_near {x y : Nat} {u v : Rat} (hx : Is x u) (hy : Is y v) (k : Int) (k1 : -1021 ≤ k) (k2 : k ≤ 1000) (h1 : u * v < p2 k) (h2 : -p2 k < u * v) {r : Nat} (hr : FOp .mul x y r) :
    ∃ t, Is r t ∧ Near t (u * v) (p2 (k - 54)) := by
  obtain ⟨s, m, i, e1, rfl⟩ := is_number hx
  obtain ⟨t, n, j, e2, rfl⟩ := is_number hy
  have hv : sgn s ((m : Rat) * p2 i) * sgn t ((n : Rat) * p2 j) = sgn (s ^^ t) (((m * n : Nat) : Rat) * p2 (i + j)) := by
    rw [← sgn_mul, Rat.natCast_mul, p2_add]
    congr 1
    grind
  rw [hv] at h1 h2 ⊢
  have hb : floatBits .mul .f64 x y = some (FloatKind.f64.format.nearest (s ^^ t) (m * n) (i + j)) := by
    show FloatKind.f64.format.mul x y = _
    unfold Ieee.Format.mul
    rw [e1, e2]
    rfl
  unfold FOp at hr
  rw [hb] at hr
  have hr : r = _ := hr
  rw [hr]
  exact round_near _ _ _ k h1 h2 k1 k2

theorem signed_val (s : Bool) (m : Nat) (i b : Int) (h : b ≤ i) : ((Ieee.signed s m (i - b).toNat : Int) : Rat) * p2 b = sgn s ((m : Rat) * p2 i) := by
  have e : p2 i = p2 ((i - b).toNat : Int) * p2 b := by rw [← p2_add]; congr 1; omega
  have e2 : ((m <<< (i - b).toNat : Nat) : Rat) * p2 b = (m : Rat) * p2 i := by
    rw [Nat.shiftLeft_eq, Rat.natCast_mul, ← p2_nat, e, Rat.mul_assoc]
  unfold Ieee.signed
  cases s
  · exact e2
  · show ((-((m <<< (i - b).toNat : Nat) : Int) : Int) : Rat) * p2 b = -((m : Rat) * p2 i)
    rw [← e2, Rat.intCast_neg, Rat.neg_mul]
    rfl
theorem abs_val (z : Int) (b : Int) (s : Bool) (h : s = decide (z < 0) ∨ z = 0) : sgn s ((z.natAbs : Rat) * p2 b) = (z : Rat) * p2 b := by
  rcases h with rfl | rfl
  · by_cases hz : z < 0
    · rw [decide_eq_true hz]
      show -((z.natAbs : Rat) * p2 b) = _
      have : ((z.natAbs : Int) : Rat) = ((-z : Int) : Rat) := by congr 1; omega
      have : (z.natAbs : Rat) = -(z : Rat) := by rw [← Rat.intCast_neg]; exact this
      rw [this]
      grind
    · rw [decide_eq_false hz]
      show (z.natAbs : Rat) * p2 b = _
      have : ((z.natAbs : Int) : Rat) = (z : Rat) := by congr 1; omega
      have : (z.natAbs : Rat) = (z : Rat) := this
      rw [this]
  · have e : ((Int.natAbs 0 : Nat) : Rat) = 0 := rfl
    have e2 : ((0 : Int) : Rat) = 0 := rfl
    rw [e, e2, Rat.zero_mul]
    cases s <;> rfl

theorem sum_near {s t : Bool} {m n : Nat} {i j : Int} (k : Int) (k1 : -1021 ≤ k) (k2 : k ≤ 1000)
    (h1 : sgn s ((m : Rat) * p2 i) + sgn t ((n : Rat) * p2 j) < p2 k) (h2 : -p2 k < sgn s ((m : Rat) * p2 i) + sgn t ((n : Rat) * p2 j)) :
    ∃ d, (Ieee.Datum.sum (.number s m i) (.number t n j)) = some d ∧ ∃ v, Is (FloatKind.f64.format.write d) v ∧ Near v (sgn s ((m : Rat) * p2 i) + sgn t ((n : Rat) * p2 j)) (p2 (k - 54)) := by
  refine ⟨_, rfl, ?_⟩
  show ∃ v, Is (FloatKind.f64.format.nearest _ _ _) v ∧ _
  have hv := abs_val (Ieee.signed s m (i - min i j).toNat + Ieee.signed t n (j - min i j).toNat) (min i j) (if Ieee.signed s m (i - min i j).toNat + Ieee.signed t n (j - min i j).toNat = 0 then s && t else decide (Ieee.signed s m (i - min i j).toNat + Ieee.signed t n (j - min i j).toNat < 0)) (by split <;> simp [*])
  rw [Rat.intCast_add, Rat.add_mul, signed_val s m i _ (by omega), signed_val t n j _ (by omega)] at hv
  rw [← hv] at h1 h2 ⊢
  exact round_near _ _ _ k h1 h2 k1 k2

theorem add_near {x y : Nat} {u v : Rat} (hx : Is x u) (hy : Is y v) (k : Int) (k1 : -1021 ≤ k) (k2 : k ≤ 1000) (h1 : u + v < p2 k) (h2 : -p2 k < u + v) {r : Nat} (hr : FOp .add x y r) :
    ∃ t, Is r t ∧ Near t (u + v) (p2 (k - 54)) := by
  obtain ⟨s, m, i, e1, rfl⟩ := is_number hx
  obtain ⟨t, n, j, e2, rfl⟩ := is_number hy
  obtain ⟨d, hd, w, hw, hn⟩ := sum_near k k1 k2 h1 h2
  have hb : floatBits .add .f64 x y = some (FloatKind.f64.format.write d) := by
    show FloatKind.f64.format.add x y = _
    unfold Ieee.Format.add
    rw [e1, e2, hd]
    rfl
  unfold FOp at hr
  rw [hb] at hr
  have hr : r = _ := hr
  rw [hr]
  exact ⟨w, hw, hn⟩
theorem sub_near {x y : Nat} {u v : Rat} (hx : Is x u) (hy : Is y v) (k : Int) (k1 : -1021 ≤ k) (k2 : k ≤ 1000) (h1 : u - v < p2 k) (h2 : -p2 k < u - v) {r : Nat} (hr : FOp .sub x y r) :
    ∃ t, Is r t ∧ Near t (u - v) (p2 (k - 54)) := by
  obtain ⟨s, m, i, e1, rfl⟩ := is_number hx
  obtain ⟨t, n, j, e2, rfl⟩ := is_number hy
  have e3 : sgn s ((m : Rat) * p2 i) - sgn t ((n : Rat) * p2 j) = sgn s ((m : Rat) * p2 i) + sgn (!t) ((n : Rat) * p2 j) := by
    cases t <;> simp [sgn] <;> grind
  rw [e3] at h1 h2 ⊢
  obtain ⟨d, hd, w, hw, hn⟩ := sum_near k k1 k2 h1 h2
  have hb : floatBits .sub .f64 x y = some (FloatKind.f64.format.write d) := by
    show FloatKind.f64.format.sub x y = _
    unfold Ieee.Format.sub
    rw [e1, e2]
    show Option.map _ (Ieee.Datum.sum (.number s m i) (.number (!t) n j)) = _
    rw [hd]
    rfl
  unfold FOp at hr
  rw [hb] at hr
  have hr : r = _ := hr
  rw [hr]
  exact ⟨w, hw, hn⟩

/-- each answer of the expression lies within d of u. -/
def Bd (e : FE) (u d : Rat) : Prop := ∀ r, Ev e r → ∃ t, Is r t ∧ Near t u d
theorem Bd.weak {e : FE} {u d d' : Rat} (h : Bd e u d) (hd : d ≤ d') : Bd e u d' := fun r hr => by
  obtain ⟨t, h1, h2, h3⟩ := h r hr
  exact ⟨t, h1, by grind, by grind⟩
theorem Bd.add {a b : FE} {u v d1 d2 : Rat} (ha : Bd a u d1) (hb : Bd b v d2) (k : Int) (k1 : -1021 ≤ k) (k2 : k ≤ 1000) (h1 : u + v + d1 + d2 < p2 k) (h2 : -p2 k < u + v - d1 - d2) : Bd (.op .add a b) (u + v) (d1 + d2 + p2 (k - 54)) := fun r hr => by
  cases hr with
  | op ea eb h =>
    obtain ⟨s, s1, s2, s3⟩ := ha _ ea
    obtain ⟨t, t1, t2, t3⟩ := hb _ eb
    obtain ⟨w, w1, w2, w3⟩ := add_near s1 t1 k k1 k2 (by grind) (by grind) h
    exact ⟨w, w1, by grind, by grind⟩
theorem prod_abs {a b A B : Rat} (a1 : a ≤ A) (a2 : -A ≤ a) (b1 : b ≤ B) (b2 : -B ≤ b) : a * b ≤ A * B ∧ -(A * B) ≤ a * b := by
  have p1 := Rat.mul_nonneg (show 0 ≤ A - a by grind) (show 0 ≤ B + b by grind)
  have p2 := Rat.mul_nonneg (show 0 ≤ A + a by grind) (show 0 ≤ B - b by grind)
  have p3 := Rat.mul_nonneg (show 0 ≤ A - a by grind) (show 0 ≤ B - b by grind)
  have p4 := Rat.mul_nonneg (show 0 ≤ A + a by grind) (show 0 ≤ B + b by grind)
  constructor <;> grind
theorem prod_near {s t u v U V d1 d2 : Rat} (hs : Near s u d1) (ht : Near t v d2) (u1 : u ≤ U) (u2 : -U ≤ u) (v1 : v ≤ V) (v2 : -V ≤ v) : Near (s * t) (u * v) (d1 * V + U * d2 + d1 * d2) := by
  obtain ⟨s1, s2⟩ := hs
  obtain ⟨t1, t2⟩ := ht
  have q1 := prod_abs (a := s - u) (b := v) (A := d1) (B := V) (by grind) (by grind) v1 v2
  have q2 := prod_abs (a := u) (b := t - v) (A := U) (B := d2) u1 u2 (by grind) (by grind)
  have q3 := prod_abs (a := s - u) (b := t - v) (A := d1) (B := d2) (by grind) (by grind) (by grind) (by grind)
  constructor <;> grind
theorem Bd.mul {a b : FE} {u v d1 d2 : Rat} (ha : Bd a u d1) (hb : Bd b v d2) (U V : Rat) (u1 : u ≤ U) (u2 : -U ≤ u) (v1 : v ≤ V) (v2 : -V ≤ v) (k : Int) (k1 : -1021 ≤ k) (k2 : k ≤ 1000) (h : U * V + (d1 * V + U * d2 + d1 * d2) < p2 k) : Bd (.op .mul a b) (u * v) (d1 * V + U * d2 + d1 * d2 + p2 (k - 54)) := fun r hr => by
  cases hr with
  | op ea eb h' =>
    obtain ⟨s, s1, s2⟩ := ha _ ea
    obtain ⟨t, t1, t2⟩ := hb _ eb
    have hp := prod_near s2 t2 u1 u2 v1 v2
    have ha := prod_abs u1 u2 v1 v2
    obtain ⟨p1, p2'⟩ := hp
    obtain ⟨w, w1, w2, w3⟩ := mul_near s1 t1 k k1 k2 (by grind) (by grind) h'
    exact ⟨w, w1, by grind, by grind⟩
theorem Bd.num {x : Nat} {u v d : Rat} (h : Is x u) (hn : Near u v d) : Bd (.num x) v d := fun r hr => by
  cases hr
  exact ⟨u, h, hn⟩
end Go.Proofs.YtngdemhhcablmakDoor
