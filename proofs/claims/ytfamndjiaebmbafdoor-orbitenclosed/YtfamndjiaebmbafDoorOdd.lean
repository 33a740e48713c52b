/-
  Signs: a product with a sign turned; the sine of an angle turned round. No program here but what SinIs brings.
-/
import Derived.Test.YtfamndjiaebmbafDoorSinIs
namespace Go.Proofs.YtfamndjiaebmbafDoor
open Go Go.RowKit

theorem xor_top {r : Nat} (h : r < 9223372036854775808) : ngB r = 9223372036854775808 + r := by
  have h1 := ng_low r
  have h2 : (r ^^^ 2 ^ 63) / 2 ^ 63 = r / 2 ^ 63 ^^^ 2 ^ 63 / 2 ^ 63 := Nat.xor_div_two_pow
  have h3 : ngB r / 9223372036854775808 = r / 9223372036854775808 ^^^ 1 := h2
  have h4 : r / 9223372036854775808 = 0 := by omega
  rw [h4] at h3
  have h5 : ngB r / 9223372036854775808 = 1 := h3
  omega
theorem word_neg (s : Bool) {r : Nat} (h : r < 9223372036854775808) : FloatKind.f64.format.word (!s) r = ngB (FloatKind.f64.format.word s r) := by
  have h0 : FloatKind.f64.format.word false r = r := by unfold Ieee.Format.word; simp
  have h1 : FloatKind.f64.format.word true r = 9223372036854775808 + r := by unfold Ieee.Format.word; rw [f64_sw]; simp
  cases s
  · show FloatKind.f64.format.word true r = _
    rw [h0, h1, xor_top h]
  · show FloatKind.f64.format.word false r = _
    rw [h0, h1, ← xor_top h, neg_neg]
theorem nearest_neg (s : Bool) (m : Nat) (p : Int) : FloatKind.f64.format.nearest (!s) m p = ngB (FloatKind.f64.format.nearest s m p) := by
  unfold Ieee.Format.nearest
  split
  · exact word_neg s (by omega)
  · have hc : ∀ n d, Ieee.Toward.even.cut (!s) n d = Ieee.Toward.even.cut s n d := fun _ _ => rfl
    simp only [hc]
    refine word_neg s ?_
    have : FloatKind.f64.format.infRung = 9218868437227405312 := f64_ir
    omega
theorem product_neg (a b : Ieee.Datum) : Ieee.Datum.product a.opposite b = (Ieee.Datum.product a b).map Ieee.Datum.opposite := by
  have hx : ∀ s t : Bool, ((!s) ^^ t) = !(s ^^ t) := fun s t => by cases s <;> cases t <;> rfl
  have hy : ∀ s t : Bool, (s ^^ (!t)) = !(s ^^ t) := fun s t => by cases s <;> cases t <;> rfl
  cases a <;> cases b <;> simp only [Ieee.Datum.opposite, Ieee.Datum.product, Option.map_some, Option.map_none, hx, hy]
  all_goals split <;> rfl
theorem product_form {a b d : Ieee.Datum} (h : Ieee.Datum.product a b = some d) : FloatKind.f64.format.write d.opposite = ngB (FloatKind.f64.format.write d) := by
  have hw : (∃ s m p, d = .number s m p) ∨ ∃ s, d = .infinity s := by
    cases a <;> cases b <;> simp only [Ieee.Datum.product] at h
    all_goals (try split at h)
    all_goals (first | cases h | skip)
    all_goals (first | exact .inl ⟨_, _, _, rfl⟩ | exact .inr ⟨_, rfl⟩)
  rcases hw with ⟨s, m, p, rfl⟩ | ⟨s, rfl⟩
  · exact nearest_neg s m p
  · refine word_neg s ?_
    rw [f64_ir]
    omega
theorem bits_neg (x y : Nat) : floatBits .mul .f64 (ngB x) y = (floatBits .mul .f64 x y).map ngB := by
  show FloatKind.f64.format.mul (ngB x) y = (FloatKind.f64.format.mul x y).map ngB
  unfold Ieee.Format.mul
  rw [neg_read, product_neg]
  cases e : Ieee.Datum.product (FloatKind.f64.format.read x) (FloatKind.f64.format.read y) with
  | none => rfl
  | some d =>
    simp only [Option.map_some]
    rw [product_form e]
theorem product_comm (a b : Ieee.Datum) : Ieee.Datum.product a b = Ieee.Datum.product b a := by
  cases a <;> cases b <;> simp only [Ieee.Datum.product, Bool.xor_comm, Nat.mul_comm, Int.add_comm]
theorem bits_comm (x y : Nat) : floatBits .mul .f64 x y = floatBits .mul .f64 y x := by
  show FloatKind.f64.format.mul x y = FloatKind.f64.format.mul y x
  unfold Ieee.Format.mul
  rw [product_comm]
theorem bits_neg2 (x y : Nat) : floatBits .mul .f64 (ngB x) (ngB y) = floatBits .mul .f64 x y := by
  rw [bits_neg, bits_comm, bits_neg, bits_comm y x, Option.map_map]
  have : ngB ∘ ngB = id := funext neg_neg
  rw [this, Option.map_id]
  rfl
theorem int_neg {r : Int} (h : r ≠ 0) : floatOfInt .f64 (-r) = ngB (floatOfInt .f64 r) := by
  have h1 : decide (-r < 0) = !decide (r < 0) := by
    by_cases hr : r < 0
    · simp [hr]; omega
    · simp [hr]; omega
  have h2 := nearest_neg (decide (r < 0)) r.natAbs 0
  rw [← h1] at h2
  have h3 : (-r).natAbs = r.natAbs := Int.natAbs_neg r
  show FloatKind.f64.format.nearest (decide (-r < 0)) (-r).natAbs 0 = _
  rw [h3, h2]
  rfl
theorem hor_evl {z z' : FE} (h : evl z = evl z') (o : Nat) : ∀ j, evl (horE z o j) = evl (horE z' o j)
  | 0 => rfl
  | j + 1 => by
    simp only [horE, evl]
    rw [h, hor_evl h o j]
theorem ser_evl {z z' : FE} (h : evl z = evl z') (o : Nat) : evl (seriesE z o) = evl (seriesE z' o) := by
  simp only [seriesE, evl]
  rw [h, hor_evl h o 7]
theorem some_of {o : Option Nat} {v : Rat} (h : Is (o.getD nan0) v) : ∃ x, o = some x := by
  cases o with
  | some x => exact ⟨x, rfl⟩
  | none => exact absurd nan0_nan (not_nan h)
theorem x_neg {r : Int} (h0 : r ≠ 0) (h1 : r ≤ 162000000000) (h2 : -162000000000 ≤ r) : evl (xE (-r)) = ngB (evl (xE r)) := by
  obtain ⟨X, hX, _⟩ := x_bd r h1 h2 (ev_evl _)
  simp only [xE, evl] at *
  obtain ⟨x, e⟩ := some_of hX
  rw [int_neg h0, bits_neg, e]
  rfl
theorem z_neg {r : Int} (h0 : r ≠ 0) (h1 : r ≤ 162000000000) (h2 : -162000000000 ≤ r) : evl (zE (-r)) = evl (zE r) := by
  show (floatBits .mul .f64 (evl (xE (-r))) (evl (xE (-r)))).getD nan0 = (floatBits .mul .f64 (evl (xE r)) (evl (xE r))).getD nan0
  rw [x_neg h0 h1 h2, bits_neg2]
/-- the remainder's sign turned: the cosine stays, the sine's sign turns. -/
theorem sc_neg {r : Int} (h0 : r ≠ 0) (h1 : r ≤ 162000000000) (h2 : -162000000000 ≤ r) : sV (-r) = ngB (sV r) ∧ cV (-r) = cV r := by
  have hz := z_neg h0 h1 h2
  refine ⟨?_, ser_evl hz 0⟩
  obtain ⟨_, _, S, _, hS, _⟩ := point r h1 h2 (ev_evl _) (ev_evl _)
  have e1 : sV (-r) = (floatBits .mul .f64 (evl (xE (-r))) (evl (seriesE (zE (-r)) 1))).getD nan0 := rfl
  have e2 : sV r = (floatBits .mul .f64 (evl (xE r)) (evl (seriesE (zE r) 1))).getD nan0 := rfl
  have hS : Is (sV r) S := hS
  rw [e2] at hS
  obtain ⟨x, e⟩ := some_of hS
  rw [e1, e2, x_neg h0 h1 h2, ser_evl hz 1, bits_neg, e]
  rfl
theorem s_zero : Is (sV 0) 0 := by unfold Is; decide +kernel
theorem sc_back (r : Int) (h1 : r ≤ 162000000000) (h2 : -162000000000 ≤ r) : ∃ S C, Is (sV r) S ∧ Is (cV r) C ∧ Is (sV (-r)) (-S) ∧ Is (cV (-r)) C := by
  obtain ⟨_, _, S, C, hS, hC, _⟩ := point r h1 h2 (ev_evl _) (ev_evl _)
  by_cases h0 : r = 0
  · subst h0
    exact ⟨0, C, s_zero, hC, by simpa using s_zero, hC⟩
  · obtain ⟨e1, e2⟩ := sc_neg h0 h1 h2
    exact ⟨S, C, hS, hC, e1 ▸ neg_is hS, e2 ▸ hC⟩
/-- how far the sine of the angle turned round may lie. -/
def tieE : Rat := p2 (-51)
def S0 : Rat := (dv (FloatKind.f64.format.read (sV (-162000000000)))).getD 0
def C0 : Rat := (dv (FloatKind.f64.format.read (cV (-162000000000)))).getD 0
theorem s0_is : Is (sV (-162000000000)) S0 := by unfold Is; decide +kernel
theorem c0_is : Is (cV (-162000000000)) C0 := by unfold Is; decide +kernel
theorem tie_near : C0 + S0 ≤ tieE ∧ -tieE ≤ C0 + S0 ∧ 0 ≤ tieE := by decide +kernel
theorem turnS_is (q : Int) {s c : Nat} {S C : Rat} (hs : Is s S) (hc : Is c C) : Is (turnS q s c) (if q % 4 = 0 then S else if q % 4 = 1 then C else if q % 4 = 2 then -S else -C) := by
  unfold turnS
  split
  · exact hs
  · split
    · exact hc
    · split
      · exact neg_is hs
      · exact neg_is hc
theorem turnC_is (q : Int) {s c : Nat} {S C : Rat} (hs : Is s S) (hc : Is c C) : Is (turnC q s c) (if q % 4 = 0 then C else if q % 4 = 1 then -S else if q % 4 = 2 then -C else S) := by
  unfold turnC
  split
  · exact hc
  · split
    · exact neg_is hs
    · split
      · exact neg_is hc
      · exact hs
theorem back_q (a : Int) (h : rOf a ≠ -162000000000) : rOf (-nrm a) = -rOf a ∧ (qOf (-nrm a) + qOf a) % 4 = 0 := by
  have h1 := nrm_range a
  unfold rOf qOf at *
  unfold nrm at *
  omega
theorem back_tie (a : Int) (h : rOf a = -162000000000) : rOf (-nrm a) = -162000000000 ∧ (qOf (-nrm a) + qOf a) % 4 = 1 := by
  have h1 := nrm_range a
  unfold rOf qOf at *
  unfold nrm at *
  omega
theorem back_near (a : Int) : ∃ S C S' C', Is (sinV a) S ∧ Is (cosV a) C ∧ Is (sinV (-nrm a)) S' ∧ Is (cosV (-nrm a)) C' ∧ Near S' (-S) tieE ∧ Near C' C tieE := by
  obtain ⟨t1, t2, t3⟩ := tie_near
  by_cases h : rOf a = -162000000000
  · obtain ⟨e1, e2⟩ := back_tie a h
    have k1 := turnS_is (qOf a) s0_is c0_is
    have k2 := turnC_is (qOf a) s0_is c0_is
    have k3 := turnS_is (qOf (-nrm a)) s0_is c0_is
    have k4 := turnC_is (qOf (-nrm a)) s0_is c0_is
    unfold sinV cosV
    rw [e1, h]
    refine ⟨_, _, _, _, k1, k2, k3, k4, ?_⟩
    generalize S0 = s at *
    generalize C0 = c at *
    unfold Near
    rcases (show qOf a % 4 = 0 ∧ qOf (-nrm a) % 4 = 1 ∨ qOf a % 4 = 1 ∧ qOf (-nrm a) % 4 = 0 ∨ qOf a % 4 = 2 ∧ qOf (-nrm a) % 4 = 3 ∨ qOf a % 4 = 3 ∧ qOf (-nrm a) % 4 = 2 by omega) with ⟨p, q⟩ | ⟨p, q⟩ | ⟨p, q⟩ | ⟨p, q⟩ <;> rw [p, q] <;> simp <;> grind
  · obtain ⟨e1, e2⟩ := back_q a h
    have hr := rOf_range a
    obtain ⟨s, c, a1, a2, a3, a4⟩ := sc_back (rOf a) (by omega) hr.1
    have k1 := turnS_is (qOf a) a1 a2
    have k2 := turnC_is (qOf a) a1 a2
    have k3 := turnS_is (qOf (-nrm a)) a3 a4
    have k4 := turnC_is (qOf (-nrm a)) a3 a4
    unfold sinV cosV
    rw [e1]
    refine ⟨_, _, _, _, k1, k2, k3, k4, ?_⟩
    unfold Near
    rcases (show qOf a % 4 = 0 ∧ qOf (-nrm a) % 4 = 0 ∨ qOf a % 4 = 1 ∧ qOf (-nrm a) % 4 = 3 ∨ qOf a % 4 = 2 ∧ qOf (-nrm a) % 4 = 2 ∨ qOf a % 4 = 3 ∧ qOf (-nrm a) % 4 = 1 by omega) with ⟨p, q⟩ | ⟨p, q⟩ | ⟨p, q⟩ | ⟨p, q⟩ <;> rw [p, q] <;> simp <;> grind
end Go.Proofs.YtfamndjiaebmbafDoor
