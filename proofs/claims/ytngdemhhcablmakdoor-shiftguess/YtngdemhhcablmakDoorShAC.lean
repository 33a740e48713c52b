/-
  There and back: the sums. No program here. There and back as it is reckoned; waves term by term as they are reckoned. No program here. Waves term by term, as they are reckoned. No program here.
-/
import Derived.Test.YtngdemhhcablmakDoorShAB
namespace Go.Proofs.YtngdemhhcablmakDoor
open Go

theorem sumC_add (f : Nat → Cq) (m : Nat) : ∀ i, sumC f (m + i) = cA (sumC f m) (sumC (fun k => f (m + k)) i)
  | 0 => (cA_zero _).symm
  | i + 1 => by
    show cA (sumC f (m + i)) (f (m + i)) = cA (sumC f m) (cA (sumC (fun k => f (m + k)) i) (f (m + i)))
    rw [sumC_add f m i, cA_assoc]
theorem half_sum {f : Nat → Cq} {m : Nat} (h : ∀ k, f (m + k) = cN (f k)) : sumC f (2 * m) = c0 := by
  rw [show 2 * m = m + m by omega, sumC_add, sumC_congr (g := fun i => cN (f i)) (fun i _ => h i), sumC_neg]
  exact cq_eq (by show (sumC f m).re + -(sumC f m).re = 0; grind) (by show (sumC f m).im + -(sumC f m).im = 0; grind)
theorem half_sums {f : Nat → Cq} {m : Nat} (h : ∀ k, f (m + k) = cN (f k)) : ∀ c, sumC f (2 * m * c) = c0
  | 0 => rfl
  | c + 1 => by
    have hg : ∀ k, f (2 * m * c + (m + k)) = cN (f (2 * m * c + k)) := fun k => by
      rw [show 2 * m * c + (m + k) = m + (2 * m * c + k) by omega]
      exact h _
    rw [Nat.mul_add, Nat.mul_one, sumC_add, half_sums h c, half_sum (f := fun k => f (2 * m * c + k)) hg, cA_zero]
def shB' (d D : Nat) : Bool := decide (D % 2 ^ d = 0) || (List.range d).any (fun e => decide (2 ^ e * D * 2 ^ (8 - d) % 256 = 128))
theorem shifts_all : allB 9 (fun d => allB 512 (fun D => shB' d D)) = true := by decide +kernel
theorem shift_half {d D : Nat} (hd : d ≤ 8) (hD : D < 512) (h : D % 2 ^ d ≠ 0) : ∃ e, e < d ∧ 2 ^ e * D * 2 ^ (8 - d) % 256 = 128 := by
  have h1 := allB_at (allB_at shifts_all (show d < 9 by omega)) hD
  unfold shB' at h1
  rw [Bool.or_eq_true] at h1
  rcases h1 with h1 | h1
  · exact absurd (of_decide_eq_true h1) h
  · obtain ⟨e, he, h2⟩ := List.any_eq_true.1 h1
    exact ⟨e, List.mem_range.1 he, of_decide_eq_true h2⟩
theorem zero_sum (back : Bool) {d D : Nat} (hd : d ≤ 8) (hD : D < 512) (h : D % 2 ^ d ≠ 0) : sumC (fun k => tw back (D * k * 2 ^ (8 - d))) (2 ^ d) = c0 := by
  obtain ⟨e, he, h1⟩ := shift_half hd hD h
  have hp : 2 ^ d = 2 * 2 ^ e * 2 ^ (d - 1 - e) := by
    rw [show 2 * 2 ^ e = 2 ^ (e + 1) by rw [Nat.pow_succ, Nat.mul_comm], ← Nat.pow_add]
    congr 1
    omega
  rw [hp]
  refine half_sums (fun k => ?_) _
  show tw back (D * (2 ^ e + k) * 2 ^ (8 - d)) = cN (tw back (D * k * 2 ^ (8 - d)))
  rw [Nat.mul_add, Nat.add_mul, Nat.mul_comm D (2 ^ e)]
  generalize hx : 2 ^ e * D * 2 ^ (8 - d) = x at *
  generalize D * k * 2 ^ (8 - d) = y
  obtain ⟨i, rfl⟩ : ∃ i, x = 128 * (2 * i + 1) := ⟨x / 256, by omega⟩
  rw [Nat.add_comm, tw_odd]
theorem full_sum (back : Bool) {d D : Nat} (hd : d ≤ 8) (h : D % 2 ^ d = 0) : sumC (fun k => tw back (D * k * 2 ^ (8 - d))) (2 ^ d) = ⟨((2 ^ d : Nat) : Rat), 0⟩ := by
  have hs : 2 ^ d * 2 ^ (8 - d) = 256 := by rw [← Nat.pow_add, show d + (8 - d) = 8 by omega]
  have h1 : ∀ k, tw back (D * k * 2 ^ (8 - d)) = ⟨1, 0⟩ := fun k => by
    obtain ⟨c, rfl⟩ : ∃ c, D = 2 ^ d * c := ⟨D / 2 ^ d, by have := Nat.div_add_mod D (2 ^ d); omega⟩
    rw [show 2 ^ d * c * k * 2 ^ (8 - d) = 0 + 256 * (c * k) by
      rw [← hs, Nat.zero_add, Nat.mul_assoc (2 ^ d) c k, Nat.mul_assoc (2 ^ d) (c * k), Nat.mul_comm (c * k), ← Nat.mul_assoc], tw_turns, tw_zero]
  have h2 : ∀ n : Nat, sumC (fun _ => (⟨1, 0⟩ : Cq)) n = ⟨(n : Rat), 0⟩ := by
    intro n
    induction n with
    | zero => rfl
    | succ n ih =>
      show cA (sumC (fun _ => (⟨1, 0⟩ : Cq)) n) ⟨1, 0⟩ = _
      rw [ih]
      refine cq_eq ?_ (by show (0 : Rat) + 0 = 0; grind)
      show (n : Rat) + 1 = ((n + 1 : Nat) : Rat)
      rw [Rat.natCast_add]
      rfl
  rw [sumC_congr (g := fun _ => (⟨1, 0⟩ : Cq)) (fun i _ => h1 i), h2]
theorem sumC_plus (f g : Nat → Cq) : ∀ n, sumC (fun i => cA (f i) (g i)) n = cA (sumC f n) (sumC g n)
  | 0 => (cA_zero c0).symm
  | n + 1 => by
    show cA (sumC (fun i => cA (f i) (g i)) n) (cA (f n) (g n)) = cA (cA (sumC f n) (f n)) (cA (sumC g n) (g n))
    rw [sumC_plus f g n, cA_swap]
theorem sumC_none (n : Nat) : sumC (fun _ => c0) n = c0 := by
  induction n with
  | zero => rfl
  | succ n ih =>
    show cA (sumC (fun _ => c0) n) c0 = c0
    rw [ih, cA_zero]
theorem sumC_swap (f : Nat → Nat → Cq) (m : Nat) : ∀ n, sumC (fun i => sumC (fun j => f i j) m) n = sumC (fun j => sumC (fun i => f i j) n) m
  | 0 => (sumC_none m).symm
  | n + 1 => by
    show cA (sumC (fun i => sumC (fun j => f i j) m) n) (sumC (fun j => f n j) m) = sumC (fun j => cA (sumC (fun i => f i j) n) (f n j)) m
    rw [sumC_swap f m n, sumC_plus]
theorem cM_comm (a b : Cq) : cM a b = cM b a := cq_eq (by show a.re * b.re - a.im * b.im = b.re * a.re - b.im * a.im; grind) (by show a.re * b.im + a.im * b.re = b.re * a.im + b.im * a.re; grind)
theorem mul_sumC (w : Cq) (f : Nat → Cq) (n : Nat) : sumC (fun i => cM w (f i)) n = cM w (sumC f n) := by
  rw [cM_comm, sumC_mul]
  exact sumC_congr (fun i _ => cM_comm _ _)
theorem cM_zero (w : Cq) : cM w c0 = c0 := cq_eq (by show w.re * 0 - w.im * 0 = 0; grind) (by show w.re * 0 + w.im * 0 = 0; grind)
theorem cA_zero' (a : Cq) : cA c0 a = a := cq_eq (by show 0 + a.re = a.re; grind) (by show 0 + a.im = a.im; grind)
/-- of a sum all terms but one are nought. -/
theorem sumC_one {f : Nat → Cq} {l : Nat} : ∀ {n : Nat}, l < n → (∀ i, i < n → i ≠ l → f i = c0) → sumC f n = f l
  | 0, h, _ => absurd h (Nat.not_lt_zero l)
  | n + 1, h, h0 => by
    show cA (sumC f n) (f n) = f l
    by_cases e : l = n
    · subst e
      rw [sumC_congr (g := fun _ => c0) (fun i hi => h0 i (by omega) (by omega)), sumC_none, cA_zero']
    · rw [sumC_one (show l < n by omega) (fun i hi => h0 i (by omega)), h0 n (by omega) (fun q => e q.symm), cA_zero]
theorem Fq_sub (back : Bool) (d : Nat) (x y : Nat → Cq) (k : Nat) : cS (Fq back d x k) (Fq back d y k) = Fq back d (fun i => cS (x i) (y i)) k := by
  unfold Fq
  rw [sumC_sub]
  refine sumC_congr (fun i _ => ?_)
  generalize tw back (i * k * 2 ^ (8 - d)) = w
  exact cq_eq (by show (x i).re * w.re - (x i).im * w.im - ((y i).re * w.re - (y i).im * w.im) = ((x i).re - (y i).re) * w.re - ((x i).im - (y i).im) * w.im; grind) (by show (x i).re * w.im + (x i).im * w.re - ((y i).re * w.im + (y i).im * w.re) = ((x i).re - (y i).re) * w.im + ((x i).im - (y i).im) * w.re; grind)
/-- there and back is the row, but for the turns' own errors. -/
theorem inv_near {d : Nat} {z : Nat → Cq} {l : Rat} (hd : d ≤ 8) (h : ∀ i, i < 2 ^ d → Wd (z i) l) (hl : 0 ≤ l) {t : Nat} (ht : t < 2 ^ d) :
    Wd (cS (Fq true d (fun k => Fq false d z k) t) (cM (z t) ⟨((2 ^ d : Nat) : Rat), 0⟩)) (((2 ^ d : Nat) : Rat) * (((2 ^ d : Nat) : Rat) * (l * (3 * uu)))) := by
  have hs : 2 ^ d * 2 ^ (8 - d) = 256 := by rw [← Nat.pow_add, show d + (8 - d) = 8 by omega]
  have h256 : 2 ^ d ≤ 256 := by
    have : 2 ^ d ≤ 2 ^ 8 := Nat.pow_le_pow_right (by decide) hd
    omega
  have hH : sumC (fun j => sumC (fun k => cM (z j) (tw true ((t + 2 ^ d - j) * k * 2 ^ (8 - d)))) (2 ^ d)) (2 ^ d) = cM (z t) ⟨((2 ^ d : Nat) : Rat), 0⟩ := by
    rw [sumC_one (l := t) ht (fun j hj hne => ?_)]
    · show sumC (fun k => cM (z t) (tw true ((t + 2 ^ d - t) * k * 2 ^ (8 - d)))) (2 ^ d) = _
      rw [mul_sumC, full_sum true hd (by rw [show t + 2 ^ d - t = 2 ^ d by omega]; exact Nat.mod_self _)]
    · show sumC (fun k => cM (z j) (tw true ((t + 2 ^ d - j) * k * 2 ^ (8 - d)))) (2 ^ d) = c0
      rw [mul_sumC, zero_sum true hd (by omega) (fun q => ?_), cM_zero]
      obtain ⟨c, hc⟩ := Nat.dvd_of_mod_eq_zero q
      rcases (show c = 0 ∨ c = 1 ∨ 2 ≤ c by omega) with rfl | rfl | hc2
      · omega
      · omega
      · have : 2 ^ d * 2 ≤ 2 ^ d * c := Nat.mul_le_mul_left _ hc2
        omega
  rw [← hH]
  have hG : Fq true d (fun k => Fq false d z k) t = sumC (fun j => sumC (fun k => cM (z j) (cM (tw false (j * k * 2 ^ (8 - d))) (tw true (k * t * 2 ^ (8 - d))))) (2 ^ d)) (2 ^ d) := by
    show sumC (fun k => cM (sumC (fun j => cM (z j) (tw false (j * k * 2 ^ (8 - d)))) (2 ^ d)) (tw true (k * t * 2 ^ (8 - d)))) (2 ^ d) = _
    rw [← sumC_swap]
    refine sumC_congr (fun k _ => ?_)
    rw [sumC_mul]
    exact sumC_congr (fun j _ => cM_assoc _ _ _)
  rw [hG, sumC_sub]
  have pu := uu_pos
  have h3 : 0 ≤ l * (3 * uu) := Rat.mul_nonneg hl (by grind)
  refine wd_sum (Rat.mul_nonneg Rat.natCast_nonneg h3) (fun j hj => ?_)
  rw [sumC_sub]
  refine wd_sum h3 (fun k _ => ?_)
  rw [cM_sub]
  refine (h j hj).mul ?_
  have hc := tw_conj (j * k * 2 ^ (8 - d)) ((t + 2 ^ d - j) * k * 2 ^ (8 - d))
  have e : j * k * 2 ^ (8 - d) + (t + 2 ^ d - j) * k * 2 ^ (8 - d) = k * t * 2 ^ (8 - d) + 256 * k := by
    rw [← Nat.add_mul, ← Nat.add_mul, show j + (t + 2 ^ d - j) = t + 2 ^ d by omega, Nat.add_mul, Nat.add_mul, Nat.mul_comm t k, Nat.mul_comm (2 ^ d) k, Nat.mul_assoc k (2 ^ d), hs, Nat.mul_comm k 256]
  rw [e, tw_turns] at hc
  exact hc
end Go.Proofs.YtngdemhhcablmakDoor
namespace Go.Proofs.YtngdemhhcablmakDoor
open Go

theorem pow_is : ∀ d : Fin 9, dv (FloatKind.f64.format.read (floatOfInt .f64 ((2 ^ d.val : Nat) : Int))) = some ((2 ^ d.val : Nat) : Rat) := by decide +kernel
theorem small_l {l : Rat} (hl : 0 ≤ l) : 0 ≤ uu * l ∧ uu * l ≤ 1 / 1000000000000000 * l ∧ uu * (uu * l) ≤ 1 / 1000000000000000 * (uu * l) ∧ 0 ≤ uu * (uu * l) := by
  have pu := uu_pos
  have su := small_uu
  have a := Rat.mul_nonneg (Rat.le_of_lt pu) hl
  have b := Rat.mul_nonneg (show 0 ≤ 1 / 1000000000000000 - uu by grind) hl
  have c := Rat.mul_nonneg (show 0 ≤ 1 / 1000000000000000 - uu by grind) a
  have e := Rat.mul_nonneg (Rat.le_of_lt pu) a
  exact ⟨a, by grind, by grind, e⟩
/-- how far halves may be off, by numbers. -/
theorem erH_le {d : Nat} (hd : d ≤ 8) {l : Rat} (hl : 0 ≤ l) : 0 ≤ erH d l ∧ erH d l ≤ 9700 * (uu * l) ∧ (d ≤ 6 → erH d l ≤ 1806 * (uu * l)) := by
  obtain ⟨a, b, c, e⟩ := small_l hl
  have hx : erH d l = ((2 ^ d : Nat) : Rat) * ((d : Rat) * (47 / 10 * (uu * l + uu * (uu * l)))) := by unfold erH; grind
  rw [hx]
  rcases (show d = 0 ∨ d = 1 ∨ d = 2 ∨ d = 3 ∨ d = 4 ∨ d = 5 ∨ d = 6 ∨ d = 7 ∨ d = 8 by omega) with rfl | rfl | rfl | rfl | rfl | rfl | rfl | rfl | rfl
  · rw [show ((2 ^ 0 : Nat) : Rat) = 1 from rfl, show ((0 : Nat) : Rat) = 0 from rfl]
    exact ⟨by grind, by grind, fun _ => by grind⟩
  · rw [show ((2 ^ 1 : Nat) : Rat) = 2 from rfl, show ((1 : Nat) : Rat) = 1 from rfl]
    exact ⟨by grind, by grind, fun _ => by grind⟩
  · rw [show ((2 ^ 2 : Nat) : Rat) = 4 from rfl, show ((2 : Nat) : Rat) = 2 from rfl]
    exact ⟨by grind, by grind, fun _ => by grind⟩
  · rw [show ((2 ^ 3 : Nat) : Rat) = 8 from rfl, show ((3 : Nat) : Rat) = 3 from rfl]
    exact ⟨by grind, by grind, fun _ => by grind⟩
  · rw [show ((2 ^ 4 : Nat) : Rat) = 16 from rfl, show ((4 : Nat) : Rat) = 4 from rfl]
    exact ⟨by grind, by grind, fun _ => by grind⟩
  · rw [show ((2 ^ 5 : Nat) : Rat) = 32 from rfl, show ((5 : Nat) : Rat) = 5 from rfl]
    exact ⟨by grind, by grind, fun _ => by grind⟩
  · rw [show ((2 ^ 6 : Nat) : Rat) = 64 from rfl, show ((6 : Nat) : Rat) = 6 from rfl]
    exact ⟨by grind, by grind, fun _ => by grind⟩
  · rw [show ((2 ^ 7 : Nat) : Rat) = 128 from rfl, show ((7 : Nat) : Rat) = 7 from rfl]
    exact ⟨by grind, by grind, fun h => absurd h (by decide)⟩
  · rw [show ((2 ^ 8 : Nat) : Rat) = 256 from rfl, show ((8 : Nat) : Rat) = 8 from rfl]
    exact ⟨by grind, by grind, fun h => absurd h (by decide)⟩
/-- what halves tell, each of a size. -/
theorem fft_all {back : Bool} {d : Nat} {L X : Nat → Nat × Nat} (h : HvR back d L X) (hd : d ≤ 8) {z : Nat → Cq} {l : Rat} (hz : ∀ i, i < 2 ^ d → CIs (L i) (z i) ∧ Wd (z i) l) (hl : 0 ≤ l) (het : et ≤ uu * (uu * l)) (hL : l ≤ p2 700) :
    ∃ x : Nat → Cq, ∀ k, k < 2 ^ d → CIs (X k) (x k) ∧ Wd (cS (x k) (Fq back d z k)) (erH d l) ∧ Wd (x k) (((2 ^ d : Nat) : Rat) * (l * (1 + uu)) + erH d l) := by
  have hn := fft_near h hd hz hl het hL
  refine ⟨fun k => if hk : k < 2 ^ d then Classical.choose (hn k hk) else c0, fun k hk => ?_⟩
  have hc := Classical.choose_spec (hn k hk)
  simp only [hk, dite_true]
  refine ⟨hc.1, hc.2, ?_⟩
  have := (Fq_size (back := back) (fun i hi => (hz i hi).2) hl k).add hc.2
  rwa [show cA (Fq back d z k) (cS (Classical.choose (hn k hk)) (Fq back d z k)) = Classical.choose (hn k hk) from cq_eq (by show _ + (_ - _) = _; grind) (by show _ + (_ - _) = _; grind)] at this
theorem cov_near {y r : Nat × Nat} {z : Cq} {d : Nat} (hd : d ≤ 8) {Q : Rat} (hy : CIs y z) (hQ : Wd z (((2 ^ d : Nat) : Rat) * Q)) (_hQ0 : 0 ≤ Q) (hL : Q ≤ p2 900) (h : COv (floatOfInt .f64 ((2 ^ d : Nat) : Int)) y r) : ∃ t, CIs r t ∧ Wd (cS t ⟨z.re / ((2 ^ d : Nat) : Rat), z.im / ((2 ^ d : Nat) : Rat)⟩) (3 / 2 * (8 / 5 * (uu * Q) + et)) := by
  have hn : Is (floatOfInt .f64 ((2 ^ d : Nat) : Int)) ((2 ^ d : Nat) : Rat) := pow_is ⟨d, by omega⟩
  obtain ⟨n1, n2⟩ := pow_range hd
  generalize ((2 ^ d : Nat) : Rat) = n at *
  have big : p2 900 < p2 990 := by decide +kernel
  obtain ⟨q1, q2, q3, q4⟩ := hQ.parts
  have div_le : ∀ v : Rat, v ≤ n * Q → -(n * Q) ≤ v → ab (v / n) ≤ Q := fun v h1 h2 => by
    have hi : v / n * n = v := Rat.div_mul_cancel (by grind)
    refine ab_two ?_ ?_
    · rcases (Rat.le_total : v / n ≤ Q ∨ Q ≤ v / n) with k | k
      · exact k
      · have hm := Rat.mul_nonneg (show 0 ≤ v / n - Q by grind) (show 0 ≤ n - 1 by grind)
        grind
    · rcases (Rat.le_total : -Q ≤ v / n ∨ v / n ≤ -Q) with k | k
      · exact k
      · have hm := Rat.mul_nonneg (show 0 ≤ -Q - v / n by grind) (show 0 ≤ n - 1 by grind)
        grind
  have v1 := div_le _ q1 q2
  have v2 := div_le _ q3 q4
  obtain ⟨t1, i1, r1⟩ := quo_gen hy.1 hn (by grind) (by grind) h.1
  obtain ⟨t2, i2, r2⟩ := quo_gen hy.2 hn (by grind) (by grind) h.2
  have pu := uu_pos
  have near_q : ∀ {t v : Rat}, Near t v (8 / 5 * p2 (-53) * ab v + p2 (-1054)) → ab v ≤ Q → t ≤ v + (8 / 5 * (uu * Q) + et) ∧ v ≤ t + (8 / 5 * (uu * Q) + et) := fun {t v} h1 h2 => by
    obtain ⟨a1, a2⟩ := h1
    have := Rat.mul_nonneg (Rat.le_of_lt pu) (show 0 ≤ Q - ab v by grind)
    unfold uu et at *
    grind
  have m1 := near_q r1 v1
  have m2 := near_q r2 v2
  exact ⟨⟨t1, t2⟩, ⟨i1, i2⟩, wd_box (by show t1 - z.re / n ≤ _; grind) (by show _ ≤ t1 - z.re / n; grind) (by show t2 - z.im / n ≤ _; grind) (by show _ ≤ t2 - z.im / n; grind)⟩
theorem erH_eq (d : Nat) (l : Rat) : erH d l = ((2 ^ d : Nat) : Rat) * ((d : Rat) * (47 / 10 * (uu * l + uu * (uu * l)))) := by
  unfold erH
  grind
/-- there and back, as it is reckoned. -/
theorem back_near {d : Nat} (hd : d ≤ 6) {L X Y R : Nat → Nat × Nat} (h1 : HvR false d L X) (h2 : HvR true d X Y) (h3 : ∀ k, k < 2 ^ d → COv (floatOfInt .f64 ((2 ^ d : Nat) : Int)) (Y k) (R k)) {z : Nat → Cq} {l : Rat} (hz : ∀ i, i < 2 ^ d → CIs (L i) (z i) ∧ Wd (z i) l) (hl : 0 ≤ l) (het : et ≤ uu * (uu * l)) (hL : l ≤ p2 600) {t : Nat} (ht : t < 2 ^ d) :
    ∃ r, CIs (R t) r ∧ Wd (cS r (z t)) (4100 * (uu * l)) := by
  have hd8 : d ≤ 8 := by omega
  obtain ⟨n1, n2⟩ := pow_range hd8
  obtain ⟨a0, a1, b1, b0⟩ := small_l hl
  obtain ⟨_, _, c1, c0'⟩ := small_l a0
  obtain ⟨_, _, g1', g0'⟩ := small_l b0
  have b6 : p2 600 ≤ p2 700 := by decide +kernel
  have b7 : 1000000 * p2 600 ≤ p2 700 := by decide +kernel
  have b9 : 1000000 * p2 600 ≤ p2 900 := by decide +kernel
  obtain ⟨x, hx⟩ := fft_all h1 hd8 hz hl het (by grind)
  obtain ⟨e0, e1, _⟩ := erH_le hd8 hl
  obtain ⟨l2, hl2⟩ : ∃ q : Rat, q = ((2 ^ d : Nat) : Rat) * (l * (1 + uu)) + erH d l := ⟨_, rfl⟩
  have hx2 : ∀ i, i < 2 ^ d → CIs (X i) (x i) ∧ Wd (x i) l2 := fun i hi => ⟨(hx i hi).1, by rw [hl2]; exact (hx i hi).2.2⟩
  have lm : l * (1 + uu) = l + uu * l := by grind
  have hlo := Rat.mul_nonneg (show 0 ≤ ((2 ^ d : Nat) : Rat) - 1 by grind) (show 0 ≤ l * (1 + uu) by grind)
  have hhi := mul_mono (show 0 ≤ ((2 ^ d : Nat) : Rat) by grind) (show 0 ≤ l * (1 + uu) by grind) n2 (Rat.le_refl (a := l * (1 + uu)))
  have l2l : l ≤ l2 := by rw [hl2]; grind
  have l20 : 0 ≤ l2 := by grind
  have pu := uu_pos
  have het2 : et ≤ uu * (uu * l2) := by
    have := Rat.mul_nonneg (Rat.le_of_lt pu) (Rat.mul_nonneg (Rat.le_of_lt pu) (show 0 ≤ l2 - l by grind))
    grind
  have hL2 : l2 ≤ p2 700 := by rw [hl2]; grind
  obtain ⟨y, hy⟩ := fft_all h2 hd8 hx2 l20 het2 hL2
  obtain ⟨iy, ny, _⟩ := hy t ht
  have g1 := Fq_size (back := true) (z := fun i => cS (x i) (Fq false d z i)) (fun i hi => (hx i hi).2.1) e0 t
  rw [← Fq_sub] at g1
  have g2 := inv_near hd8 (fun i hi => (hz i hi).2) hl ht
  have g3 := (ny.add g1).add g2
  have se : ∀ a b c d : Cq, cA (cA (cS a b) (cS b c)) (cS c d) = cS a d := fun a b c d => cq_eq (by show a.re - b.re + (b.re - c.re) + (c.re - d.re) = a.re - d.re; grind) (by show a.im - b.im + (b.im - c.im) + (c.im - d.im) = a.im - d.im; grind)
  rw [se] at g3
  have hEy : erH d l2 + ((2 ^ d : Nat) : Rat) * (erH d l * (1 + uu)) + ((2 ^ d : Nat) : Rat) * (((2 ^ d : Nat) : Rat) * (l * (3 * uu))) ≤ ((2 ^ d : Nat) : Rat) * (4000 * (uu * l)) := by
    have u2 : uu * l2 = ((2 ^ d : Nat) : Rat) * (uu * l + uu * (uu * l)) + uu * erH d l := by rw [hl2]; grind
    have u3 : uu * (uu * l2) = ((2 ^ d : Nat) : Rat) * (uu * (uu * l) + uu * (uu * (uu * l))) + uu * (uu * erH d l) := by rw [u2]; grind
    have q1 : erH d l * (1 + uu) = erH d l + uu * erH d l := by grind
    have q2 : l * (3 * uu) = 3 * (uu * l) := by grind
    rw [erH_eq d l2, u3, u2, q1, q2, erH_eq d l]
    have w1 : ∀ n k : Rat, uu * (n * (k * (47 / 10 * (uu * l + uu * (uu * l))))) = n * (k * (47 / 10 * (uu * (uu * l) + uu * (uu * (uu * l))))) := fun n k => by grind
    have w2 : ∀ n k : Rat, uu * (n * (k * (47 / 10 * (uu * (uu * l) + uu * (uu * (uu * l)))))) = n * (k * (47 / 10 * (uu * (uu * (uu * l)) + uu * (uu * (uu * (uu * l)))))) := fun n k => by grind
    rw [w1, w2]
    generalize uu * (uu * (uu * (uu * l))) = m4 at *
    generalize uu * (uu * (uu * l)) = m3 at *
    generalize uu * (uu * l) = m2 at *
    generalize uu * l = m1 at *
    rcases (show d = 0 ∨ d = 1 ∨ d = 2 ∨ d = 3 ∨ d = 4 ∨ d = 5 ∨ d = 6 by omega) with rfl | rfl | rfl | rfl | rfl | rfl | rfl
    · rw [show ((2 ^ 0 : Nat) : Rat) = 1 from rfl, show ((0 : Nat) : Rat) = 0 from rfl]
      grind
    · rw [show ((2 ^ 1 : Nat) : Rat) = 2 from rfl, show ((1 : Nat) : Rat) = 1 from rfl]
      grind
    · rw [show ((2 ^ 2 : Nat) : Rat) = 4 from rfl, show ((2 : Nat) : Rat) = 2 from rfl]
      grind
    · rw [show ((2 ^ 3 : Nat) : Rat) = 8 from rfl, show ((3 : Nat) : Rat) = 3 from rfl]
      grind
    · rw [show ((2 ^ 4 : Nat) : Rat) = 16 from rfl, show ((4 : Nat) : Rat) = 4 from rfl]
      grind
    · rw [show ((2 ^ 5 : Nat) : Rat) = 32 from rfl, show ((5 : Nat) : Rat) = 5 from rfl]
      grind
    · rw [show ((2 ^ 6 : Nat) : Rat) = 64 from rfl, show ((6 : Nat) : Rat) = 6 from rfl]
      grind
  have g4 := g3.mono hEy
  have hzt := (hz t ht).2
  have nz : Wd (cM (z t) ⟨((2 ^ d : Nat) : Rat), 0⟩) (l * ((2 ^ d : Nat) : Rat)) := hzt.mul ⟨by grind, by show ((2 ^ d : Nat) : Rat) * ((2 ^ d : Nat) : Rat) + 0 * 0 ≤ _; grind⟩
  have my := nz.add g4
  rw [show cA (cM (z t) ⟨((2 ^ d : Nat) : Rat), 0⟩) (cS (y t) (cM (z t) ⟨((2 ^ d : Nat) : Rat), 0⟩)) = y t from cq_eq (by show _ + (_ - _) = _; grind) (by show _ + (_ - _) = _; grind)] at my
  have my2 : Wd (y t) (((2 ^ d : Nat) : Rat) * (2 * l)) := my.mono (by
    have := Rat.mul_nonneg (show 0 ≤ ((2 ^ d : Nat) : Rat) by grind) (show 0 ≤ l - 4000 * (uu * l) by grind)
    grind)
  obtain ⟨r, ir, nr⟩ := cov_near hd8 iy my2 (by grind) (by grind) (h3 t ht)
  refine ⟨r, ir, ?_⟩
  have dv1 : Wd (cS ⟨(y t).re / ((2 ^ d : Nat) : Rat), (y t).im / ((2 ^ d : Nat) : Rat)⟩ (z t)) (4000 * (uu * l)) := by
    have hi1 : (y t).re / ((2 ^ d : Nat) : Rat) * ((2 ^ d : Nat) : Rat) = (y t).re := Rat.div_mul_cancel (by grind)
    have hi2 : (y t).im / ((2 ^ d : Nat) : Rat) * ((2 ^ d : Nat) : Rat) = (y t).im := Rat.div_mul_cancel (by grind)
    have hle := g4.le
    have er : (cS (y t) (cM (z t) ⟨((2 ^ d : Nat) : Rat), 0⟩)).re = ((2 ^ d : Nat) : Rat) * ((y t).re / ((2 ^ d : Nat) : Rat) - (z t).re) := by
      show (y t).re - ((z t).re * ((2 ^ d : Nat) : Rat) - (z t).im * 0) = _
      grind
    have ei : (cS (y t) (cM (z t) ⟨((2 ^ d : Nat) : Rat), 0⟩)).im = ((2 ^ d : Nat) : Rat) * ((y t).im / ((2 ^ d : Nat) : Rat) - (z t).im) := by
      show (y t).im - ((z t).re * 0 + (z t).im * ((2 ^ d : Nat) : Rat)) = _
      grind
    rw [er, ei] at hle
    refine ⟨by grind, ?_⟩
    show ((y t).re / ((2 ^ d : Nat) : Rat) - (z t).re) * ((y t).re / ((2 ^ d : Nat) : Rat) - (z t).re) + ((y t).im / ((2 ^ d : Nat) : Rat) - (z t).im) * ((y t).im / ((2 ^ d : Nat) : Rat) - (z t).im) ≤ _
    generalize (y t).re / ((2 ^ d : Nat) : Rat) - (z t).re = p at *
    generalize (y t).im / ((2 ^ d : Nat) : Rat) - (z t).im = q at *
    generalize ((2 ^ d : Nat) : Rat) = n at *
    generalize 4000 * (uu * l) = B at *
    have hnn : 0 < n * n := Rat.mul_pos (by grind) (by grind)
    have hle2 : n * n * (p * p + q * q) ≤ n * n * (B * B) := by grind
    exact Rat.le_of_mul_le_mul_left hle2 hnn
  have := nr.add dv1
  rw [show ∀ a b c : Cq, cA (cS a b) (cS b c) = cS a c from fun a b c => cq_eq (by show a.re - b.re + (b.re - c.re) = a.re - c.re; grind) (by show a.im - b.im + (b.im - c.im) = a.im - c.im; grind)] at this
  have u2l : uu * (2 * l) = 2 * (uu * l) := by grind
  exact this.mono (by rw [u2l]; grind)
end Go.Proofs.YtngdemhhcablmakDoor
namespace Go.Proofs.YtngdemhhcablmakDoor
open Go

theorem gAt_is {d : Nat} (hd : d ≤ 8) (j k : Nat) : gAt j k (2 ^ d) = 5062500000 * ((j * k % 2 ^ d * 2 ^ (8 - d) : Nat) : Int) ∧ j * k % 2 ^ d * 2 ^ (8 - d) < 256 := by
  have hs : 2 ^ d * 2 ^ (8 - d) = 256 := by rw [← Nat.pow_add, show d + (8 - d) = 8 by omega]
  have hm : j * k % 2 ^ d < 2 ^ d := Nat.mod_lt _ (Nat.two_pow_pos d)
  unfold gAt
  generalize j * k % 2 ^ d = r at hm ⊢
  refine ⟨?_, ?_⟩
  · have h : 1296000000000 * r = 5062500000 * (r * 2 ^ (8 - d)) * 2 ^ d := by
      rw [show 5062500000 * (r * 2 ^ (8 - d)) * 2 ^ d = 5062500000 * r * (2 ^ d * 2 ^ (8 - d)) by
        generalize 2 ^ (8 - d) = s
        generalize 2 ^ d = t
        rw [Nat.mul_assoc 5062500000 r, Nat.mul_assoc 5062500000, Nat.mul_assoc r s, Nat.mul_comm s t], hs]
      omega
    rw [h, Nat.mul_div_cancel _ (Nat.two_pow_pos _), Int.natCast_mul]
    rfl
  · have : (r + 1) * 2 ^ (8 - d) ≤ 2 ^ d * 2 ^ (8 - d) := Nat.mul_le_mul_right _ hm
    have h0 : 0 < 2 ^ (8 - d) := Nat.two_pow_pos _
    rw [Nat.add_mul, Nat.one_mul] at this
    omega
theorem tw_at {back : Bool} {d : Nat} (hd : d ≤ 8) (m : Nat) : tw back (m % 2 ^ d * 2 ^ (8 - d)) = tw back (m * 2 ^ (8 - d)) := by
  have hs : 2 ^ d * 2 ^ (8 - d) = 256 := by rw [← Nat.pow_add, show d + (8 - d) = 8 by omega]
  have h1 := Nat.div_add_mod m (2 ^ d)
  have e : m * 2 ^ (8 - d) = m % 2 ^ d * 2 ^ (8 - d) + 256 * (m / 2 ^ d) := by
    rw [← hs]
    generalize m / 2 ^ d = a at *
    generalize m % 2 ^ d = b at *
    rw [← h1, Nat.add_mul, Nat.add_comm, Nat.mul_assoc, Nat.mul_comm a, Nat.mul_assoc]
  rw [e, tw_turns]
theorem wv_near {back : Bool} {d : Nat} (hd : d ≤ 8) {L : List (Nat × Nat)} {z : Nat → Cq} {l : Rat} (hz : ∀ i, i < 2 ^ d → CIs (L.getD i (0, 0)) (z i) ∧ Wd (z i) l) (hl : 0 ≤ l) (het : et ≤ uu * (uu * l)) (hL : l ≤ p2 700) {k j : Nat} {x : Nat × Nat} (h : WvR L k (2 ^ d) back j x) : j ≤ 2 ^ d → ∃ t, CIs x t ∧ Wd (cS t (sumC (fun i => cM (z i) (tw back (i * k * 2 ^ (8 - d)))) j)) ((j : Rat) * (500 * (uu * l))) := by
  obtain ⟨a0, a1, b1, b0⟩ := small_l hl
  have h256 : 2 ^ d ≤ 256 := by
    have : 2 ^ d ≤ 2 ^ 8 := Nat.pow_le_pow_right (by decide) hd
    omega
  have p7 : 1000 * p2 700 ≤ p2 900 := by decide +kernel
  have p70 : 0 < p2 700 := by decide +kernel
  induction h with
  | zero =>
    intro _
    refine ⟨c0, ⟨by show Is 0 0; unfold Is; decide +kernel, by show Is 0 0; unfold Is; decide +kernel⟩, ?_⟩
    rw [show ((0 : Nat) : Rat) = 0 from rfl, Rat.zero_mul]
    have e : cS c0 (sumC (fun i => cM (z i) (tw back (i * k * 2 ^ (8 - d)))) 0) = c0 := cq_eq (by show (0 : Rat) - 0 = 0; grind) (by show (0 : Rat) - 0 = 0; grind)
    rw [e]
    exact Wd.zero Rat.le_refl
  | @next j x p y hx hp hy ih =>
    intro hj
    obtain ⟨t, it, nt⟩ := ih (by omega)
    obtain ⟨iz, wz⟩ := hz j (by omega)
    obtain ⟨ga, gb⟩ := gAt_is hd j k
    have iT := tw_is back gb
    rw [← ga] at iT
    have fT := tw_le back (j * k % 2 ^ d * 2 ^ (8 - d))
    rw [tw_at hd] at iT fT
    have lm : l * (1 + uu) = l + uu * l := by grind
    obtain ⟨q, iq, nq⟩ := cpr_near iz iT wz fT (by rw [lm]; grind) hp
    have hjr : (j : Rat) ≤ 256 := (Rat.natCast_le_natCast (a := j) (b := 256)).2 (by omega)
    have hj0 : (0 : Rat) ≤ (j : Rat) := Rat.natCast_nonneg
    have hP : Wd (sumC (fun i => cM (z i) (tw back (i * k * 2 ^ (8 - d)))) j) ((j : Rat) * (l * (1 + uu))) := wd_sum (by rw [lm]; grind) (fun i hi => (hz i (by omega)).2.mul (tw_le back _))
    have mt0 := hP.add nt
    rw [show ∀ a b : Cq, cA b (cS a b) = a from fun a b => cq_eq (by show b.re + (a.re - b.re) = a.re; grind) (by show b.im + (a.im - b.im) = a.im; grind)] at mt0
    have j1 := Rat.mul_nonneg (show 0 ≤ 256 - (j : Rat) by grind) hl
    have j2 := Rat.mul_nonneg (show 0 ≤ 256 - (j : Rat) by grind) a0
    have mt : Wd t (257 * l) := mt0.mono (by rw [lm]; grind)
    have mq0 := (wz.mul fT).add nq
    rw [show ∀ a b : Cq, cA b (cS a b) = a from fun a b => cq_eq (by show b.re + (a.re - b.re) = a.re; grind) (by show b.im + (a.im - b.im) = a.im; grind)] at mq0
    have ul : uu * (l * (1 + uu)) = uu * l + uu * (uu * l) := by grind
    have mq : Wd q (2 * l) := mq0.mono (by rw [ul, lm]; grind)
    obtain ⟨s, is, ns⟩ := cad_near it iq (mt.add mq) (by grind) hy
    refine ⟨s, is, ?_⟩
    have tot := (ns.add nt).add nq
    have e : cA (cA (cS s (cA t q)) (cS t (sumC (fun i => cM (z i) (tw back (i * k * 2 ^ (8 - d)))) j))) (cS q (cM (z j) (tw back (j * k * 2 ^ (8 - d))))) = cS s (sumC (fun i => cM (z i) (tw back (i * k * 2 ^ (8 - d)))) (j + 1)) := by
      show _ = cS s (cA (sumC (fun i => cM (z i) (tw back (i * k * 2 ^ (8 - d)))) j) (cM (z j) (tw back (j * k * 2 ^ (8 - d)))))
      generalize sumC (fun i => cM (z i) (tw back (i * k * 2 ^ (8 - d)))) j = a
      generalize cM (z j) (tw back (j * k * 2 ^ (8 - d))) = b
      exact cq_eq (by show s.re - (t.re + q.re) + (t.re - a.re) + (q.re - b.re) = s.re - (a.re + b.re); grind) (by show s.im - (t.im + q.im) + (t.im - a.im) + (q.im - b.im) = s.im - (a.im + b.im); grind)
    rw [e] at tot
    have hj1 : ((j + 1 : Nat) : Rat) = (j : Rat) + 1 := by rw [Rat.natCast_add]; rfl
    have us : uu * (257 * l + 2 * l) = 259 * (uu * l) := by grind
    exact tot.mono (by rw [hj1, ul, us]; grind)
end Go.Proofs.YtngdemhhcablmakDoor
