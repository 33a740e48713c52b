/-
  Complex numbers of rational parts, and how great they are at most. No program here. Products and sums of complex numbers as they are reckoned: how far off. No program here.
-/
import Derived.Test.YtngdemhhcablmakDoorGenA
import Derived.Test.YtngdemhhcablmakDoorShW
namespace Go.Proofs.YtngdemhhcablmakDoor
open Go

structure Cq where
  re : Rat
  im : Rat
theorem cq_eq {z w : Cq} (h1 : z.re = w.re) (h2 : z.im = w.im) : z = w := by
  cases z
  cases w
  simp only at h1 h2
  rw [h1, h2]
def cA (z w : Cq) : Cq := ⟨z.re + w.re, z.im + w.im⟩
def cS (z w : Cq) : Cq := ⟨z.re - w.re, z.im - w.im⟩
def cM (z w : Cq) : Cq := ⟨z.re * w.re - z.im * w.im, z.re * w.im + z.im * w.re⟩
def cN (z : Cq) : Cq := ⟨-z.re, -z.im⟩
def c0 : Cq := ⟨0, 0⟩
theorem sqn (a : Rat) : 0 ≤ a * a := by
  rcases (Rat.le_total : 0 ≤ a ∨ a ≤ 0) with h | h
  · exact Rat.mul_nonneg h h
  · have := Rat.mul_nonneg (show 0 ≤ -a by grind) (show 0 ≤ -a by grind)
    grind
theorem le_of_sqr {d e : Rat} (he : 0 ≤ e) (h : d * d ≤ e * e) : d ≤ e ∧ -e ≤ d := by
  constructor
  · rcases (Rat.le_total : d ≤ e ∨ e ≤ d) with k | k
    · exact k
    · rcases Decidable.em (d = e) with q | q
      · grind
      · have h1 : 0 < d - e := by grind
        have h2 : 0 < d + e := by grind
        have := Rat.mul_pos h1 h2
        grind
  · rcases (Rat.le_total : -e ≤ d ∨ d ≤ -e) with k | k
    · exact k
    · rcases Decidable.em (d = -e) with q | q
      · grind
      · have h1 : 0 < -d - e := by grind
        have h2 : 0 < -d + e := by grind
        have := Rat.mul_pos h1 h2
        grind
theorem sqr_le {d e : Rat} (h1 : d ≤ e) (h2 : -e ≤ d) : d * d ≤ e * e := by
  have := Rat.mul_nonneg (show 0 ≤ e - d by grind) (show 0 ≤ e + d by grind)
  grind
theorem mul_mono {a b A B : Rat} (ha : 0 ≤ a) (hb : 0 ≤ b) (h1 : a ≤ A) (h2 : b ≤ B) : a * b ≤ A * B := by
  have p1 := Rat.mul_nonneg (show 0 ≤ A - a by grind) (show 0 ≤ B by grind)
  have p2 := Rat.mul_nonneg ha (show 0 ≤ B - b by grind)
  grind
/-- a number's size is at most B. -/
structure Wd (z : Cq) (B : Rat) : Prop where
  nn : 0 ≤ B
  le : z.re * z.re + z.im * z.im ≤ B * B
theorem cauchy {x y x' y' A B : Rat} (hA : 0 ≤ A) (hB : 0 ≤ B) (h : x * x + y * y ≤ A * A) (k : x' * x' + y' * y' ≤ B * B) : x * x' + y * y' ≤ A * B ∧ -(A * B) ≤ x * x' + y * y' := by
  have n0 := sqn (x * y' - x' * y)
  have hN : 0 ≤ x * x + y * y := by
    have := sqn x
    have := sqn y
    grind
  have hN' : 0 ≤ x' * x' + y' * y' := by
    have := sqn x'
    have := sqn y'
    grind
  have hp := mul_mono hN hN' h k
  refine le_of_sqr (Rat.mul_nonneg hA hB) ?_
  have e1 : (x * x' + y * y') * (x * x' + y * y') + (x * y' - x' * y) * (x * y' - x' * y) = (x * x + y * y) * (x' * x' + y' * y') := by grind
  have e2 : A * B * (A * B) = A * A * (B * B) := by grind
  grind
theorem Wd.add {z w : Cq} {A B : Rat} (h : Wd z A) (k : Wd w B) : Wd (cA z w) (A + B) := by
  obtain ⟨hA, h⟩ := h
  obtain ⟨hB, k⟩ := k
  have c := (cauchy hA hB h k).1
  refine ⟨by grind, ?_⟩
  show (z.re + w.re) * (z.re + w.re) + (z.im + w.im) * (z.im + w.im) ≤ _
  grind
theorem Wd.neg {z : Cq} {A : Rat} (h : Wd z A) : Wd (cN z) A := ⟨h.nn, by
  show -z.re * -z.re + -z.im * -z.im ≤ _
  have := h.le
  grind⟩
theorem Wd.sub {z w : Cq} {A B : Rat} (h : Wd z A) (k : Wd w B) : Wd (cS z w) (A + B) := by
  have := h.add k.neg
  rwa [show cA z (cN w) = cS z w from cq_eq (by show z.re + -w.re = z.re - w.re; grind) (by show z.im + -w.im = z.im - w.im; grind)] at this
theorem Wd.mul {z w : Cq} {A B : Rat} (h : Wd z A) (k : Wd w B) : Wd (cM z w) (A * B) := by
  obtain ⟨hA, h⟩ := h
  obtain ⟨hB, k⟩ := k
  have hN : 0 ≤ z.re * z.re + z.im * z.im := by
    have := sqn z.re
    have := sqn z.im
    grind
  have hN' : 0 ≤ w.re * w.re + w.im * w.im := by
    have := sqn w.re
    have := sqn w.im
    grind
  have hp := mul_mono hN hN' h k
  refine ⟨Rat.mul_nonneg hA hB, ?_⟩
  show (z.re * w.re - z.im * w.im) * (z.re * w.re - z.im * w.im) + (z.re * w.im + z.im * w.re) * (z.re * w.im + z.im * w.re) ≤ _
  have e : (z.re * w.re - z.im * w.im) * (z.re * w.re - z.im * w.im) + (z.re * w.im + z.im * w.re) * (z.re * w.im + z.im * w.re) = (z.re * z.re + z.im * z.im) * (w.re * w.re + w.im * w.im) := by grind
  grind
theorem Wd.mono {z : Cq} {A B : Rat} (h : Wd z A) (k : A ≤ B) : Wd z B := ⟨Rat.le_trans h.nn k, Rat.le_trans h.le (mul_mono h.nn h.nn k k)⟩
theorem Wd.zero {A : Rat} (h : 0 ≤ A) : Wd c0 A := ⟨h, by
  show (0 : Rat) * 0 + 0 * 0 ≤ A * A
  have := sqn A
  grind⟩
theorem Wd.parts {z : Cq} {A : Rat} (h : Wd z A) : z.re ≤ A ∧ -A ≤ z.re ∧ z.im ≤ A ∧ -A ≤ z.im := by
  have h1 := sqn z.re
  have h2 := sqn z.im
  have h3 := h.le
  obtain ⟨a, b⟩ := le_of_sqr (d := z.re) h.nn (by grind)
  obtain ⟨c, d⟩ := le_of_sqr (d := z.im) h.nn (by grind)
  exact ⟨a, b, c, d⟩
theorem wd_box {z : Cq} {e : Rat} (h1 : z.re ≤ e) (h2 : -e ≤ z.re) (h3 : z.im ≤ e) (h4 : -e ≤ z.im) : Wd z (3 / 2 * e) := by
  have h0 : 0 ≤ e := by grind
  have := sqr_le h1 h2
  have := sqr_le h3 h4
  have := sqn e
  exact ⟨by grind, by grind⟩
/-- the products of parts, each by its size. -/
theorem Wd.cross {z w : Cq} {A B : Rat} (h : Wd z A) (k : Wd w B) : ab (z.re * w.re) + ab (z.im * w.im) ≤ A * B ∧ ab (z.re * w.im) + ab (z.im * w.re) ≤ A * B := by
  have key : ∀ p q r s : Rat, p * p + q * q ≤ A * A → r * r + s * s ≤ B * B → ab (p * r) + ab (q * s) ≤ A * B := fun p q r s h1 h2 => by
    have c1 := cauchy (x := p) (y := q) (x' := r) (y' := s) h.nn k.nn h1 h2
    have c2 := cauchy (x := p) (y := -q) (x' := r) (y' := s) h.nn k.nn (by grind) h2
    unfold ab
    split <;> split <;> grind
  exact ⟨key _ _ _ _ h.le k.le, key _ _ _ _ h.le (by have := k.le; grind)⟩
/-- the bits of a complex number, and what they stand for. -/
def CIs (x : Nat × Nat) (z : Cq) : Prop := Is x.1 z.re ∧ Is x.2 z.im
def uu : Rat := p2 (-53)
def et : Rat := p2 (-1054)
theorem uu_pos : 0 < uu := p2_pos _
theorem et_pos : 0 < et := p2_pos _
theorem rd_near {t v V : Rat} (h : Rd t v) (hv : ab v ≤ V) : t ≤ v + (uu * V + et) ∧ v ≤ t + (uu * V + et) := by
  obtain ⟨⟨h1, h2⟩, _⟩ := h
  have := Rat.mul_nonneg (Rat.le_of_lt uu_pos) (show 0 ≤ V - ab v by grind)
  unfold uu et at *
  grind
theorem ab_two {v V : Rat} (h1 : v ≤ V) (h2 : -V ≤ v) : ab v ≤ V := ab_le h1 h2
theorem ab_iff {v V : Rat} (h : ab v ≤ V) : v ≤ V ∧ -V ≤ v := by
  unfold ab at h
  split at h <;> grind
end Go.Proofs.YtngdemhhcablmakDoor
namespace Go.Proofs.YtngdemhhcablmakDoor
open Go

theorem small_uu : uu ≤ 1 / 1000000000000000 := by decide +kernel
theorem small_et : et ≤ 1 / 1000000000000000 := by decide +kernel
theorem big900 : p2 900 + p2 900 + 1 < p2 1000 ∧ 0 < p2 900 := by decide +kernel
/-- one part of a product. -/
theorem part_near {a b c d : Nat} {A B C D P : Rat} (ha : Is a A) (hb : Is b B) (hc : Is c C) (hd : Is d D) (hP : ab (A * C) + ab (B * D) ≤ P) (hL : P ≤ p2 900) {m1 m2 : Nat} (h1 : FOp .mul a c m1) (h2 : FOp .mul b d m2) :
    (∀ r, FOp .sub m1 m2 r → ∃ t, Is r t ∧ t ≤ A * C - B * D + (201 / 100 * (uu * P) + 4 * et) ∧ A * C - B * D ≤ t + (201 / 100 * (uu * P) + 4 * et)) ∧
    (∀ r, FOp .add m1 m2 r → ∃ t, Is r t ∧ t ≤ A * C + B * D + (201 / 100 * (uu * P) + 4 * et) ∧ A * C + B * D ≤ t + (201 / 100 * (uu * P) + 4 * et)) := by
  obtain ⟨g1, g2⟩ := big900
  have n1 := ab_nonneg (A * C)
  have n2 := ab_nonneg (B * D)
  have su := small_uu
  have se := small_et
  have pu := uu_pos
  have pe := et_pos
  obtain ⟨s, hs, rs⟩ := mul_gen ha hc (by grind) h1
  obtain ⟨t, ht, rt⟩ := mul_gen hb hd (by grind) h2
  have ns := rd_near rs (Rat.le_refl)
  have nt := rd_near rt (Rat.le_refl)
  have q1 := ab_iff (Rat.le_refl (a := ab (A * C)))
  have q2 := ab_iff (Rat.le_refl (a := ab (B * D)))
  have hup : uu * (ab (A * C) + ab (B * D)) ≤ uu * P := by
    have := Rat.mul_nonneg (Rat.le_of_lt pu) (show 0 ≤ P - (ab (A * C) + ab (B * D)) by grind)
    grind
  have hP0 : 0 ≤ P := by grind
  have huP : uu * P ≤ 1 / 1000000000000000 * P := by
    have := Rat.mul_nonneg (show 0 ≤ 1 / 1000000000000000 - uu by grind) hP0
    grind
  have huP0 : 0 ≤ uu * P := Rat.mul_nonneg (Rat.le_of_lt pu) hP0
  have huu : uu * (uu * P) ≤ 1 / 1000000000000000 * (uu * P) := by
    have := Rat.mul_nonneg (show 0 ≤ 1 / 1000000000000000 - uu by grind) huP0
    grind
  have hue : uu * et ≤ 1 / 1000000000000000 * et := by
    have := Rat.mul_nonneg (show 0 ≤ 1 / 1000000000000000 - uu by grind) (Rat.le_of_lt pe)
    grind
  have e1 : uu * (ab (A * C) + ab (B * D)) = uu * ab (A * C) + uu * ab (B * D) := by grind
  constructor
  · intro r hr
    have hv : ab (s - t) ≤ P + uu * P + 2 * et := ab_two (by grind) (by grind)
    obtain ⟨v, hvi, rv⟩ := sub_gen hs ht (by grind) hr
    have nv := rd_near rv hv
    have e2 : uu * (P + uu * P + 2 * et) = uu * P + uu * (uu * P) + 2 * (uu * et) := by grind
    exact ⟨v, hvi, by grind, by grind⟩
  · intro r hr
    have hv : ab (s + t) ≤ P + uu * P + 2 * et := ab_two (by grind) (by grind)
    obtain ⟨v, hvi, rv⟩ := add_gen hs ht (by grind) hr
    have nv := rd_near rv hv
    have e2 : uu * (P + uu * P + 2 * et) = uu * P + uu * (uu * P) + 2 * (uu * et) := by grind
    exact ⟨v, hvi, by grind, by grind⟩
theorem cpr_near {x y r : Nat × Nat} {z w : Cq} {A B : Rat} (hx : CIs x z) (hy : CIs y w) (hA : Wd z A) (hB : Wd w B) (hL : A * B ≤ p2 900) (h : CPr x y r) : ∃ t, CIs r t ∧ Wd (cS t (cM z w)) (31 / 10 * (uu * (A * B)) + 6 * et) := by
  obtain ⟨ac, bd, ad, bc, h1, h2, h3, h4, h5, h6⟩ := h
  obtain ⟨k1, k2⟩ := hA.cross hB
  obtain ⟨t1, i1, a1, b1⟩ := (part_near hx.1 hx.2 hy.1 hy.2 k1 hL h1 h2).1 _ h5
  obtain ⟨t2, i2, a2, b2⟩ := (part_near hx.1 hx.2 hy.2 hy.1 k2 hL h3 h4).2 _ h6
  have hP : 0 ≤ uu * (A * B) := Rat.mul_nonneg (Rat.le_of_lt uu_pos) (Rat.mul_nonneg hA.nn hB.nn)
  refine ⟨⟨t1, t2⟩, ⟨i1, i2⟩, ?_⟩
  have hb : Wd (cS ⟨t1, t2⟩ (cM z w)) (3 / 2 * (201 / 100 * (uu * (A * B)) + 4 * et)) := wd_box (by show t1 - (z.re * w.re - z.im * w.im) ≤ _; grind) (by show _ ≤ t1 - (z.re * w.re - z.im * w.im); grind) (by show t2 - (z.re * w.im + z.im * w.re) ≤ _; grind) (by show _ ≤ t2 - (z.re * w.im + z.im * w.re); grind)
  exact hb.mono (by grind)
theorem cad_near {x y r : Nat × Nat} {z w : Cq} {Q : Rat} (hx : CIs x z) (hy : CIs y w) (hQ : Wd (cA z w) Q) (hL : Q ≤ p2 900) (h : CAd x y r) : ∃ t, CIs r t ∧ Wd (cS t (cA z w)) (3 / 2 * (uu * Q + et)) := by
  obtain ⟨g1, g2⟩ := big900
  obtain ⟨q1, q2, q3, q4⟩ := hQ.parts
  have e1 : (cA z w).re = z.re + w.re := rfl
  have e2 : (cA z w).im = z.im + w.im := rfl
  rw [e1] at q1 q2
  rw [e2] at q3 q4
  have v1 := ab_two q1 q2
  have v2 := ab_two q3 q4
  obtain ⟨t1, i1, r1⟩ := add_gen hx.1 hy.1 (by grind) h.1
  obtain ⟨t2, i2, r2⟩ := add_gen hx.2 hy.2 (by grind) h.2
  have n1 := rd_near r1 v1
  have n2 := rd_near r2 v2
  exact ⟨⟨t1, t2⟩, ⟨i1, i2⟩, wd_box (by show t1 - (z.re + w.re) ≤ _; grind) (by show _ ≤ t1 - (z.re + w.re); grind) (by show t2 - (z.im + w.im) ≤ _; grind) (by show _ ≤ t2 - (z.im + w.im); grind)⟩
theorem csb_near {x y r : Nat × Nat} {z w : Cq} {Q : Rat} (hx : CIs x z) (hy : CIs y w) (hQ : Wd (cS z w) Q) (hL : Q ≤ p2 900) (h : CSb x y r) : ∃ t, CIs r t ∧ Wd (cS t (cS z w)) (3 / 2 * (uu * Q + et)) := by
  obtain ⟨g1, g2⟩ := big900
  obtain ⟨q1, q2, q3, q4⟩ := hQ.parts
  have e1 : (cS z w).re = z.re - w.re := rfl
  have e2 : (cS z w).im = z.im - w.im := rfl
  rw [e1] at q1 q2
  rw [e2] at q3 q4
  have v1 := ab_two q1 q2
  have v2 := ab_two q3 q4
  obtain ⟨t1, i1, r1⟩ := sub_gen hx.1 hy.1 (by grind) h.1
  obtain ⟨t2, i2, r2⟩ := sub_gen hx.2 hy.2 (by grind) h.2
  have n1 := rd_near r1 v1
  have n2 := rd_near r2 v2
  exact ⟨⟨t1, t2⟩, ⟨i1, i2⟩, wd_box (by show t1 - (z.re - w.re) ≤ _; grind) (by show _ ≤ t1 - (z.re - w.re); grind) (by show t2 - (z.im - w.im) ≤ _; grind) (by show _ ≤ t2 - (z.im - w.im); grind)⟩
/-- one step of halves: E and O off by at most D, each at most q. -/
theorem fly {eb ob wb tb xb yb : Nat × Nat} {e o FE FO T : Cq} {D q : Rat} (he : CIs eb e) (ho : CIs ob o) (hw : CIs wb T) (he1 : Wd (cS e FE) D) (ho1 : Wd (cS o FO) D) (hE : Wd FE q) (hO : Wd FO q) (hT : Wd T (1 + uu)) (hD : D ≤ 1 / 1000000 * q) (hq : et ≤ uu * (uu * q)) (hL : q ≤ p2 800)
    (hp : CPr ob wb tb) (hx : CAd eb tb xb) (hy : CSb eb tb yb) : (∃ x, CIs xb x ∧ Wd (cS x (cA FE (cM FO T))) (2 * D + 62 / 10 * (uu * q))) ∧ ∃ y, CIs yb y ∧ Wd (cS y (cS FE (cM FO T))) (2 * D + 62 / 10 * (uu * q)) := by
  have p800 : 4 * p2 800 ≤ p2 900 := by decide +kernel
  have su := small_uu
  have pu := uu_pos
  have pe := et_pos
  have hq0 := hE.nn
  have hD0 := he1.nn
  have huq0 : 0 ≤ uu * q := Rat.mul_nonneg (Rat.le_of_lt pu) hq0
  have huq : uu * q ≤ 1 / 1000000000000000 * q := by
    have := Rat.mul_nonneg (show 0 ≤ 1 / 1000000000000000 - uu by grind) hq0
    grind
  have huuq : uu * (uu * q) ≤ 1 / 1000000000000000 * (uu * q) := by
    have := Rat.mul_nonneg (show 0 ≤ 1 / 1000000000000000 - uu by grind) huq0
    grind
  have huD : uu * D ≤ 1 / 1000000 * (uu * q) := by
    have := Rat.mul_nonneg (Rat.le_of_lt pu) (show 0 ≤ 1 / 1000000 * q - D by grind)
    grind
  have huuD : uu * (uu * D) ≤ 1 / 1000000000000000 * (uu * D) := by
    have := Rat.mul_nonneg (show 0 ≤ 1 / 1000000000000000 - uu by grind) (Rat.mul_nonneg (Rat.le_of_lt pu) hD0)
    grind
  have e0 : (q + D) * (1 + uu) = q + D + uu * q + uu * D := by grind
  have eqo : cA FO (cS o FO) = o := cq_eq (by show FO.re + (o.re - FO.re) = o.re; grind) (by show FO.im + (o.im - FO.im) = o.im; grind)
  have eqe : cA FE (cS e FE) = e := cq_eq (by show FE.re + (e.re - FE.re) = e.re; grind) (by show FE.im + (e.im - FE.im) = e.im; grind)
  have mo := hO.add ho1
  rw [eqo] at mo
  have me := hE.add he1
  rw [eqe] at me
  obtain ⟨t, it, nt⟩ := cpr_near ho hw mo hT (by grind) hp
  have e1 : uu * ((q + D) * (1 + uu)) = uu * q + uu * D + uu * (uu * q) + uu * (uu * D) := by grind
  have mt0 := (mo.mul hT).add nt
  have eqt : cA (cM o T) (cS t (cM o T)) = t := cq_eq (by show _ + (t.re - _) = t.re; grind) (by show _ + (t.im - _) = t.im; grind)
  rw [eqt] at mt0
  have mt : Wd t (101 / 100 * q) := mt0.mono (by grind)
  have me2 : Wd e (101 / 100 * q) := me.mono (by grind)
  have d1 : Wd (cM (cS o FO) T) (D * (1 + uu)) := ho1.mul hT
  have e3 : D * (1 + uu) = D + uu * D := by grind
  constructor
  · obtain ⟨x, ix, nx⟩ := cad_near he it (me2.add mt) (by grind) hx
    refine ⟨x, ix, ?_⟩
    have h := ((nx.add nt).add he1).add d1
    have e2 : uu * (101 / 100 * q + 101 / 100 * q) = 202 / 100 * (uu * q) := by grind
    have eqx : cA (cA (cA (cS x (cA e t)) (cS t (cM o T))) (cS e FE)) (cM (cS o FO) T) = cS x (cA FE (cM FO T)) := cq_eq (by
      show x.re - (e.re + t.re) + (t.re - (o.re * T.re - o.im * T.im)) + (e.re - FE.re) + ((o.re - FO.re) * T.re - (o.im - FO.im) * T.im) = x.re - (FE.re + (FO.re * T.re - FO.im * T.im))
      grind) (by
      show x.im - (e.im + t.im) + (t.im - (o.re * T.im + o.im * T.re)) + (e.im - FE.im) + ((o.re - FO.re) * T.im + (o.im - FO.im) * T.re) = x.im - (FE.im + (FO.re * T.im + FO.im * T.re))
      grind)
    rw [eqx] at h
    exact h.mono (by grind)
  · obtain ⟨y, iy, ny⟩ := csb_near he it (me2.sub mt) (by grind) hy
    refine ⟨y, iy, ?_⟩
    have h := ((ny.sub nt).add he1).sub d1
    have e2 : uu * (101 / 100 * q + 101 / 100 * q) = 202 / 100 * (uu * q) := by grind
    have eqy : cS (cA (cS (cS y (cS e t)) (cS t (cM o T))) (cS e FE)) (cM (cS o FO) T) = cS y (cS FE (cM FO T)) := cq_eq (by
      show y.re - (e.re - t.re) - (t.re - (o.re * T.re - o.im * T.im)) + (e.re - FE.re) - ((o.re - FO.re) * T.re - (o.im - FO.im) * T.im) = y.re - (FE.re - (FO.re * T.re - FO.im * T.im))
      grind) (by
      show y.im - (e.im - t.im) - (t.im - (o.re * T.im + o.im * T.re)) + (e.im - FE.im) - ((o.re - FO.re) * T.im + (o.im - FO.im) * T.re) = y.im - (FE.im - (FO.re * T.im + FO.im * T.re))
      grind)
    rw [eqy] at h
    exact h.mono (by grind)
end Go.Proofs.YtngdemhhcablmakDoor
