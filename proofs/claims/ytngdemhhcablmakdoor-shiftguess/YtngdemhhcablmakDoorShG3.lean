/-
  What complex numbers guess, by value. No program here.
-/
import Derived.Test.YtngdemhhcablmakDoorShGA
namespace Go.Proofs.YtngdemhhcablmakDoor
open Go

theorem prodw_near {u v p q L k : Rat} (hk : uu * (L * L) = k) (_L0 : 0 ≤ L) (_s1 : 0 ≤ uu * L) (ee : et ≤ uu * L) (a1 : u ≤ p + 2 * (uu * L) + et) (a2 : p ≤ u + 2 * (uu * L) + et) (b1 : v ≤ q + 2 * (uu * L) + et) (b2 : q ≤ v + 2 * (uu * L) + et) (b3 : ab v ≤ 2 * L) (A1 : p ≤ L) (A2 : -L ≤ p) : u * v ≤ p * q + 9 * k ∧ p * q ≤ u * v + 9 * k := by
  have v' := ab_iff b3
  have dl : ∀ s w S T : Rat, s ≤ S → -S ≤ s → w ≤ T → -T ≤ w → s * w ≤ S * T ∧ -(S * T) ≤ s * w := fun s w S T h1 h2 h3 h4 => by
    have c1 := Rat.mul_nonneg (show 0 ≤ S - s by grind) (show 0 ≤ T + w by grind)
    have c2 := Rat.mul_nonneg (show 0 ≤ S + s by grind) (show 0 ≤ T - w by grind)
    have c3 := Rat.mul_nonneg (show 0 ≤ S - s by grind) (show 0 ≤ T - w by grind)
    have c4 := Rat.mul_nonneg (show 0 ≤ S + s by grind) (show 0 ≤ T + w by grind)
    exact ⟨by grind, by grind⟩
  have z1 := dl (u - p) v (3 * (uu * L)) (2 * L) (by grind) (by grind) v'.1 v'.2
  have z2 := dl p (v - q) L (3 * (uu * L)) A1 A2 (by grind) (by grind)
  have y1 : 3 * (uu * L) * (2 * L) = 6 * k := by rw [← hk]; grind
  have y2 : L * (3 * (uu * L)) = 3 * k := by rw [← hk]; grind
  rw [y1] at z1
  rw [y2] at z2
  have e : u * v - p * q = (u - p) * v + p * (v - q) := by grind
  exact ⟨by grind, by grind⟩
theorem sumR_abs {f : Nat → Rat} {M : Rat} : ∀ {n : Nat}, (∀ i, i < n → f i ≤ M ∧ -M ≤ f i) → sumR f n ≤ (n : Rat) * M ∧ -((n : Rat) * M) ≤ sumR f n
  | 0, _ => by
    rw [show ((0 : Nat) : Rat) = 0 from rfl]
    show (0 : Rat) ≤ 0 * M ∧ -(0 * M) ≤ 0
    exact ⟨by grind, by grind⟩
  | n + 1, h => by
    have ih := sumR_abs (n := n) (fun i hi => h i (by omega))
    have hn := h n (by omega)
    have e2 : ((n + 1 : Nat) : Rat) = (n : Rat) + 1 := by rw [Rat.natCast_add]; rfl
    rw [e2]
    show sumR f n + f n ≤ _ ∧ _ ≤ sumR f n + f n
    exact ⟨by grind, by grind⟩
/-- the last steps: the numbers alone. -/
theorem guess_end {d : Nat} (hd : d ≤ 8) {rb zb : Nat × Nat} {r : Cq} {sr cr L k E : Rat} (ir : CIs rb r) (ho : COv (floatOfInt .f64 ((2 ^ d : Nat) : Int)) rb zb) (g : Wd (cS r ⟨sr * ((2 ^ d : Nat) : Rat), 0⟩) E) (hE : E ≤ 12000000000 * k) (s1 : sr ≤ 1024 * (L * L)) (s2 : -(1024 * (L * L)) ≤ sr) (c1 : sr ≤ cr + 2560 * k) (c2 : cr ≤ sr + 2560 * k) (hk : uu * (L * L) = k) (k0 : 0 ≤ k) (k1 : k ≤ 1 / 1000000000000000 * (L * L)) (etk : et ≤ k) (L2 : L * L ≤ 1099511627776) : ∃ v, Is zb.1 v ∧ v ≤ cr + 1 / 1000 * (L * L) ∧ cr ≤ v + 1 / 1000 * (L * L) := by
  obtain ⟨n1, n2⟩ := pow_range hd
  have LL0 : 0 ≤ L * L := by grind
  have p900 : (300000000000000000 : Rat) ≤ p2 900 := by decide +kernel
  have hn : Wd r (((2 ^ d : Nat) : Rat) * (1100 * (L * L))) := by
    have h1 : Wd ⟨sr * ((2 ^ d : Nat) : Rat), 0⟩ (((2 ^ d : Nat) : Rat) * (1024 * (L * L))) := wd_real (ab_two (by
      have := Rat.mul_nonneg (show 0 ≤ ((2 ^ d : Nat) : Rat) by grind) (show 0 ≤ 1024 * (L * L) - sr by grind)
      grind) (by
      have := Rat.mul_nonneg (show 0 ≤ ((2 ^ d : Nat) : Rat) by grind) (show 0 ≤ 1024 * (L * L) + sr by grind)
      grind))
    have h2 := h1.add g
    rw [show ∀ p q : Cq, cA q (cS p q) = p from fun p q => cq_eq (by show q.re + (p.re - q.re) = p.re; grind) (by show q.im + (p.im - q.im) = p.im; grind)] at h2
    exact h2.mono (by
      have := Rat.mul_nonneg (show 0 ≤ ((2 ^ d : Nat) : Rat) - 1 by grind) (show 0 ≤ 76 * (L * L) by grind)
      grind)
  obtain ⟨v, iv, nv⟩ := cov_near hd ir hn (by grind) (by grind) ho
  obtain ⟨v1, v2, _, _⟩ := nv.parts
  have e1 : (cS v ⟨r.re / ((2 ^ d : Nat) : Rat), r.im / ((2 ^ d : Nat) : Rat)⟩).re = v.re - r.re / ((2 ^ d : Nat) : Rat) := rfl
  rw [e1] at v1 v2
  obtain ⟨r1, r2, _, _⟩ := g.parts
  have e2 : (cS r ⟨sr * ((2 ^ d : Nat) : Rat), 0⟩).re = r.re - sr * ((2 ^ d : Nat) : Rat) := rfl
  rw [e2] at r1 r2
  have hi : r.re / ((2 ^ d : Nat) : Rat) * ((2 ^ d : Nat) : Rat) = r.re := Rat.div_mul_cancel (by grind)
  have ek : uu * (1100 * (L * L)) = 1100 * k := by rw [← hk]; grind
  rw [ek] at v1 v2
  generalize r.re / ((2 ^ d : Nat) : Rat) = p at *
  generalize ((2 ^ d : Nat) : Rat) = n at *
  have hE0 := g.nn
  have d1 : p ≤ sr + E := by
    rcases (Rat.le_total : p ≤ sr + E ∨ sr + E ≤ p) with q | q
    · exact q
    · have := Rat.mul_nonneg (show 0 ≤ p - sr by grind) (show 0 ≤ n - 1 by grind)
      grind
  have d2 : sr ≤ p + E := by
    rcases (Rat.le_total : sr ≤ p + E ∨ p + E ≤ sr) with q | q
    · exact q
    · have := Rat.mul_nonneg (show 0 ≤ sr - p by grind) (show 0 ≤ n - 1 by grind)
      grind
  exact ⟨v.re, iv.1, by grind, by grind⟩
set_option maxHeartbeats 1600000 in
theorem guess_val {A B : List Int} {d l : Nat} {Z : List (Nat × Nat)} (hd : d ≤ 8) (lA : A.length = 2 ^ d) (lB : B.length = 2 ^ d) (hl1 : 1 ≤ l) (hl2 : l ≤ 1048576) (hA : ∀ i, A.getD i 0 ≤ (l : Int) ∧ -(l : Int) ≤ A.getD i 0) (hB : ∀ i, B.getD i 0 ≤ (l : Int) ∧ -(l : Int) ≤ B.getD i 0) (h : GsR A B d Z) {t : Nat} (ht : t < 2 ^ d) :
    ∃ v, Is (Z.getD t (0, 0)).1 v ∧ v ≤ (crossV A B t : Rat) + 1 / 1000 * ((l : Rat) * (l : Rat)) ∧ (crossV A B t : Rat) ≤ v + 1 / 1000 * ((l : Rat) * (l : Rat)) := by
  obtain ⟨X, Y, C, fX, fY, _, hC, fZ⟩ := h
  obtain ⟨X0, _, vX, eX, _⟩ := fX
  obtain rfl := eX rfl
  obtain ⟨Y0, _, vY, eY, _⟩ := fY
  obtain rfl := eY rfl
  obtain ⟨W, _, vW, _, ovZ⟩ := fZ
  have ovZ := (ovZ rfl).is
  obtain ⟨a, ha⟩ := row_is lA hA hl2
  obtain ⟨b, hb⟩ := row_is lB hB hl2
  obtain ⟨n1, n2⟩ := pow_range hd
  obtain ⟨L, hL⟩ : ∃ L : Rat, (l : Rat) = L := ⟨_, rfl⟩
  rw [hL] at ha hb ⊢
  have L1 : 1 ≤ L := by rw [← hL]; exact (Rat.natCast_le_natCast (a := 1) (b := l)).2 hl1
  have L2 : L ≤ 1048576 := by rw [← hL]; exact (Rat.natCast_le_natCast (a := l) (b := 1048576)).2 hl2
  obtain ⟨N, hN⟩ : ∃ N : Rat, ((2 ^ d : Nat) : Rat) = N := ⟨_, rfl⟩
  have pu := uu_pos
  have pe := et_pos
  have su := small_uu
  have eu : et ≤ uu * uu := by decide +kernel
  have L0 : 0 ≤ L := by grind
  obtain ⟨s1, s2, s3, s4⟩ := small_l L0
  have LL1 : L ≤ L * L := by
    have := Rat.mul_nonneg L0 (show 0 ≤ L - 1 by grind)
    grind
  have LL0 : 0 ≤ L * L := by grind
  have LL2 : L * L ≤ 1099511627776 := by
    have := mul_mono L0 L0 L2 L2
    grind
  obtain ⟨q1, q2, q3, q4⟩ := small_l LL0
  obtain ⟨k, hk⟩ : ∃ k, uu * (L * L) = k := ⟨_, rfl⟩
  rw [hk] at q1 q2 q3 q4
  have uLk : uu * L ≤ k := by
    have := Rat.mul_nonneg (Rat.le_of_lt pu) (show 0 ≤ L * L - L by grind)
    grind
  have uuL : uu * uu ≤ uu * (uu * L) := by
    have := Rat.mul_nonneg (Rat.le_of_lt pu) (Rat.mul_nonneg (Rat.le_of_lt pu) (show 0 ≤ L - 1 by grind))
    grind
  have etk : et ≤ 1 / 1000000000000000 * k := by grind
  -- the rows' waves
  have hza : ∀ i, i < 2 ^ d → CIs ((asW A).getD i (0, 0)) ⟨a i, 0⟩ ∧ Wd ⟨a i, 0⟩ (2 * L) := fun i hi => ⟨(ha i hi).1, wd_real (ha i hi).2.2.2⟩
  have hzb : ∀ i, i < 2 ^ d → CIs ((asW B).getD i (0, 0)) ⟨b i, 0⟩ ∧ Wd ⟨b i, 0⟩ (2 * L) := fun i hi => ⟨(hb i hi).1, wd_real (hb i hi).2.2.2⟩
  have l0 : 0 ≤ 2 * L := by grind
  have het : et ≤ uu * (uu * (2 * L)) := by
    have e : uu * (uu * (2 * L)) = 2 * (uu * (uu * L)) := by grind
    rw [e]
    grind
  have lL : 2 * L ≤ p2 700 := by
    have h1 : (2097152 : Rat) ≤ p2 700 := by decide +kernel
    grind
  obtain ⟨x, hx⟩ := fft_all vX hd (z := fun i => ⟨a i, 0⟩) hza l0 het lL
  obtain ⟨y, hy⟩ := fft_all vY hd (z := fun i => ⟨b i, 0⟩) hzb l0 het lL
  obtain ⟨e0, e1, _⟩ := erH_le hd l0
  have u2 : uu * (2 * L) = 2 * (uu * L) := by grind
  rw [u2] at e1
  have lm : 2 * L * (1 + uu) = 2 * L + 2 * (uu * L) := by grind
  have F0 : 0 ≤ 2 * L * (1 + uu) := by grind
  have Fb : ((2 ^ d : Nat) : Rat) * (2 * L * (1 + uu)) ≤ 513 * L := by
    have := mul_mono (show 0 ≤ ((2 ^ d : Nat) : Rat) by grind) F0 n2 (Rat.le_refl (a := 2 * L * (1 + uu)))
    grind
  have xQ : ∀ j, j < 2 ^ d → Wd (x j) (520 * L) := fun j hj => (hx j hj).2.2.mono (by grind)
  have yQ : ∀ j, j < 2 ^ d → Wd (y j) (520 * L) := fun j hj => (hy j hj).2.2.mono (by grind)
  have fA : ∀ j, Wd (Fq false d (fun i => ⟨a i, 0⟩) j) (513 * L) := fun j => (Fq_size (fun i hi => (hza i hi).2) l0 j).mono Fb
  -- the products
  have QQ : 520 * L * (520 * L) = 270400 * (L * L) := by grind
  have p900 : (300000000000000000 : Rat) ≤ p2 900 := by decide +kernel
  have hc : ∀ j, j < 2 ^ d → ∃ c, CIs (C.getD j (0, 0)) c ∧ Wd (cS c (cM (cC (x j)) (y j))) (1000000 * k) := fun j hj => by
    obtain ⟨c, ic, nc⟩ := cpr_near (x := ((X.getD j (0, 0)).1, ngB (X.getD j (0, 0)).2)) (z := cC (x j)) ⟨(hx j hj).1.1, neg_is (hx j hj).1.2⟩ (hy j hj).1 (xQ j hj).conj (yQ j hj) (by rw [QQ]; grind) (hC j hj)
    have e : uu * (520 * L * (520 * L)) = 270400 * k := by rw [QQ, ← hk]; grind
    exact ⟨c, ic, nc.mono (by rw [e]; grind)⟩
  have hc2 : ∃ c : Nat → Cq, ∀ j, j < 2 ^ d → CIs (C.getD j (0, 0)) (c j) ∧ Wd (cS (c j) (cM (cC (x j)) (y j))) (1000000 * k) := by
    refine ⟨fun j => if hj : j < 2 ^ d then Classical.choose (hc j hj) else c0, fun j hj => ?_⟩
    have hs := Classical.choose_spec (hc j hj)
    simp only [hj, dite_true]
    exact hs
  obtain ⟨c, hc⟩ := hc2
  have plus : ∀ p q : Cq, cA q (cS p q) = p := fun p q => cq_eq (by show q.re + (p.re - q.re) = p.re; grind) (by show q.im + (p.im - q.im) = p.im; grind)
  have tri : ∀ p q r : Cq, cA (cS p q) (cS q r) = cS p r := fun p q r => cq_eq (by show p.re - q.re + (q.re - r.re) = p.re - r.re; grind) (by show p.im - q.im + (q.im - r.im) = p.im - r.im; grind)
  have cQ : ∀ j, j < 2 ^ d → CIs (C.getD j (0, 0)) (c j) ∧ Wd (c j) (280000 * (L * L)) := fun j hj => by
    refine ⟨(hc j hj).1, ?_⟩
    have := ((xQ j hj).conj.mul (yQ j hj)).add (hc j hj).2
    rw [plus] at this
    exact this.mono (by rw [QQ]; grind)
  have cD : ∀ j, j < 2 ^ d → Wd (cS (c j) (cM (cC (Fq false d (fun i => ⟨a i, 0⟩) j)) (Fq false d (fun i => ⟨b i, 0⟩) j))) (30000000 * k) := fun j hj => by
    have h1 := (hc j hj).2
    have h2 : Wd (cM (cC (cS (x j) (Fq false d (fun i => ⟨a i, 0⟩) j))) (y j)) (erH d (2 * L) * (520 * L)) := ((hx j hj).2.1.conj).mul (yQ j hj)
    have h3 : Wd (cM (cC (Fq false d (fun i => ⟨a i, 0⟩) j)) (cS (y j) (Fq false d (fun i => ⟨b i, 0⟩) j))) (513 * L * erH d (2 * L)) := (fA j).conj.mul (hy j hj).2.1
    have h4 := (h1.add h2).add h3
    have e : ∀ p x' fx y' fy : Cq, cA (cA (cS p (cM (cC x') y')) (cM (cC (cS x' fx)) y')) (cM (cC fx) (cS y' fy)) = cS p (cM (cC fx) fy) := fun p x' fx y' fy => cq_eq (by
      show p.re - (x'.re * y'.re - -x'.im * y'.im) + ((x'.re - fx.re) * y'.re - -(x'.im - fx.im) * y'.im) + (fx.re * (y'.re - fy.re) - -fx.im * (y'.im - fy.im)) = p.re - (fx.re * fy.re - -fx.im * fy.im)
      grind) (by
      show p.im - (x'.re * y'.im + -x'.im * y'.re) + ((x'.re - fx.re) * y'.im + -(x'.im - fx.im) * y'.re) + (fx.re * (y'.im - fy.im) + -fx.im * (y'.re - fy.re)) = p.im - (fx.re * fy.im + -fx.im * fy.re)
      grind)
    rw [e] at h4
    have m1 := mul_mono e0 (show 0 ≤ 520 * L by grind) e1 (Rat.le_refl (a := 520 * L))
    have m2 : 9700 * (2 * (uu * L)) * (520 * L) = 10088000 * k := by rw [← hk]; grind
    have m3 := Rat.mul_nonneg e0 (show 0 ≤ 7 * L by grind)
    exact h4.mono (by grind)
  -- the way back
  have l20 : 0 ≤ 280000 * (L * L) := by grind
  have het2 : et ≤ uu * (uu * (280000 * (L * L))) := by
    have e : uu * (uu * (280000 * (L * L))) = 280000 * (uu * k) := by rw [← hk]; grind
    have e2 : uu * uu ≤ uu * k := by
      have := Rat.mul_nonneg (Rat.le_of_lt pu) (Rat.mul_nonneg (Rat.le_of_lt pu) (show 0 ≤ L * L - 1 by grind))
      rw [← hk]
      grind
    rw [e]
    grind
  have lL2 : 280000 * (L * L) ≤ p2 700 := by
    have h1 : (400000000000000000 : Rat) ≤ p2 700 := by decide +kernel
    grind
  obtain ⟨r, hr⟩ := fft_all vW hd cQ l20 het2 lL2
  obtain ⟨ir, nr, _⟩ := hr t ht
  obtain ⟨f0, f1, _⟩ := erH_le hd l20
  have f2 : uu * (280000 * (L * L)) = 280000 * k := by rw [← hk]; grind
  rw [f2] at f1
  have g1 := Fq_size (back := true) (z := fun j => cS (c j) (cM (cC (Fq false d (fun i => ⟨a i, 0⟩) j)) (Fq false d (fun i => ⟨b i, 0⟩) j))) cD (by grind) t
  rw [← Fq_sub] at g1
  have g2 := gs_near hd (z := fun i => ⟨a i, 0⟩) (w := fun i => ⟨b i, 0⟩) (fun i hi => (hza i hi).2) (fun _ => rfl) (fun i hi => (hzb i hi).2) l0 t
  have g3 := (nr.add g1).add g2
  rw [tri, tri] at g3
  have hsum : sumC (fun j => cM (⟨a j, 0⟩ : Cq) (cM (⟨b ((j + t) % 2 ^ d), 0⟩ : Cq) ⟨((2 ^ d : Nat) : Rat), 0⟩)) (2 ^ d) = ⟨sumR (fun j => a j * b ((j + t) % 2 ^ d)) (2 ^ d) * ((2 ^ d : Nat) : Rat), 0⟩ := by
    rw [← sumR_scale, ← sumC_real]
    refine sumC_congr (fun j _ => ?_)
    exact cq_eq (by show a j * (b ((j + t) % 2 ^ d) * ((2 ^ d : Nat) : Rat) - 0 * 0) - 0 * (b ((j + t) % 2 ^ d) * 0 + 0 * ((2 ^ d : Nat) : Rat)) = a j * b ((j + t) % 2 ^ d) * ((2 ^ d : Nat) : Rat); grind) (by show a j * (b ((j + t) % 2 ^ d) * 0 + 0 * ((2 ^ d : Nat) : Rat)) + 0 * (b ((j + t) % 2 ^ d) * ((2 ^ d : Nat) : Rat) - 0 * 0) = 0; grind)
  rw [hsum] at g3
  -- the whole numbers
  have hprod : ∀ j, j < 2 ^ d → a j * b ((j + t) % 2 ^ d) ≤ ((A.getD j 0 * B.getD ((j + t) % 2 ^ d) 0 : Int) : Rat) + 9 * k ∧ ((A.getD j 0 * B.getD ((j + t) % 2 ^ d) 0 : Int) : Rat) ≤ a j * b ((j + t) % 2 ^ d) + 9 * k := fun j hj => by
    have hm : (j + t) % 2 ^ d < 2 ^ d := Nat.mod_lt _ (Nat.two_pow_pos d)
    obtain ⟨_, a1, a2, _⟩ := ha j hj
    obtain ⟨_, b1, b2, b3⟩ := hb _ hm
    obtain ⟨A1, A2⟩ := hA j
    have A1' : (A.getD j 0 : Rat) ≤ L := by rw [← hL]; exact Rat.intCast_le_intCast.2 A1
    have A2' : -L ≤ (A.getD j 0 : Rat) := by
      have := Rat.intCast_le_intCast.2 A2
      rw [Rat.intCast_neg] at this
      rw [← hL]
      exact this
    rw [Rat.intCast_mul]
    exact prodw_near hk L0 s1 (by grind) a1 a2 b1 b2 b3 A1' A2'
  have hcr := near_cross hprod (2 ^ d) (Nat.le_refl _)
  have ecr : crossV A B t = crossK A B (2 ^ d) t (2 ^ d) := by unfold crossV; rw [lA]
  rw [ecr]
  have hsb := sumR_abs (f := fun j => a j * b ((j + t) % 2 ^ d)) (M := 4 * (L * L)) (n := 2 ^ d) (fun j hj => by
    have hm : (j + t) % 2 ^ d < 2 ^ d := Nat.mod_lt _ (Nat.two_pow_pos d)
    have a3 := ab_iff (ha j hj).2.2.2
    have b3 := ab_iff (hb _ hm).2.2.2
    have y4 : 2 * L * (2 * L) = 4 * (L * L) := by grind
    show a j * b ((j + t) % 2 ^ d) ≤ _ ∧ _ ≤ a j * b ((j + t) % 2 ^ d)
    generalize a j = u at a3
    generalize b ((j + t) % 2 ^ d) = v at b3
    clear hprod hcr ha hb hx hy hc cQ cD hr g1 g2 g3 nr
    have c1 := Rat.mul_nonneg (show 0 ≤ 2 * L - u by grind) (show 0 ≤ 2 * L + v by grind)
    have c2 := Rat.mul_nonneg (show 0 ≤ 2 * L + u by grind) (show 0 ≤ 2 * L - v by grind)
    have c3 := Rat.mul_nonneg (show 0 ≤ 2 * L - u by grind) (show 0 ≤ 2 * L - v by grind)
    have c4 := Rat.mul_nonneg (show 0 ≤ 2 * L + u by grind) (show 0 ≤ 2 * L + v by grind)
    exact ⟨by grind, by grind⟩)
  generalize sumR (fun j => a j * b ((j + t) % 2 ^ d)) (2 ^ d) = sr at *
  have nLL := mul_mono (show 0 ≤ ((2 ^ d : Nat) : Rat) by grind) (show 0 ≤ 4 * (L * L) by grind) n2 (Rat.le_refl (a := 4 * (L * L)))
  have n9 := mul_mono (show 0 ≤ ((2 ^ d : Nat) : Rat) by grind) (show 0 ≤ 9 * k by grind) n2 (Rat.le_refl (a := 9 * k))
  refine guess_end hd ir (ovZ t ht) g3 ?_ (by grind) (by grind) (by grind) (by grind) hk q1 q2 (by grind) LL2
  clear hprod hcr ha hb hx hy hc cQ cD hr g1 g2 g3 nr hsum hsb nLL n9 hza hzb xQ yQ fA plus tri
  have t1 : 30000000 * k * (1 + uu) ≤ 30000001 * k := by
    have := Rat.mul_nonneg (show 0 ≤ 1 / 1000000000000000 - uu by grind) q1
    grind
  have t10 : 0 ≤ 30000000 * k * (1 + uu) := Rat.mul_nonneg (by grind) (by grind)
  have t2 := mul_mono (show 0 ≤ ((2 ^ d : Nat) : Rat) by grind) t10 n2 t1
  generalize ((2 ^ d : Nat) : Rat) = n at *
  have n0 : 0 ≤ n := by grind
  have w1 : 2 * L * (n * (3 * uu * (n * (2 * L * (1 + uu))))) = n * n * (12 * k * (1 + uu)) := by rw [← hk]; grind
  have w2 : 2 * L * (n * (n * (2 * L * (3 * uu)))) = n * n * (12 * k) := by rw [← hk]; grind
  rw [w1, w2]
  have nn := mul_mono n0 n0 n2 n2
  have nn0 := Rat.mul_nonneg n0 n0
  have ku : 12 * k * (1 + uu) ≤ 13 * k := by
    have := Rat.mul_nonneg (show 0 ≤ 1 / 1000000000000000 - uu by grind) q1
    grind
  have ku0 : 0 ≤ 12 * k * (1 + uu) := Rat.mul_nonneg (by grind) (by grind)
  have x1 := mul_mono nn0 ku0 nn ku
  have x2 := mul_mono nn0 (show 0 ≤ 12 * k by grind) nn (Rat.le_refl (a := 12 * k))
  have x10 := Rat.mul_nonneg nn0 ku0
  have x20 := Rat.mul_nonneg nn0 (show 0 ≤ 12 * k by grind)
  have x3 := mul_mono n0 x10 n2 x1
  have x4 := mul_mono n0 x20 n2 x2
  grind
end Go.Proofs.YtngdemhhcablmakDoor
