/-
  Rows that go together, by waves: the sums. No program here. What complex numbers guess: the values. No program here. What complex numbers guess is near what goes together. No program here.
-/
import Derived.Test.YtngdemhhcablmakDoorShAC
import Derived.Test.YtngdemhhcablmakDoorShX5
import Derived.Test.YtngdemhhcablmakDoorShC
namespace Go.Proofs.YtngdemhhcablmakDoor
open Go

def cC (z : Cq) : Cq := ⟨z.re, -z.im⟩
theorem cC_mul (a b : Cq) : cC (cM a b) = cM (cC a) (cC b) := cq_eq (by show a.re * b.re - a.im * b.im = a.re * b.re - -a.im * -b.im; grind) (by show -(a.re * b.im + a.im * b.re) = a.re * -b.im + -a.im * b.re; grind)
theorem cC_sum (f : Nat → Cq) : ∀ n, cC (sumC f n) = sumC (fun i => cC (f i)) n
  | 0 => cq_eq rfl (by show -(0 : Rat) = 0; grind)
  | n + 1 => by
    show cC (cA (sumC f n) (f n)) = cA (sumC (fun i => cC (f i)) n) (cC (f n))
    rw [← cC_sum f n]
    exact cq_eq rfl (by show -((sumC f n).im + (f n).im) = -(sumC f n).im + -(f n).im; grind)
theorem cC_tw (m : Nat) : cC (tw false m) = tw true m := cq_eq rfl (by show - -(((tqI m).2 : Rat) / 1152921504606846976) = ((tqI m).2 : Rat) / 1152921504606846976; grind)
theorem Wd.conj {z : Cq} {B : Rat} (h : Wd z B) : Wd (cC z) B := ⟨h.nn, by
  show z.re * z.re + -z.im * -z.im ≤ _
  have := h.le
  grind⟩
theorem cC_real {z : Cq} (h : z.im = 0) : cC z = z := cq_eq rfl (by show -z.im = z.im; grind)
theorem tw_round (back : Bool) {d : Nat} (hd : d ≤ 8) (j k t : Nat) : tw back (k * ((j + t) % 2 ^ d) * 2 ^ (8 - d)) = tw back (j * k * 2 ^ (8 - d) + k * t * 2 ^ (8 - d)) := by
  have hs : 2 ^ d * 2 ^ (8 - d) = 256 := by rw [← Nat.pow_add, show d + (8 - d) = 8 by omega]
  have h1 := Nat.div_add_mod (j + t) (2 ^ d)
  have e : j * k * 2 ^ (8 - d) + k * t * 2 ^ (8 - d) = k * ((j + t) % 2 ^ d) * 2 ^ (8 - d) + 256 * (k * ((j + t) / 2 ^ d)) := by
    rw [← Nat.add_mul, Nat.mul_comm j k, ← Nat.mul_add, ← hs]
    generalize (j + t) / 2 ^ d = a at *
    generalize (j + t) % 2 ^ d = b at *
    rw [← h1, Nat.mul_add, Nat.add_mul, Nat.add_comm]
    congr 1
    generalize 2 ^ d = u
    generalize 2 ^ (8 - d) = v
    rw [← Nat.mul_assoc k u a, Nat.mul_comm k u, Nat.mul_assoc u k a, Nat.mul_assoc u (k * a) v, Nat.mul_comm (k * a) v, ← Nat.mul_assoc u v]
  rw [e, tw_turns]
/-- rows of real numbers by their waves. -/
theorem gs_near {d : Nat} (hd : d ≤ 8) {z w : Nat → Cq} {l : Rat} (hz : ∀ i, i < 2 ^ d → Wd (z i) l) (hr : ∀ i, (z i).im = 0) (hw : ∀ i, i < 2 ^ d → Wd (w i) l) (hl : 0 ≤ l) (t : Nat) :
    Wd (cS (Fq true d (fun k => cM (cC (Fq false d z k)) (Fq false d w k)) t) (sumC (fun j => cM (z j) (cM (w ((j + t) % 2 ^ d)) ⟨((2 ^ d : Nat) : Rat), 0⟩)) (2 ^ d))) (((2 ^ d : Nat) : Rat) * (l * (((2 ^ d : Nat) : Rat) * (3 * uu * (((2 ^ d : Nat) : Rat) * (l * (1 + uu)))))) + ((2 ^ d : Nat) : Rat) * (l * (((2 ^ d : Nat) : Rat) * (((2 ^ d : Nat) : Rat) * (l * (3 * uu)))))) := by
  have pu := uu_pos
  have n0 : (0 : Rat) ≤ ((2 ^ d : Nat) : Rat) := Rat.natCast_nonneg
  have fw := fun k => Fq_size (back := false) hw hl k
  have hconj : ∀ k, cC (Fq false d z k) = sumC (fun j => cM (z j) (tw true (j * k * 2 ^ (8 - d)))) (2 ^ d) := fun k => by
    unfold Fq
    rw [cC_sum]
    refine sumC_congr (fun j _ => ?_)
    rw [cC_mul, cC_tw, cC_real (hr j)]
  have hG : Fq true d (fun k => cM (cC (Fq false d z k)) (Fq false d w k)) t = sumC (fun j => cM (z j) (sumC (fun k => cM (cM (tw true (j * k * 2 ^ (8 - d))) (tw true (k * t * 2 ^ (8 - d)))) (Fq false d w k)) (2 ^ d))) (2 ^ d) := by
    show sumC (fun k => cM (cM (cC (Fq false d z k)) (Fq false d w k)) (tw true (k * t * 2 ^ (8 - d)))) (2 ^ d) = _
    have e1 : ∀ k, cM (cM (cC (Fq false d z k)) (Fq false d w k)) (tw true (k * t * 2 ^ (8 - d))) = sumC (fun j => cM (z j) (cM (cM (tw true (j * k * 2 ^ (8 - d))) (tw true (k * t * 2 ^ (8 - d)))) (Fq false d w k))) (2 ^ d) := fun k => by
      rw [hconj, cM_assoc, sumC_mul]
      refine sumC_congr (fun j _ => ?_)
      rw [cM_assoc, cM_assoc, cM_comm (Fq false d w k)]
    rw [sumC_congr (fun k _ => e1 k), sumC_swap]
    exact sumC_congr (fun j _ => mul_sumC _ _ _)
  have h1 : Wd (cS (Fq true d (fun k => cM (cC (Fq false d z k)) (Fq false d w k)) t) (sumC (fun j => cM (z j) (Fq true d (fun k => Fq false d w k) ((j + t) % 2 ^ d))) (2 ^ d))) (((2 ^ d : Nat) : Rat) * (l * (((2 ^ d : Nat) : Rat) * (3 * uu * (((2 ^ d : Nat) : Rat) * (l * (1 + uu))))))) := by
    rw [hG, sumC_sub]
    have b1 : 0 ≤ 3 * uu * (((2 ^ d : Nat) : Rat) * (l * (1 + uu))) := Rat.mul_nonneg (by grind) (Rat.mul_nonneg n0 (Rat.mul_nonneg hl (by grind)))
    refine wd_sum (Rat.mul_nonneg hl (Rat.mul_nonneg n0 b1)) (fun j hj => ?_)
    rw [cM_sub]
    refine (hz j hj).mul ?_
    show Wd (cS _ (sumC (fun k => cM (Fq false d w k) (tw true (k * ((j + t) % 2 ^ d) * 2 ^ (8 - d)))) (2 ^ d))) _
    rw [sumC_sub]
    refine wd_sum b1 (fun k _ => ?_)
    rw [tw_round true hd, cM_comm (Fq false d w k), show ∀ a b c : Cq, cS (cM a c) (cM b c) = cM (cS a b) c from fun a b c => by rw [cM_comm a, cM_comm b, cM_sub, cM_comm]]
    exact (tw_mul true _ _).mul (fw k)
  have h2 : Wd (cS (sumC (fun j => cM (z j) (Fq true d (fun k => Fq false d w k) ((j + t) % 2 ^ d))) (2 ^ d)) (sumC (fun j => cM (z j) (cM (w ((j + t) % 2 ^ d)) ⟨((2 ^ d : Nat) : Rat), 0⟩)) (2 ^ d))) (((2 ^ d : Nat) : Rat) * (l * (((2 ^ d : Nat) : Rat) * (((2 ^ d : Nat) : Rat) * (l * (3 * uu)))))) := by
    rw [sumC_sub]
    refine wd_sum (Rat.mul_nonneg hl (Rat.mul_nonneg n0 (Rat.mul_nonneg n0 (Rat.mul_nonneg hl (by grind))))) (fun j hj => ?_)
    rw [cM_sub]
    exact (hz j hj).mul (inv_near hd hw hl (Nat.mod_lt _ (Nat.two_pow_pos d)))
  have h3 := h1.add h2
  rwa [show ∀ a b c : Cq, cA (cS a b) (cS b c) = cS a c from fun a b c => cq_eq (by show a.re - b.re + (b.re - c.re) = a.re - c.re; grind) (by show a.im - b.im + (b.im - c.im) = a.im - c.im; grind)] at h3
end Go.Proofs.YtngdemhhcablmakDoor
namespace Go.Proofs.YtngdemhhcablmakDoor
open Go

/-- whole numbers as waves begin. -/
def asW (A : List Int) : List (Nat × Nat) := A.map (fun a => (floatOfInt .f64 a, 0))
theorem asW_len (A : List Int) : (asW A).length = A.length := by simp [asW]
theorem asW_at {A : List Int} {i : Nat} (h : i < A.length) : (asW A).getD i (0, 0) = (floatOfInt .f64 (A.getD i 0), 0) := by
  rw [List.getD_eq_getElem?_getD, asW, List.getElem?_map, List.getElem?_eq_getElem h, List.getD_eq_getElem?_getD, List.getElem?_eq_getElem h]
  rfl
/-- what complex numbers reckon of two rows. -/
def GsR (A B : List Int) (d : Nat) (Z : List (Nat × Nat)) : Prop := ∃ X Y C : List (Nat × Nat), FsEnd (asW A) d false X ∧ FsEnd (asW B) d false Y ∧ C.length = 2 ^ d ∧ (∀ k, k < 2 ^ d → CPr ((X.getD k (0, 0)).1, ngB (X.getD k (0, 0)).2) (Y.getD k (0, 0)) (C.getD k (0, 0))) ∧ FsEnd C d true Z
theorem FsEnd.same2 {L L' M M' : List (Nat × Nat)} {d : Nat} {back : Bool} (h : FsEnd L d back M) (g : FsEnd L' d back M') (hL : ∀ i, i < 2 ^ d → CSame (L.getD i (0, 0)) (L'.getD i (0, 0))) : ∀ k, k < 2 ^ d → CSame (M.getD k (0, 0)) (M'.getD k (0, 0)) := by
  intro k hk
  obtain ⟨X, h1, h2, h3, h4⟩ := h
  obtain ⟨X', g1, g2, g3, g4⟩ := g
  have s := h2.same g2 hL k hk
  cases back with
  | false => rw [h3 rfl, g3 rfl]; exact s
  | true => exact COv.same ((h4 rfl).is k hk) ((g4 rfl).is k hk) s
theorem ng_same {x y : Nat} (h : FSame x y) : FSame (ngB x) (ngB y) := by
  rcases h with rfl | ⟨h1, h2⟩
  · exact .inl rfl
  · refine .inr ⟨?_, ?_⟩
    · obtain ⟨s, t, e⟩ := nan_is h1
      unfold Nan
      rw [neg_read, e]
      rfl
    · obtain ⟨s, t, e⟩ := nan_is h2
      unfold Nan
      rw [neg_read, e]
      rfl
theorem GsR.same {A B : List Int} {d : Nat} {Z Z' : List (Nat × Nat)} (h : GsR A B d Z) (g : GsR A B d Z') : ∀ k, k < 2 ^ d → CSame (Z.getD k (0, 0)) (Z'.getD k (0, 0)) := by
  obtain ⟨X, Y, C, h1, h2, _, h3, h4⟩ := h
  obtain ⟨X', Y', C', g1, g2, _, g3, g4⟩ := g
  have sX := h1.same2 g1 (fun i _ => CSame.refl _)
  have sY := h2.same2 g2 (fun i _ => CSame.refl _)
  exact h4.same2 g4 (fun k hk => (h3 k hk).same (g3 k hk) ⟨(sX k hk).1, ng_same (sX k hk).2⟩ (sY k hk))
/-- the first of the greatest, by bits. -/
def bestN (f : Nat → Nat) : Nat → Nat
  | 0 => 0
  | k + 1 => if (FloatKind.f64.format.order (f k) (f (bestN f k)) == some .gt) = true then k else bestN f k
theorem bestN_lt (f : Nat → Nat) {n : Nat} (hn : 0 < n) : ∀ k, k ≤ n → bestN f k < n
  | 0, _ => hn
  | k + 1, hk => by
    have := bestN_lt f hn k (by omega)
    unfold bestN
    split <;> omega
theorem bestN_same {f g : Nat → Nat} {n : Nat} (hn : 0 < n) (h : ∀ k, k < n → FSame (f k) (g k)) : ∀ k, k ≤ n → bestN f k = bestN g k
  | 0, _ => rfl
  | k + 1, hk => by
    have ih := bestN_same hn h k (by omega)
    unfold bestN
    rw [← ih, order_same (h k (by omega)) (h _ (bestN_lt f hn k (by omega)))]
/-- a number greater than all others is the first of the greatest. -/
theorem bestN_is {f : Nat → Nat} {v : Nat → Rat} {n s : Nat} (hs : s < n) (hv : ∀ k, k < n → Is (f k) (v k)) (h : ∀ k, k < n → k ≠ s → v k < v s) : bestN f n = s := by
  have hn : 0 < n := by omega
  have key : ∀ k, k ≤ n → (s < k → bestN f k = s) := by
    intro k
    induction k with
    | zero => intro _ q; omega
    | succ k ih =>
      intro hk q
      have hb := bestN_lt f hn k (by omega)
      unfold bestN
      rw [order_is (hv k (by omega)) (hv _ hb)]
      by_cases e : s = k
      · subst e
        by_cases e2 : bestN f s = s
        · rw [e2]
          exact ite_self _
        · have h0 := h _ hb e2
          have q1 : ¬ v s < v (bestN f s) := by grind
          have q2 : ¬ v s = v (bestN f s) := by grind
          rw [if_neg q1, if_neg q2]
          exact if_pos (by decide)
      · have hbs := ih (by omega) (by omega)
        rw [hbs]
        have := h k (by omega) (fun q => e q.symm)
        rw [if_pos this]
        exact if_neg (by decide)
  exact key n (Nat.le_refl _) hs
/-- a whole number as a number with a point. -/
theorem int_is (a : Int) (l : Nat) (h1 : a ≤ (l : Int)) (h2 : -(l : Int) ≤ a) (hl : l ≤ 1048576) : ∃ v : Rat, Is (floatOfInt .f64 a) v ∧ v ≤ (a : Rat) + 2 * (uu * (l : Rat)) + et ∧ (a : Rat) ≤ v + 2 * (uu * (l : Rat)) + et ∧ ab v ≤ 2 * (l : Rat) := by
  have hv := abs_val a 0 (decide (a < 0)) (.inl rfl)
  have e0 : p2 0 = 1 := by decide
  have hr : sgn (decide (a < 0)) ((a.natAbs : Rat) * p2 0) = (a : Rat) := by rw [hv, e0]; grind
  have g1 : (a : Rat) ≤ ((l : Int) : Rat) := Rat.intCast_le_intCast.2 h1
  have g2 : ((-(l : Int) : Int) : Rat) ≤ (a : Rat) := Rat.intCast_le_intCast.2 h2
  rw [Rat.intCast_neg] at g2
  have c1 : ((l : Int) : Rat) = (l : Rat) := rfl
  rw [c1] at g1 g2
  have hl2 : (l : Rat) ≤ 1048576 := (Rat.natCast_le_natCast (a := l) (b := 1048576)).2 hl
  have l0 : (0 : Rat) ≤ (l : Rat) := Rat.natCast_nonneg
  have big : (1048576 : Rat) < p2 1000 := by decide +kernel
  have hab : ab (a : Rat) ≤ (l : Rat) := ab_two g1 g2
  obtain ⟨v, iv, rv⟩ := gen_of hr (by grind)
  have nv := rd_near rv hab
  obtain ⟨u1, u2, _, _⟩ := small_l l0
  have se := small_et
  have pe := et_pos
  refine ⟨v, iv, by grind, by grind, ?_⟩
  by_cases q : l = 0
  · subst q
    have a0 : a = 0 := by omega
    subst a0
    have v0 := rv.2 rfl
    rw [v0]
    unfold ab
    decide +kernel
  · have l1 : (1 : Rat) ≤ (l : Rat) := (Rat.natCast_le_natCast (a := 1) (b := l)).2 (by omega)
    exact ab_two (by grind) (by grind)
end Go.Proofs.YtngdemhhcablmakDoor
namespace Go.Proofs.YtngdemhhcablmakDoor
open Go

def sumR (f : Nat → Rat) : Nat → Rat
  | 0 => 0
  | n + 1 => sumR f n + f n
theorem sumC_real (g : Nat → Rat) : ∀ n, sumC (fun j => (⟨g j, 0⟩ : Cq)) n = ⟨sumR g n, 0⟩
  | 0 => rfl
  | n + 1 => by
    show cA (sumC (fun j => (⟨g j, 0⟩ : Cq)) n) ⟨g n, 0⟩ = _
    rw [sumC_real g n]
    exact cq_eq rfl (by show (0 : Rat) + 0 = 0; grind)
theorem sumR_scale (g : Nat → Rat) (c : Rat) : ∀ n, sumR (fun j => g j * c) n = sumR g n * c
  | 0 => by show (0 : Rat) = 0 * c; grind
  | n + 1 => by
    show sumR (fun j => g j * c) n + g n * c = (sumR g n + g n) * c
    rw [sumR_scale g c n]
    grind
theorem sumR_congr {f g : Nat → Rat} : ∀ {n : Nat}, (∀ i, i < n → f i = g i) → sumR f n = sumR g n
  | 0, _ => rfl
  | n + 1, h => by
    unfold sumR
    rw [sumR_congr (fun i hi => h i (by omega)), h n (by omega)]
/-- the sum of products of numbers that are nearly whole. -/
theorem near_cross {A B : List Int} {n t : Nat} {x y : Nat → Rat} {e : Rat} (h : ∀ j, j < n → x j * y ((j + t) % n) ≤ ((A.getD j 0 * B.getD ((j + t) % n) 0 : Int) : Rat) + e ∧ ((A.getD j 0 * B.getD ((j + t) % n) 0 : Int) : Rat) ≤ x j * y ((j + t) % n) + e) : ∀ k, k ≤ n → sumR (fun j => x j * y ((j + t) % n)) k ≤ (crossK A B n t k : Rat) + (k : Rat) * e ∧ (crossK A B n t k : Rat) ≤ sumR (fun j => x j * y ((j + t) % n)) k + (k : Rat) * e
  | 0, _ => by
    show (0 : Rat) ≤ ((0 : Int) : Rat) + ((0 : Nat) : Rat) * e ∧ ((0 : Int) : Rat) ≤ 0 + ((0 : Nat) : Rat) * e
    rw [show ((0 : Int) : Rat) = 0 from rfl, show ((0 : Nat) : Rat) = 0 from rfl]
    exact ⟨by grind, by grind⟩
  | k + 1, hk => by
    have ih := near_cross h k (by omega)
    have hj := h k (by omega)
    have e1 : ((crossK A B n t (k + 1) : Int) : Rat) = (crossK A B n t k : Rat) + ((A.getD k 0 * B.getD ((k + t) % n) 0 : Int) : Rat) := by
      show ((crossK A B n t k + A.getD k 0 * B.getD ((k + t) % n) 0 : Int) : Rat) = _
      rw [Rat.intCast_add]
    have e2 : ((k + 1 : Nat) : Rat) = (k : Rat) + 1 := by rw [Rat.natCast_add]; rfl
    rw [e1, e2]
    show sumR (fun j => x j * y ((j + t) % n)) k + x k * y ((k + t) % n) ≤ _ ∧ _ ≤ sumR (fun j => x j * y ((j + t) % n)) k + x k * y ((k + t) % n) + _
    exact ⟨by grind, by grind⟩
/-- whole numbers as rationals of a row. -/
theorem row_is {A : List Int} {d l : Nat} (lA : A.length = 2 ^ d) (hA : ∀ i, A.getD i 0 ≤ (l : Int) ∧ -(l : Int) ≤ A.getD i 0) (hl : l ≤ 1048576) : ∃ x : Nat → Rat, ∀ i, i < 2 ^ d → CIs ((asW A).getD i (0, 0)) ⟨x i, 0⟩ ∧ x i ≤ (A.getD i 0 : Rat) + 2 * (uu * (l : Rat)) + et ∧ (A.getD i 0 : Rat) ≤ x i + 2 * (uu * (l : Rat)) + et ∧ ab (x i) ≤ 2 * (l : Rat) := by
  have key := fun i => int_is (A.getD i 0) l (hA i).1 (hA i).2 hl
  refine ⟨fun i => Classical.choose (key i), fun i hi => ?_⟩
  obtain ⟨h1, h2, h3, h4⟩ := Classical.choose_spec (key i)
  refine ⟨?_, h2, h3, h4⟩
  rw [asW_at (by rw [lA]; exact hi)]
  exact ⟨h1, by show Is 0 0; unfold Is; decide +kernel⟩
theorem wd_real {x m : Rat} (h : ab x ≤ m) : Wd ⟨x, 0⟩ m := by
  have a := ab_iff h
  have b := sqr_le a.1 a.2
  exact ⟨by have := ab_nonneg x; grind, by show x * x + 0 * 0 ≤ _; grind⟩
end Go.Proofs.YtngdemhhcablmakDoor
