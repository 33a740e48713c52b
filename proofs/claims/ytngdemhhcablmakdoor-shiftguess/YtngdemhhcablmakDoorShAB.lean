/-
  The 256 parts of a turn as complex numbers. No program here. Waves by halves: how far what is reckoned is from the sum. No program here. Waves by halves are near the sum; waves term by term are. No program here.
-/
import Derived.Test.YtngdemhhcablmakDoorShA2
import Derived.Test.YtngdemhhcablmakDoorShAA
namespace Go.Proofs.YtngdemhhcablmakDoor
open Go

theorem tq_rot (m : Nat) : tqI (m + 64) = rot1 (tqI m) := by
  unfold tqI
  rw [show (m + 64) / 64 % 4 = (m / 64 % 4 + 1) % 4 by omega, show (m + 64) % 64 = m % 64 by omega]
  generalize tabL.getD (m % 64) (0, 0) = z
  have hq : m / 64 % 4 < 4 := Nat.mod_lt _ (by decide)
  generalize m / 64 % 4 = q at *
  rcases (show q = 0 ∨ q = 1 ∨ q = 2 ∨ q = 3 by omega) with rfl | rfl | rfl | rfl
  · rfl
  · rfl
  · rfl
  · obtain ⟨x, y⟩ := z
    show (x, y) = (- -x, - -y)
    rw [Int.neg_neg, Int.neg_neg]
theorem tq_half (m : Nat) : tqI (m + 128) = (-(tqI m).1, -(tqI m).2) := by
  rw [show m + 128 = m + 64 + 64 by omega, tq_rot, tq_rot]
  rfl
theorem tq_turn (m : Nat) : tqI (m + 256) = tqI m := by
  rw [show m + 256 = m + 128 + 128 by omega, tq_half, tq_half]
  simp only [Int.neg_neg]
theorem tq_mod (m : Nat) : tqI (m % 256) = tqI m := by
  unfold tqI
  rw [show m % 256 / 64 % 4 = m / 64 % 4 by omega, show m % 256 % 64 = m % 64 by omega]
def dM (a b : Nat) : Int := sz2 ((tqI a).1 * (tqI b).1 - (tqI a).2 * (tqI b).2 - (tqI (a + b)).1 * 1152921504606846976) ((tqI a).1 * (tqI b).2 + (tqI a).2 * (tqI b).1 - (tqI (a + b)).2 * 1152921504606846976)
def dC (a c : Nat) : Int := sz2 ((tqI a).1 * (tqI (a + c)).1 + (tqI a).2 * (tqI (a + c)).2 - (tqI c).1 * 1152921504606846976) ((tqI a).1 * (tqI (a + c)).2 - (tqI a).2 * (tqI (a + c)).1 - (tqI c).2 * 1152921504606846976)
theorem dM_a (a b : Nat) : dM (a + 64) b = dM a b := by
  unfold dM
  rw [show a + 64 + b = a + b + 64 by omega, tq_rot, tq_rot]
  unfold rot1 sz2
  generalize tqI a = x
  generalize tqI b = y
  generalize tqI (a + b) = z
  obtain ⟨x1, x2⟩ := x
  obtain ⟨y1, y2⟩ := y
  obtain ⟨z1, z2⟩ := z
  simp only
  grind
theorem dM_b (a b : Nat) : dM a (b + 64) = dM a b := by
  unfold dM
  rw [show a + (b + 64) = a + b + 64 by omega, tq_rot, tq_rot]
  unfold rot1 sz2
  generalize tqI a = x
  generalize tqI b = y
  generalize tqI (a + b) = z
  obtain ⟨x1, x2⟩ := x
  obtain ⟨y1, y2⟩ := y
  obtain ⟨z1, z2⟩ := z
  simp only
  grind
theorem dC_a (a c : Nat) : dC (a + 64) c = dC a c := by
  unfold dC
  rw [show a + 64 + c = a + c + 64 by omega, tq_rot, tq_rot]
  unfold rot1 sz2
  generalize tqI a = x
  generalize tqI c = y
  generalize tqI (a + c) = z
  obtain ⟨x1, x2⟩ := x
  obtain ⟨y1, y2⟩ := y
  obtain ⟨z1, z2⟩ := z
  simp only
  grind
theorem dC_c (a c : Nat) : dC a (c + 64) = dC a c := by
  unfold dC
  rw [show a + (c + 64) = a + c + 64 by omega, tq_rot, tq_rot]
  unfold rot1 sz2
  generalize tqI a = x
  generalize tqI c = y
  generalize tqI (a + c) = z
  obtain ⟨x1, x2⟩ := x
  obtain ⟨y1, y2⟩ := y
  obtain ⟨z1, z2⟩ := z
  simp only
  grind
theorem per64 {f : Nat → Int} (h : ∀ a, f (a + 64) = f a) (a : Nat) : f a = f (a % 64) := by
  have key : ∀ i r : Nat, f (r + 64 * i) = f r := by
    intro i
    induction i with
    | zero => intro r; rfl
    | succ i ih => intro r; rw [show r + 64 * (i + 1) = r + 64 * i + 64 by omega, h, ih]
  have := key (a / 64) (a % 64)
  rw [show a % 64 + 64 * (a / 64) = a by omega] at this
  exact this
theorem dM_le (a b : Nat) : dM a b ≤ 196002643346460554954903773880698489798656 := by
  rw [per64 (f := fun a => dM a b) (fun a => dM_a a b) a, per64 (f := fun b => dM (a % 64) b) (fun b => dM_b _ b) b]
  exact of_decide_eq_true (allB_at (allB_at allM (Nat.mod_lt a (by decide))) (Nat.mod_lt b (by decide)))
theorem dC_le (a c : Nat) : dC a c ≤ 196002643346460554954903773880698489798656 := by
  rw [per64 (f := fun a => dC a c) (fun a => dC_a a c) a, per64 (f := fun c => dC (a % 64) c) (fun c => dC_c _ c) c]
  exact of_decide_eq_true (allB_at (allB_at allC (Nat.mod_lt a (by decide))) (Nat.mod_lt c (by decide)))
theorem sz_le (a : Nat) : sz2 (tqI a).1 (tqI a).2 ≤ 1329227995784916168051712239633186816 := by
  have h : ∀ a, sz2 (tqI (a + 64)).1 (tqI (a + 64)).2 = sz2 (tqI a).1 (tqI a).2 := fun a => by
    rw [tq_rot]
    unfold rot1 sz2
    simp only
    grind
  rw [per64 (f := fun a => sz2 (tqI a).1 (tqI a).2) h a]
  exact of_decide_eq_true (allB_at allS (Nat.mod_lt a (by decide)))
/-- a part of a turn, the way back or on. -/
def tw (back : Bool) (m : Nat) : Cq := ⟨((tqI m).1 : Rat) / 1152921504606846976, if back then ((tqI m).2 : Rat) / 1152921504606846976 else -(((tqI m).2 : Rat) / 1152921504606846976)⟩
theorem both_at {p q : Nat → Prop} [∀ m, Decidable (p m)] [∀ m, Decidable (q m)] {n : Nat} (h : allB n (fun m => decide (p m) && decide (q m)) = true) {m : Nat} (hm : m < n) : p m ∧ q m := by
  have h1 := allB_at h hm
  rw [Bool.and_eq_true] at h1
  exact ⟨of_decide_eq_true h1.1, of_decide_eq_true h1.2⟩
def angP (f : Int → Nat) (g : Nat → Int) (m : Nat) : Prop := dv (FloatKind.f64.format.read (f (5062500000 * (m : Int)))) = some ((g m : Rat) / 1152921504606846976)
theorem tab_at {m : Nat} (hm : m < 256) : angP cosV (fun m => (tqI m).1) m ∧ angP sinV (fun m => (tqI m).2) m :=
  both_at (p := fun m => dv (FloatKind.f64.format.read (cosV (5062500000 * (m : Int)))) = some (((tqI m).1 : Rat) / 1152921504606846976)) (q := fun m => dv (FloatKind.f64.format.read (sinV (5062500000 * (m : Int)))) = some (((tqI m).2 : Rat) / 1152921504606846976)) tab_is hm
theorem ang_is {f : Int → Nat} {g : Nat → Int} {m : Nat} (h : angP f g m) : Is (f (5062500000 * (m : Int))) ((g m : Rat) / 1152921504606846976) := h
theorem wave_is {g : Int} {C S : Rat} (h1 : Is (cosV g) C) (h2 : Is (sinV g) S) (back : Bool) : CIs (waveV g back) ⟨C, if back then S else -S⟩ := by
  have h3 := neg_is h2
  unfold CIs waveV
  generalize cosV g = cb at *
  generalize sinV g = sb at *
  cases back with
  | true => exact ⟨h1, h2⟩
  | false => exact ⟨h1, h3⟩
theorem tw_is (back : Bool) {m : Nat} (hm : m < 256) : CIs (waveV (5062500000 * (m : Int)) back) (tw back m) := by
  have h := wave_is (ang_is (tab_at hm).1) (ang_is (tab_at hm).2) back
  unfold tw
  exact h
theorem tw_half (back : Bool) (m : Nat) : tw back (m + 128) = cN (tw back m) := by
  unfold tw
  rw [tq_half]
  simp only [Rat.intCast_neg]
  exact cq_eq (by show -((tqI m).1 : Rat) / _ = -(((tqI m).1 : Rat) / _); grind) (by
    show (if back then -((tqI m).2 : Rat) / _ else -(-((tqI m).2 : Rat) / _)) = -(if back then ((tqI m).2 : Rat) / _ else -(((tqI m).2 : Rat) / _))
    cases back <;> simp <;> grind)
theorem tw_mod (back : Bool) (m : Nat) : tw back (m % 256) = tw back m := by
  unfold tw
  rw [tq_mod]
theorem tw_zero (back : Bool) : tw back 0 = ⟨1, 0⟩ := by
  cases back <;> exact cq_eq (by decide +kernel) (by decide +kernel)
theorem uu_is : uu = 1 / 9007199254740992 := by decide +kernel
theorem tw_le (back : Bool) (m : Nat) : Wd (tw back m) (1 + uu) := by
  have h : (((sz2 (tqI m).1 (tqI m).2 : Int)) : Rat) ≤ ((1329227995784916168051712239633186816 : Int) : Rat) := Rat.intCast_le_intCast.2 (sz_le m)
  unfold sz2 at h
  rw [Rat.intCast_add, Rat.intCast_mul, Rat.intCast_mul] at h
  refine ⟨by rw [uu_is]; decide +kernel, ?_⟩
  unfold tw
  rw [uu_is]
  generalize ((tqI m).1 : Rat) = x at *
  generalize ((tqI m).2 : Rat) = y at *
  have hk : ((1329227995784916168051712239633186816 : Int) : Rat) = 1329227995784916168051712239633186816 := rfl
  rw [hk] at h
  cases back
  · show x / 1152921504606846976 * (x / 1152921504606846976) + -(y / 1152921504606846976) * -(y / 1152921504606846976) ≤ _
    grind
  · show x / 1152921504606846976 * (x / 1152921504606846976) + y / 1152921504606846976 * (y / 1152921504606846976) ≤ _
    grind
theorem tw_mul (back : Bool) (a b : Nat) : Wd (cS (cM (tw back a) (tw back b)) (tw back (a + b))) (3 * uu) := by
  have h : ((dM a b : Int) : Rat) ≤ ((196002643346460554954903773880698489798656 : Int) : Rat) := Rat.intCast_le_intCast.2 (dM_le a b)
  have hk : ((196002643346460554954903773880698489798656 : Int) : Rat) = 196002643346460554954903773880698489798656 := rfl
  have hd : ((1152921504606846976 : Int) : Rat) = 1152921504606846976 := rfl
  unfold dM sz2 at h
  simp only [Rat.intCast_add, Rat.intCast_mul, Rat.intCast_sub, hd, hk] at h
  refine ⟨by rw [uu_is]; decide +kernel, ?_⟩
  unfold tw cS cM
  rw [uu_is]
  simp only
  generalize ((tqI a).1 : Rat) = x1 at *
  generalize ((tqI a).2 : Rat) = x2 at *
  generalize ((tqI b).1 : Rat) = y1 at *
  generalize ((tqI b).2 : Rat) = y2 at *
  generalize ((tqI (a + b)).1 : Rat) = z1 at *
  generalize ((tqI (a + b)).2 : Rat) = z2 at *
  cases back
  · simp only [Bool.false_eq_true, if_false]
    grind
  · simp only [if_true]
    grind
theorem tw_conj (a c : Nat) : Wd (cS (cM (tw false a) (tw true (a + c))) (tw true c)) (3 * uu) := by
  have h : ((dC a c : Int) : Rat) ≤ ((196002643346460554954903773880698489798656 : Int) : Rat) := Rat.intCast_le_intCast.2 (dC_le a c)
  have hk : ((196002643346460554954903773880698489798656 : Int) : Rat) = 196002643346460554954903773880698489798656 := rfl
  have hd : ((1152921504606846976 : Int) : Rat) = 1152921504606846976 := rfl
  unfold dC sz2 at h
  simp only [Rat.intCast_add, Rat.intCast_mul, Rat.intCast_sub, hd, hk] at h
  refine ⟨by rw [uu_is]; decide +kernel, ?_⟩
  unfold tw cS cM
  rw [uu_is]
  simp only [Bool.false_eq_true, if_false, if_true]
  generalize ((tqI a).1 : Rat) = x1 at *
  generalize ((tqI a).2 : Rat) = x2 at *
  generalize ((tqI (a + c)).1 : Rat) = y1 at *
  generalize ((tqI (a + c)).2 : Rat) = y2 at *
  generalize ((tqI c).1 : Rat) = z1 at *
  generalize ((tqI c).2 : Rat) = z2 at *
  grind
end Go.Proofs.YtngdemhhcablmakDoor
namespace Go.Proofs.YtngdemhhcablmakDoor
open Go

def sumC (f : Nat → Cq) : Nat → Cq
  | 0 => c0
  | n + 1 => cA (sumC f n) (f n)
theorem sumC_congr {f g : Nat → Cq} : ∀ {n : Nat}, (∀ i, i < n → f i = g i) → sumC f n = sumC g n
  | 0, _ => rfl
  | n + 1, h => by
    unfold sumC
    rw [sumC_congr (fun i hi => h i (by omega)), h n (by omega)]
theorem cA_swap (a b c d : Cq) : cA (cA a b) (cA c d) = cA (cA a c) (cA b d) := cq_eq (by show a.re + b.re + (c.re + d.re) = a.re + c.re + (b.re + d.re); grind) (by show a.im + b.im + (c.im + d.im) = a.im + c.im + (b.im + d.im); grind)
theorem cA_assoc (a b c : Cq) : cA (cA a b) c = cA a (cA b c) := cq_eq (by show a.re + b.re + c.re = a.re + (b.re + c.re); grind) (by show a.im + b.im + c.im = a.im + (b.im + c.im); grind)
theorem cA_zero (a : Cq) : cA a c0 = a := cq_eq (by show a.re + 0 = a.re; grind) (by show a.im + 0 = a.im; grind)
theorem sumC_two (f : Nat → Cq) : ∀ n, sumC f (2 * n) = cA (sumC (fun i => f (2 * i)) n) (sumC (fun i => f (2 * i + 1)) n)
  | 0 => (cA_zero c0).symm
  | n + 1 => by
    rw [show 2 * (n + 1) = 2 * n + 1 + 1 by omega]
    show cA (cA (sumC f (2 * n)) (f (2 * n))) (f (2 * n + 1)) = cA (cA _ (f (2 * n))) (cA _ (f (2 * n + 1)))
    rw [sumC_two f n, cA_assoc, cA_swap]
theorem sumC_sub (f g : Nat → Cq) : ∀ n, cS (sumC f n) (sumC g n) = sumC (fun i => cS (f i) (g i)) n
  | 0 => cq_eq (by show (0 : Rat) - 0 = 0; grind) (by show (0 : Rat) - 0 = 0; grind)
  | n + 1 => by
    show cS (cA (sumC f n) (f n)) (cA (sumC g n) (g n)) = cA (sumC (fun i => cS (f i) (g i)) n) (cS (f n) (g n))
    rw [← sumC_sub f g n]
    exact cq_eq (by show _ + _ - (_ + _) = _ - _ + (_ - _); grind) (by show _ + _ - (_ + _) = _ - _ + (_ - _); grind)
theorem sumC_mul (f : Nat → Cq) (w : Cq) : ∀ n, cM (sumC f n) w = sumC (fun i => cM (f i) w) n
  | 0 => cq_eq (by show (0 : Rat) * w.re - 0 * w.im = 0; grind) (by show (0 : Rat) * w.im + 0 * w.re = 0; grind)
  | n + 1 => by
    show cM (cA (sumC f n) (f n)) w = cA (sumC (fun i => cM (f i) w) n) (cM (f n) w)
    rw [← sumC_mul f w n]
    generalize sumC f n = a
    generalize f n = b
    exact cq_eq (by show (a.re + b.re) * w.re - (a.im + b.im) * w.im = a.re * w.re - a.im * w.im + (b.re * w.re - b.im * w.im); grind) (by show (a.re + b.re) * w.im + (a.im + b.im) * w.re = a.re * w.im + a.im * w.re + (b.re * w.im + b.im * w.re); grind)
theorem wd_sum {f : Nat → Cq} {B : Rat} (hB : 0 ≤ B) : ∀ {n : Nat}, (∀ i, i < n → Wd (f i) B) → Wd (sumC f n) ((n : Rat) * B)
  | 0, _ => by
    rw [show ((0 : Nat) : Rat) = 0 from rfl, Rat.zero_mul]
    exact Wd.zero Rat.le_refl
  | n + 1, h => by
    have h1 := (wd_sum hB (n := n) (fun i hi => h i (by omega))).add (h n (by omega))
    rw [show ((n + 1 : Nat) : Rat) * B = (n : Rat) * B + B by rw [Rat.natCast_add]; rw [show ((1 : Nat) : Rat) = 1 from rfl]; grind]
    exact h1
theorem cM_assoc (a b c : Cq) : cM (cM a b) c = cM a (cM b c) := cq_eq (by show (a.re * b.re - a.im * b.im) * c.re - (a.re * b.im + a.im * b.re) * c.im = a.re * (b.re * c.re - b.im * c.im) - a.im * (b.re * c.im + b.im * c.re); grind) (by show (a.re * b.re - a.im * b.im) * c.im + (a.re * b.im + a.im * b.re) * c.re = a.re * (b.re * c.im + b.im * c.re) + a.im * (b.re * c.re - b.im * c.im); grind)
theorem cM_sub (a b c : Cq) : cS (cM a b) (cM a c) = cM a (cS b c) := cq_eq (by show a.re * b.re - a.im * b.im - (a.re * c.re - a.im * c.im) = a.re * (b.re - c.re) - a.im * (b.im - c.im); grind) (by show a.re * b.im + a.im * b.re - (a.re * c.im + a.im * c.re) = a.re * (b.im - c.im) + a.im * (b.re - c.re); grind)
theorem cM_one (a : Cq) : cM a ⟨1, 0⟩ = a := cq_eq (by show a.re * 1 - a.im * 0 = a.re; grind) (by show a.re * 0 + a.im * 1 = a.im; grind)
theorem cM_neg (a b : Cq) : cM a (cN b) = cN (cM a b) := cq_eq (by show a.re * -b.re - a.im * -b.im = -(a.re * b.re - a.im * b.im); grind) (by show a.re * -b.im + a.im * -b.re = -(a.re * b.im + a.im * b.re); grind)
theorem cS_neg (a b : Cq) : cS a (cN b) = cA a b := cq_eq (by show a.re - -b.re = a.re + b.re; grind) (by show a.im - -b.im = a.im + b.im; grind)
theorem cN_sub (a b : Cq) : cS (cN a) (cN b) = cN (cS a b) := cq_eq (by show -a.re - -b.re = -(a.re - b.re); grind) (by show -a.im - -b.im = -(a.im - b.im); grind)
theorem cA_neg (a b : Cq) : cA a (cN b) = cS a b := cq_eq (by show a.re + -b.re = a.re - b.re; grind) (by show a.im + -b.im = a.im - b.im; grind)
theorem sumC_neg (f : Nat → Cq) : ∀ n, sumC (fun i => cN (f i)) n = cN (sumC f n)
  | 0 => cq_eq (by show (0 : Rat) = -0; grind) (by show (0 : Rat) = -0; grind)
  | n + 1 => by
    show cA (sumC (fun i => cN (f i)) n) (cN (f n)) = cN (cA (sumC f n) (f n))
    rw [sumC_neg f n]
    exact cq_eq (by show -_ + -_ = -(_ + _); grind) (by show -_ + -_ = -(_ + _); grind)
theorem tw_turns (back : Bool) (m i : Nat) : tw back (m + 256 * i) = tw back m := by
  rw [← tw_mod back (m + 256 * i), ← tw_mod back m]
  congr 1
  omega
theorem tw_odd (back : Bool) (m i : Nat) : tw back (m + 128 * (2 * i + 1)) = cN (tw back m) := by
  rw [show m + 128 * (2 * i + 1) = m + 128 + 256 * i by omega, tw_turns, tw_half]
/-- the k-th wave of 2 to the power of d numbers, exactly, with the turns as they are reckoned. -/
def Fq (back : Bool) (d : Nat) (z : Nat → Cq) (k : Nat) : Cq := sumC (fun j => cM (z j) (tw back (j * k * 2 ^ (8 - d)))) (2 ^ d)
theorem Fq_size {back : Bool} {d : Nat} {z : Nat → Cq} {l : Rat} (h : ∀ i, i < 2 ^ d → Wd (z i) l) (hl : 0 ≤ l) (k : Nat) : Wd (Fq back d z k) (((2 ^ d : Nat) : Rat) * (l * (1 + uu))) :=
  wd_sum (Rat.mul_nonneg hl (by have := uu_pos; grind)) (fun i hi => (h i hi).mul (tw_le back _))
theorem pow_s {d : Nat} (hd : d < 8) : 2 ^ (8 - d) = 2 * 2 ^ (7 - d) ∧ 2 ^ d * 2 ^ (7 - d) = 128 ∧ 2 ^ (8 - (d + 1)) = 2 ^ (7 - d) := by
  refine ⟨?_, ?_, by rw [show 8 - (d + 1) = 7 - d by omega]⟩
  · rw [show 8 - d = 7 - d + 1 by omega, Nat.pow_succ, Nat.mul_comm]
  · rw [← Nat.pow_add, show d + (7 - d) = 7 by omega]
/-- the odd places of a wave: nearly the wave of them, turned. -/
theorem odd_near {back : Bool} {d : Nat} {z : Nat → Cq} {l : Rat} (hd : d < 8) (h : ∀ i, i < 2 ^ (d + 1) → Wd (z i) l) (hl : 0 ≤ l) (k : Nat) :
    Wd (cS (sumC (fun i => cM (z (2 * i + 1)) (tw back ((2 * i + 1) * k * 2 ^ (7 - d)))) (2 ^ d)) (cM (Fq back d (fun i => z (2 * i + 1)) k) (tw back (k * 2 ^ (7 - d))))) (((2 ^ d : Nat) : Rat) * (l * (3 * uu))) := by
  obtain ⟨e1, e2, e3⟩ := pow_s hd
  unfold Fq
  rw [sumC_mul, sumC_sub]
  have p2' : 2 ^ (d + 1) = 2 * 2 ^ d := by rw [Nat.pow_succ, Nat.mul_comm]
  refine wd_sum (Rat.mul_nonneg hl (by have := uu_pos; grind)) (fun i hi => ?_)
  rw [cM_assoc, cM_sub]
  refine (h (2 * i + 1) (by omega)).mul ?_
  have hm := (tw_mul back (i * k * 2 ^ (8 - d)) (k * 2 ^ (7 - d))).neg
  have e4 : i * k * 2 ^ (8 - d) + k * 2 ^ (7 - d) = (2 * i + 1) * k * 2 ^ (7 - d) := by
    rw [e1]
    generalize 2 ^ (7 - d) = s
    rw [Nat.add_mul, Nat.add_mul, Nat.one_mul, Nat.mul_comm 2 i, Nat.mul_assoc i 2 k, Nat.mul_comm 2 k, ← Nat.mul_assoc i k 2, Nat.mul_assoc (i * k) 2 s]
  rw [e4] at hm
  have e5 : cN (cS (cM (tw back (i * k * 2 ^ (8 - d))) (tw back (k * 2 ^ (7 - d)))) (tw back ((2 * i + 1) * k * 2 ^ (7 - d)))) = cS (tw back ((2 * i + 1) * k * 2 ^ (7 - d))) (cM (tw back (i * k * 2 ^ (8 - d))) (tw back (k * 2 ^ (7 - d)))) := cq_eq (by show -(_ - _) = _ - _; grind) (by show -(_ - _) = _ - _; grind)
  rw [e5] at hm
  exact hm
theorem Fq_first {back : Bool} {d : Nat} {z : Nat → Cq} {l : Rat} (hd : d < 8) (h : ∀ i, i < 2 ^ (d + 1) → Wd (z i) l) (hl : 0 ≤ l) (k : Nat) :
    Wd (cS (Fq back (d + 1) z k) (cA (Fq back d (fun i => z (2 * i)) k) (cM (Fq back d (fun i => z (2 * i + 1)) k) (tw back (k * 2 ^ (7 - d)))))) (((2 ^ d : Nat) : Rat) * (l * (3 * uu))) := by
  obtain ⟨e1, e2, e3⟩ := pow_s hd
  have ho := odd_near (back := back) hd h hl k
  have e : Fq back (d + 1) z k = cA (Fq back d (fun i => z (2 * i)) k) (sumC (fun i => cM (z (2 * i + 1)) (tw back ((2 * i + 1) * k * 2 ^ (7 - d)))) (2 ^ d)) := by
    unfold Fq
    rw [show 2 ^ (d + 1) = 2 * 2 ^ d by rw [Nat.pow_succ, Nat.mul_comm], sumC_two, e3]
    congr 1
    refine sumC_congr (fun i _ => ?_)
    show cM (z (2 * i)) (tw back (2 * i * k * 2 ^ (7 - d))) = cM (z (2 * i)) (tw back (i * k * 2 ^ (8 - d)))
    rw [e1, show 2 * i * k * 2 ^ (7 - d) = i * k * (2 * 2 ^ (7 - d)) by
      generalize 2 ^ (7 - d) = s
      rw [Nat.mul_comm 2 i, Nat.mul_assoc i 2 k, Nat.mul_comm 2 k, ← Nat.mul_assoc i k 2, Nat.mul_assoc (i * k) 2 s]]
  rw [e]
  have e5 : ∀ a b c : Cq, cS (cA a b) (cA a c) = cS b c := fun a b c => cq_eq (by show a.re + b.re - (a.re + c.re) = b.re - c.re; grind) (by show a.im + b.im - (a.im + c.im) = b.im - c.im; grind)
  rw [e5]
  exact ho
theorem Fq_second {back : Bool} {d : Nat} {z : Nat → Cq} {l : Rat} (hd : d < 8) (h : ∀ i, i < 2 ^ (d + 1) → Wd (z i) l) (hl : 0 ≤ l) (k : Nat) :
    Wd (cS (Fq back (d + 1) z (k + 2 ^ d)) (cS (Fq back d (fun i => z (2 * i)) k) (cM (Fq back d (fun i => z (2 * i + 1)) k) (tw back (k * 2 ^ (7 - d)))))) (((2 ^ d : Nat) : Rat) * (l * (3 * uu))) := by
  obtain ⟨e1, e2, e3⟩ := pow_s hd
  have ho := odd_near (back := back) hd h hl k
  have e : Fq back (d + 1) z (k + 2 ^ d) = cS (Fq back d (fun i => z (2 * i)) k) (sumC (fun i => cM (z (2 * i + 1)) (tw back ((2 * i + 1) * k * 2 ^ (7 - d)))) (2 ^ d)) := by
    unfold Fq
    rw [show 2 ^ (d + 1) = 2 * 2 ^ d by rw [Nat.pow_succ, Nat.mul_comm], sumC_two, e3, ← cA_neg, ← sumC_neg]
    congr 1
    · refine sumC_congr (fun i _ => ?_)
      show cM (z (2 * i)) (tw back (2 * i * (k + 2 ^ d) * 2 ^ (7 - d))) = cM (z (2 * i)) (tw back (i * k * 2 ^ (8 - d)))
      rw [e1, show 2 * i * (k + 2 ^ d) * 2 ^ (7 - d) = i * k * (2 * 2 ^ (7 - d)) + 256 * i by
        rw [Nat.mul_add, Nat.add_mul, Nat.mul_assoc (2 * i) (2 ^ d), e2, show 2 * i * 128 = 256 * i by omega]
        generalize 2 ^ (7 - d) = s
        rw [Nat.mul_comm 2 i, Nat.mul_assoc i 2 k, Nat.mul_comm 2 k, ← Nat.mul_assoc i k 2, Nat.mul_assoc (i * k) 2 s], tw_turns]
    · refine sumC_congr (fun i _ => ?_)
      show cM (z (2 * i + 1)) (tw back ((2 * i + 1) * (k + 2 ^ d) * 2 ^ (7 - d))) = cN (cM (z (2 * i + 1)) (tw back ((2 * i + 1) * k * 2 ^ (7 - d))))
      rw [← cM_neg, show (2 * i + 1) * (k + 2 ^ d) * 2 ^ (7 - d) = (2 * i + 1) * k * 2 ^ (7 - d) + 128 * (2 * i + 1) by
        rw [Nat.mul_add, Nat.add_mul, Nat.mul_assoc (2 * i + 1) (2 ^ d), e2, Nat.mul_comm (2 * i + 1) 128], tw_odd]
  rw [e]
  have e5 : ∀ a b c : Cq, cS (cS a b) (cS a c) = cN (cS b c) := fun a b c => cq_eq (by show a.re - b.re - (a.re - c.re) = -(b.re - c.re); grind) (by show a.im - b.im - (a.im - c.im) = -(b.im - c.im); grind)
  rw [e5]
  exact ho.neg
/-- how far waves by halves may be off. -/
def erH (d : Nat) (l : Rat) : Rat := ((2 ^ d : Nat) : Rat) * ((d : Rat) * (47 / 10 * (uu * (l * (1 + uu)))))
theorem angle_is {d : Nat} (hd : d < 8) (k : Nat) : ((1296000000000 * k / 2 ^ (d + 1) : Nat) : Int) = 5062500000 * ((k * 2 ^ (7 - d) : Nat) : Int) := by
  obtain ⟨e1, e2, e3⟩ := pow_s hd
  have h : 1296000000000 * k = 5062500000 * (k * 2 ^ (7 - d)) * 2 ^ (d + 1) := by
    rw [Nat.pow_succ, show 5062500000 * (k * 2 ^ (7 - d)) * (2 ^ d * 2) = 5062500000 * k * (2 ^ d * 2 ^ (7 - d)) * 2 by
      generalize 2 ^ (7 - d) = s
      generalize 2 ^ d = t
      rw [Nat.mul_assoc 5062500000 k, Nat.mul_assoc 5062500000, Nat.mul_assoc 5062500000, Nat.mul_assoc k s, Nat.mul_assoc k (t * s), ← Nat.mul_assoc s t 2, Nat.mul_comm s t], e2]
    omega
  rw [h, Nat.mul_div_cancel _ (Nat.two_pow_pos _)]
  rw [Int.natCast_mul]
  rfl
end Go.Proofs.YtngdemhhcablmakDoor
namespace Go.Proofs.YtngdemhhcablmakDoor
open Go

theorem nat_two (d : Nat) : ((2 ^ (d + 1) : Nat) : Rat) = 2 * ((2 ^ d : Nat) : Rat) := by
  rw [Nat.pow_succ, Rat.natCast_mul, show ((2 : Nat) : Rat) = 2 from rfl]
  grind
theorem pow_range {d : Nat} (hd : d ≤ 8) : (1 : Rat) ≤ ((2 ^ d : Nat) : Rat) ∧ ((2 ^ d : Nat) : Rat) ≤ 256 := by
  have h1 : 1 ≤ 2 ^ d := Nat.one_le_two_pow
  have h2 : 2 ^ d ≤ 2 ^ 8 := Nat.pow_le_pow_right (by decide) hd
  have a := (Rat.natCast_le_natCast (a := 1) (b := 2 ^ d)).2 h1
  have b := (Rat.natCast_le_natCast (a := 2 ^ d) (b := 256)).2 h2
  exact ⟨a, b⟩
theorem lm_mono {l : Rat} (hl : 0 ≤ l) : l ≤ l * (1 + uu) ∧ l * (1 + uu) ≤ 2 * l := by
  have pu := uu_pos
  have su := small_uu
  have := Rat.mul_nonneg hl (Rat.le_of_lt pu)
  have := Rat.mul_nonneg hl (show 0 ≤ 1 - uu by grind)
  exact ⟨by grind, by grind⟩
theorem fft_near {back : Bool} {d : Nat} {L X : Nat → Nat × Nat} (h : HvR back d L X) : d ≤ 8 → ∀ {z : Nat → Cq} {l : Rat}, (∀ i, i < 2 ^ d → CIs (L i) (z i) ∧ Wd (z i) l) → 0 ≤ l → et ≤ uu * (uu * l) → l ≤ p2 700 → ∀ k, k < 2 ^ d → ∃ x, CIs (X k) x ∧ Wd (cS x (Fq back d z k)) (erH d l) := by
  induction h with
  | @one L X h =>
    intro _ z l hz hl _ _ k hk
    obtain rfl : k = 0 := by omega
    refine ⟨z 0, by rw [h]; exact (hz 0 (by decide)).1, ?_⟩
    have e : Fq back 0 z 0 = z 0 := by
      show cA c0 (cM (z 0) (tw back (0 * 0 * 2 ^ 8))) = z 0
      rw [show 0 * 0 * 2 ^ 8 = 0 from rfl, tw_zero, cM_one]
      exact cq_eq (by show 0 + (z 0).re = _; grind) (by show 0 + (z 0).im = _; grind)
    have e2 : cS (z 0) (z 0) = c0 := cq_eq (by show (z 0).re - (z 0).re = 0; grind) (by show (z 0).im - (z 0).im = 0; grind)
    rw [e, e2]
    refine Wd.zero ?_
    unfold erH
    rw [show ((0 : Nat) : Rat) = 0 from rfl]
    grind
  | @two d L E O X he ho hk ihe iho =>
    intro hd z l hz hl het hlL k hk2
    have hd7 : d < 8 := by omega
    obtain ⟨s1, s2, s3⟩ := pow_s hd7
    have p2' : 2 ^ (d + 1) = 2 * 2 ^ d := by rw [Nat.pow_succ, Nat.mul_comm]
    have hzE : ∀ i, i < 2 ^ d → CIs (L (2 * i)) (z (2 * i)) ∧ Wd (z (2 * i)) l := fun i hi => hz (2 * i) (by omega)
    have hzO : ∀ i, i < 2 ^ d → CIs (L (2 * i + 1)) (z (2 * i + 1)) ∧ Wd (z (2 * i + 1)) l := fun i hi => hz (2 * i + 1) (by omega)
    have ihE := ihe (by omega) (z := fun i => z (2 * i)) hzE hl het hlL
    have ihO := iho (by omega) (z := fun i => z (2 * i + 1)) hzO hl het hlL
    have hW : ∀ i, i < 2 ^ (d + 1) → Wd (z i) l := fun i hi => (hz i hi).2
    obtain ⟨n1, n2⟩ := pow_range (show d ≤ 8 by omega)
    obtain ⟨m1, m2⟩ := lm_mono hl
    have pu := uu_pos
    have su := small_uu
    have key : ∀ k, k < 2 ^ d → (∃ x, CIs (X k) x ∧ Wd (cS x (Fq back (d + 1) z k)) (erH (d + 1) l)) ∧ ∃ x, CIs (X (k + 2 ^ d)) x ∧ Wd (cS x (Fq back (d + 1) z (k + 2 ^ d))) (erH (d + 1) l) := by
      intro k hk2
      obtain ⟨t, h1, h2, h3⟩ := hk k hk2
      obtain ⟨e, ie, ne⟩ := ihE k hk2
      obtain ⟨o, io, no⟩ := ihO k hk2
      have fE := Fq_size (back := back) (z := fun i => z (2 * i)) (fun i hi => (hzE i hi).2) hl k
      have fO := Fq_size (back := back) (z := fun i => z (2 * i + 1)) (fun i hi => (hzO i hi).2) hl k
      have hks : k * 2 ^ (7 - d) < 256 := by
        have : k * 2 ^ (7 - d) ≤ 2 ^ d * 2 ^ (7 - d) := Nat.mul_le_mul_right _ (by omega)
        omega
      have iT := tw_is back hks
      rw [← angle_is hd7 k] at iT
      have fT := tw_le back (k * 2 ^ (7 - d))
      have F1 := Fq_first (back := back) hd7 hW hl k
      have F2 := Fq_second (back := back) hd7 hW hl k
      have hD8 : (d : Rat) ≤ 8 := by
        have := (Rat.natCast_le_natCast (a := d) (b := 8)).2 (by omega)
        exact this
      have hD0 : (0 : Rat) ≤ (d : Rat) := Rat.natCast_nonneg
      have hdd : ((d + 1 : Nat) : Rat) = (d : Rat) + 1 := by rw [Rat.natCast_add]; rfl
      have hE : erH (d + 1) l = 2 * erH d l + 94 / 10 * (uu * (((2 ^ d : Nat) : Rat) * (l * (1 + uu)))) := by
        unfold erH
        rw [nat_two, hdd]
        grind
      have hq0 : 0 ≤ ((2 ^ d : Nat) : Rat) * (l * (1 + uu)) := Rat.mul_nonneg (by grind) (by grind)
      have hEs : erH d l ≤ 1 / 1000000 * (((2 ^ d : Nat) : Rat) * (l * (1 + uu))) := by
        have a1 : erH d l = (d : Rat) * (47 / 10 * (uu * (((2 ^ d : Nat) : Rat) * (l * (1 + uu))))) := by unfold erH; grind
        rw [a1]
        generalize ((2 ^ d : Nat) : Rat) * (l * (1 + uu)) = q at *
        have b1 : 0 ≤ uu * q := Rat.mul_nonneg (Rat.le_of_lt pu) hq0
        have b2 := Rat.mul_nonneg (show 0 ≤ 1 / 1000000000000000 - uu by grind) hq0
        have b3 := Rat.mul_nonneg (show 0 ≤ 8 - (d : Rat) by grind) b1
        grind
      have hqe : et ≤ uu * (uu * (((2 ^ d : Nat) : Rat) * (l * (1 + uu)))) := by
        have c1 : l ≤ ((2 ^ d : Nat) : Rat) * (l * (1 + uu)) := by
          have := Rat.mul_nonneg (show 0 ≤ ((2 ^ d : Nat) : Rat) - 1 by grind) (show 0 ≤ l * (1 + uu) by grind)
          grind
        have c2 := Rat.mul_nonneg (Rat.le_of_lt pu) (Rat.mul_nonneg (Rat.le_of_lt pu) (show 0 ≤ ((2 ^ d : Nat) : Rat) * (l * (1 + uu)) - l by grind))
        grind
      have hqL : ((2 ^ d : Nat) : Rat) * (l * (1 + uu)) ≤ p2 800 := by
        have c1 : 512 * p2 700 ≤ p2 800 := by decide +kernel
        have c2 := mul_mono (show 0 ≤ ((2 ^ d : Nat) : Rat) by grind) (show 0 ≤ l * (1 + uu) by grind) n2 m2
        grind
      have hN3 : ((2 ^ d : Nat) : Rat) * (l * (3 * uu)) ≤ 3 * (uu * (((2 ^ d : Nat) : Rat) * (l * (1 + uu)))) := by
        have c2 := Rat.mul_nonneg (Rat.le_of_lt pu) (Rat.mul_nonneg (show 0 ≤ ((2 ^ d : Nat) : Rat) by grind) (show 0 ≤ l * (1 + uu) - l by grind))
        grind
      obtain ⟨⟨x, ix, nx⟩, y, iy, ny⟩ := fly ie io iT ne no fE fO fT hEs hqe hqL h1 h2 h3
      have huq0 : 0 ≤ uu * (((2 ^ d : Nat) : Rat) * (l * (1 + uu))) := Rat.mul_nonneg (Rat.le_of_lt pu) hq0
      have sm : ∀ a b c : Cq, cS (cS a c) (cS b c) = cS a b := fun a b c => cq_eq (by show a.re - c.re - (b.re - c.re) = a.re - b.re; grind) (by show a.im - c.im - (b.im - c.im) = a.im - b.im; grind)
      constructor
      · refine ⟨x, ix, ?_⟩
        have := nx.sub F1
        rw [sm] at this
        exact this.mono (by rw [hE]; grind)
      · refine ⟨y, iy, ?_⟩
        have := ny.sub F2
        rw [sm] at this
        exact this.mono (by rw [hE]; grind)
    by_cases q : k < 2 ^ d
    · exact (key k q).1
    · obtain ⟨k', rfl⟩ : ∃ k', k = k' + 2 ^ d := ⟨k - 2 ^ d, by omega⟩
      exact (key k' (by omega)).2
end Go.Proofs.YtngdemhhcablmakDoor
