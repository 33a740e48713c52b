/-
  Sines and cosines as functions; the bisection.
-/
import Derived.Test.YtngdemhhcablmakDoorCirA
import Derived.Test.YtngdemhhcablmakDoorFin0
namespace Go.Proofs.YtngdemhhcablmakDoor
open Go Go.RowKit

def nan0 : Nat := 9221120237041090561
theorem nan0_nan : Nan nan0 := by unfold Nan; decide +kernel
def evl : FE → Nat
  | .num x => x
  | .op o a b => (floatBits o .f64 (evl a) (evl b)).getD nan0
theorem fop_val (o : BinOp) (x y : Nat) : FOp o x y ((floatBits o .f64 x y).getD nan0) := by
  unfold FOp
  cases floatBits o .f64 x y with
  | none => exact nan0_nan
  | some v => rfl
theorem ev_evl : ∀ e : FE, Ev e (evl e)
  | .num x => .num x
  | .op o a b => .op (ev_evl a) (ev_evl b) (fop_val o _ _)
theorem not_nan {x : Nat} {v : Rat} (h : Is x v) : ¬ Nan x := by
  obtain ⟨s, m, i, e, _⟩ := is_number h
  unfold Nan
  rw [e]
  exact Bool.false_ne_true
theorem ev_is {e : FE} {x : Nat} {v : Rat} (h : Ev e x) (hv : Is x v) : x = evl e := by
  rcases h.same (ev_evl e) with h' | ⟨n, _⟩
  · exact h'
  · exact absurd n (not_nan hv)

theorem rOf_range (a : Int) : -162000000000 ≤ rOf a ∧ rOf a < 162000000000 := by
  have := nrm_range a
  unfold rOf qOf
  omega
def sV (r : Int) : Nat := evl (sE r)
def cV (r : Int) : Nat := evl (cE r)
def sinV (a : Int) : Nat := turnS (qOf a) (sV (rOf a)) (cV (rOf a))
def cosV (a : Int) : Nat := turnC (qOf a) (sV (rOf a)) (cV (rOf a))
theorem sc_is (a : Int) {s c : Nat} (hs : Ev (sE (rOf a)) s) (hc : Ev (cE (rOf a)) c) : s = sV (rOf a) ∧ c = cV (rOf a) := by
  have hr := rOf_range a
  obtain ⟨_, _, _, _, h1, h2, _⟩ := point (rOf a) (by omega) hr.1 hs hc
  exact ⟨ev_is hs h1, ev_is hc h2⟩
theorem sinCos_is (a : Int) (w : World) :
    Calls Tryd.prog 48 #[.int .i64 a] w fun e w' => e = .returned (.tuple #[.float .f64 (sinV a), .float .f64 (cosV a)]) ∧ Below w.heap.size w w' := by
  refine (sinCos_any a w).mono ?_
  rintro e w' ⟨s, c, rfl, hs, hc, hb⟩
  obtain ⟨rfl, rfl⟩ := sc_is a hs hc
  exact ⟨rfl, hb⟩

/-- at most. -/
def leB (x y : Nat) : Bool := FloatKind.f64.format.order x y == some .lt || FloatKind.f64.format.order x y == some .eq
theorem order_nan_left {x : Nat} (y : Nat) (h : Nan x) : FloatKind.f64.format.order x y = none := by
  obtain ⟨s, t, e⟩ := nan_is h
  unfold Ieee.Format.order
  rw [e]
  cases FloatKind.f64.format.read y <;> rfl
theorem order_nan_right (x : Nat) {y : Nat} (h : Nan y) : FloatKind.f64.format.order x y = none := by
  obtain ⟨s, t, e⟩ := nan_is h
  unfold Ieee.Format.order
  rw [e]
  cases FloatKind.f64.format.read x <;> rfl
theorem order_same {x y x' y' : Nat} (hx : FSame x x') (hy : FSame y y') : FloatKind.f64.format.order x y = FloatKind.f64.format.order x' y' := by
  rcases hx with rfl | ⟨n1, n2⟩
  · rcases hy with rfl | ⟨n1, n2⟩
    · rfl
    · rw [order_nan_right x n1, order_nan_right x n2]
  · rw [order_nan_left y n1, order_nan_left y' n2]
/-- the document's test. -/
def tst (u v : Nat) (m : Int) : Bool := leB (evl (.op .mul (.num (sinV m)) (.num u))) (evl (.op .mul (.num (cosV m)) (.num v)))
theorem tst_is {u v : Nat} {m : Int} {l r : Nat} (hl : FOp .mul (sinV m) u l) (hr : FOp .mul (cosV m) v r) :
    (FloatKind.f64.format.order l r == some .lt || FloatKind.f64.format.order l r == some .eq) = tst u v m := by
  have h1 := Ev.same (.op (.num _) (.num _) hl) (ev_evl (.op .mul (.num (sinV m)) (.num u)))
  have h2 := Ev.same (.op (.num _) (.num _) hr) (ev_evl (.op .mul (.num (cosV m)) (.num v)))
  rw [order_same h1 h2]
  rfl

def bis (t : Int → Bool) : Nat → Int → Int → Int
  | 0, lo, _ => lo
  | n + 1, lo, hi => if 1 < hi - lo then (if t ((lo + hi) / 2) then bis t n ((lo + hi) / 2) hi else bis t n lo ((lo + hi) / 2)) else lo
/-- enough steps: more change nothing. -/
theorem bis_more (t : Int → Bool) : ∀ (n : Nat) (lo hi : Int), hi - lo ≤ (2 : Int) ^ n → bis t (n + 1) lo hi = bis t n lo hi := by
  intro n
  induction n with
  | zero =>
    intro lo hi h
    simp only [bis]
    rw [if_neg (by simp at h; omega)]
  | succ n ih =>
    intro lo hi h
    have e : (2 : Int) ^ (n + 1) = 2 ^ n * 2 := Int.pow_succ 2 n
    have a1 : bis t (n + 1 + 1) lo hi = if 1 < hi - lo then (if t ((lo + hi) / 2) then bis t (n + 1) ((lo + hi) / 2) hi else bis t (n + 1) lo ((lo + hi) / 2)) else lo := rfl
    have a2 : bis t (n + 1) lo hi = if 1 < hi - lo then (if t ((lo + hi) / 2) then bis t n ((lo + hi) / 2) hi else bis t n lo ((lo + hi) / 2)) else lo := rfl
    rw [a1, a2]
    split
    · rw [ih ((lo + hi) / 2) hi (by omega), ih lo ((lo + hi) / 2) (by omega)]
    · rfl
/-- where it ends. -/
theorem bis_end (t : Int → Bool) : ∀ (n : Nat) (lo hi : Int), lo < hi → hi - lo ≤ (2 : Int) ^ n →
    lo ≤ bis t n lo hi ∧ bis t n lo hi < hi ∧ (bis t n lo hi = lo ∨ t (bis t n lo hi) = true) ∧ (bis t n lo hi + 1 = hi ∨ t (bis t n lo hi + 1) = false) := by
  intro n
  induction n with
  | zero => intro lo hi h1 h2; simp at h2; simp only [bis]; exact ⟨by omega, by omega, .inl trivial, .inl (by omega)⟩
  | succ n ih =>
    intro lo hi h1 h2
    have e : (2 : Int) ^ (n + 1) = 2 ^ n * 2 := Int.pow_succ 2 n
    rw [bis]
    split
    · rename_i hgt
      by_cases ht : t ((lo + hi) / 2) = true
      · rw [if_pos ht]
        obtain ⟨a, b, c, d⟩ := ih ((lo + hi) / 2) hi (by omega) (by omega)
        exact ⟨by omega, b, .inr (c.elim (fun h => by rw [h]; exact ht) id), d⟩
      · rw [if_neg ht]
        obtain ⟨a, b, c, d⟩ := ih lo ((lo + hi) / 2) (by omega) (by omega)
        exact ⟨a, by omega, c, .inr (d.elim (fun h => by rw [h]; simpa using ht) id)⟩
    · exact ⟨by omega, by omega, .inl rfl, .inl (by omega)⟩
end Go.Proofs.YtngdemhhcablmakDoor
