/-
  Kepler's equation, as it is reckoned: found by halving; its root is enclosed. No program here.
-/
import Derived.Test.YtfamndjiaebmbafDoorLip2
namespace Go.Proofs.YtfamndjiaebmbafDoor
open Go

def kE (e : Nat) (m k : Int) : FE := .op .sub (.op .sub (xE k) (.op .mul (.num e) (.num (sinV k)))) (xE (nrm m))
def kepT (m : Int) (e : Nat) (k : Int) : Bool := leB (evl (kE e m k)) 0
def kepV (m : Int) (e : Nat) : Int := bis (kepT m e) 41 0 1296000000000
theorem kepV_range (m : Int) (e : Nat) : 0 ≤ kepV m e ∧ kepV m e < 1296000000000 := by
  obtain ⟨a, b, _⟩ := bis_end (kepT m e) 41 0 1296000000000 (by omega) (by decide)
  exact ⟨a, b⟩
def kerr : Rat := p2 (41 - 54) * rho + p2 (3 - 54)
theorem int_bd2 (r : Int) (h1 : r ≤ 1296000000000) (h2 : 0 ≤ r) : Bd (.num (floatOfInt .f64 r)) (r : Rat) (p2 (41 - 54)) := by
  have hv := abs_val r 0 (decide (r < 0)) (.inl rfl)
  have e0 : p2 0 = 1 := by decide
  have hl : (1296000000000 : Rat) < p2 41 := by decide +kernel
  have g1 : (r : Rat) ≤ ((1296000000000 : Int) : Rat) := Rat.intCast_le_intCast.2 h1
  have g2 : ((0 : Int) : Rat) ≤ (r : Rat) := Rat.intCast_le_intCast.2 h2
  have c1 : ((1296000000000 : Int) : Rat) = 1296000000000 := rfl
  have c2 : ((0 : Int) : Rat) = 0 := rfl
  rw [c1] at g1
  rw [c2] at g2
  have hr : sgn (decide (r < 0)) ((r.natAbs : Rat) * p2 0) = (r : Rat) := by rw [hv, e0]; grind
  obtain ⟨v, v1, v2⟩ := round_near (decide (r < 0)) r.natAbs 0 41 (by rw [hr]; grind) (by rw [hr]; grind) (by omega) (by omega)
  rw [hr] at v2
  exact Bd.num v1 v2
theorem k_fits : 1296000000000 * rho + (p2 (41 - 54) * rho + 1296000000000 * 0 + p2 (41 - 54) * 0) < p2 3 ∧ 1296000000000 * rho + kerr ≤ 6284 / 1000 ∧ 0 ≤ rho ∧ 0 ≤ kerr ∧ kerr ≤ 11 / 10000000000000000 := by decide +kernel
theorem turn_near (r : Int) (h1 : r ≤ 1296000000000) (h2 : 0 ≤ r) {x : Nat} (hx : Ev (xE r) x) : ∃ X, Is x X ∧ Near X ((r : Rat) * rho) kerr ∧ X ≤ 6284 / 1000 ∧ -kerr ≤ X ∧ 0 ≤ (r : Rat) * rho := by
  obtain ⟨f1, f2, f3, f4, f5⟩ := k_fits
  have g1 : (r : Rat) ≤ ((1296000000000 : Int) : Rat) := Rat.intCast_le_intCast.2 h1
  have g2 : ((0 : Int) : Rat) ≤ (r : Rat) := Rat.intCast_le_intCast.2 h2
  have c1 : ((1296000000000 : Int) : Rat) = 1296000000000 := rfl
  have c2 : ((0 : Int) : Rat) = 0 := rfl
  rw [c1] at g1
  rw [c2] at g2
  obtain ⟨X, x1, x2, x3⟩ := Bd.mul (int_bd2 r h1 h2) (Bd.num rho_is (near_zero rho Rat.le_refl)) 1296000000000 rho g1 (by grind) Rat.le_refl (by grind) 3 (by omega) (by omega) f1 x hx
  have hp := prod_abs g1 (show -(1296000000000 : Rat) ≤ (r : Rat) by grind) (Rat.le_refl (a := rho)) (by grind)
  have hn := Rat.mul_nonneg g2 f3
  have he : p2 (41 - 54) * rho + 1296000000000 * 0 + p2 (41 - 54) * 0 + p2 (3 - 54) = kerr := by unfold kerr; grind
  rw [he] at x2 x3
  exact ⟨X, x1, ⟨x2, x3⟩, by grind, by grind, hn⟩
def theta : Rat := kerr + p2 (1 - 54) + p2 (3 - 54) + p2 (3 - 54)
theorem sin_some (k : Int) : ∃ s, Is (sinV k) s ∧ s ≤ 1001 / 1000 ∧ -(1001 / 1000) ≤ s := by
  obtain ⟨_, _, s, c, h1, h2, h3, h4, h5, h6, h7, h8, h9⟩ := point (rOf k) (by have := rOf_range k; omega) (rOf_range k).1 (ev_evl (sE (rOf k))) (ev_evl (cE (rOf k)))
  have hs : sinV k = turnS (qOf k) (evl (sE (rOf k))) (evl (cE (rOf k))) := rfl
  have f : Es ≤ 1 / 10000 ∧ Eo 0 ≤ 1 / 10000 ∧ eta ≤ 1 / 10000 := by decide +kernel
  obtain ⟨f1, f2, f3⟩ := f
  have e := turnS_is (qOf k) h1 h2
  rw [← hs] at e
  refine ⟨_, e, ?_⟩
  unfold Near at h3 h4
  split
  · grind
  · split
    · grind
    · split
      · grind
      · grind
/-- the equation's left side, as it is reckoned. -/
theorem k_near {e : Nat} {v s M : Rat} {m k : Int} (ie : Is e v) (v1 : 0 ≤ v) (v2 : v ≤ 1) (k1 : k ≤ 1296000000000) (k0 : 0 ≤ k) (is : Is (sinV k) s) (iM : Is (evl (xE (nrm m))) M) {r : Nat} (hr : Ev (kE e m k) r) :
    ∃ F, Is r F ∧ Near F ((k : Rat) * rho - v * s - M) theta := by
  obtain ⟨f1, f2, f3, f4, f5⟩ := k_fits
  have hm := nrm_range m
  obtain ⟨s', is', s1, s2⟩ := sin_some k
  rw [is_unique is' is] at s1 s2
  have g : p2 1 = 2 ∧ p2 3 = 8 ∧ p2 (1 - 54) ≤ 1 / 1000 ∧ p2 (3 - 54) ≤ 1 / 1000 := by decide +kernel
  obtain ⟨g1, g2, g3, g4⟩ := g
  cases hr with
  | op a b c =>
    cases a with
    | op a1 a2 a3 =>
      obtain ⟨X, iX, nX, X1, X2, X3⟩ := turn_near k k1 k0 a1
      obtain ⟨Y, iY, nY, Y1, Y2, Y3⟩ := turn_near (nrm m) (by omega) (by omega) b
      obtain ⟨M', iM', _, _, _, _⟩ := turn_near (nrm m) (by omega) (by omega) (ev_evl (xE (nrm m)))
      have eY : Y = M := by
        rcases b.same (ev_evl (xE (nrm m))) with h | ⟨h, _⟩
        · rw [h] at iY
          exact is_unique iY iM
        · exfalso
          obtain ⟨_, _, _, e1, _⟩ := is_number iY
          unfold Nan at h
          rw [e1] at h
          cases h
      rw [eY] at iY Y1 Y2
      cases a2 with
      | op b1 b2 b3 =>
        cases b1
        cases b2
        have hp := prod_abs (a := v) (A := 1) (b := s) (B := 1001 / 1000) v2 (by grind) s1 s2
        obtain ⟨p, ip, np⟩ := mul_near ie is 1 (by omega) (by omega) (by grind) (by grind) b3
        unfold Near at np nX
        obtain ⟨q, iq, nq⟩ := sub_near iX ip 3 (by omega) (by omega) (by grind) (by grind) a3
        unfold Near at nq
        obtain ⟨F, iF, nF⟩ := sub_near iq iY 3 (by omega) (by omega) (by grind) (by grind) c
        unfold Near at nF
        refine ⟨F, iF, ?_⟩
        unfold Near theta
        grind
theorem zero_i : Is 0 0 := by unfold Is; decide +kernel
theorem le_spec {x : Nat} {v : Rat} (h : Is x v) : leB x 0 = true ↔ v ≤ 0 := by
  unfold leB
  rw [order_is h zero_i]
  by_cases h1 : v < 0
  · rw [if_pos h1]
    exact ⟨fun _ => by grind, fun _ => rfl⟩
  · rw [if_neg h1]
    by_cases h2 : v = 0
    · rw [if_pos h2]
      exact ⟨fun _ => by grind, fun _ => rfl⟩
    · rw [if_neg h2]
      constructor
      · intro h
        cases h
      · intro h
        grind
theorem sin_0 : Is (sinV 0) 0 := by unfold Is; decide +kernel
theorem sin_T : Is (sinV (1295999999999 + 1)) 0 := by unfold Is; decide +kernel
theorem enc_fits : theta + kerr ≤ 8 / 1000000000000000 ∧ lipE + 2 * theta ≤ 8 / 1000000000000000 ∧ lipE + theta + kerr ≤ 8 / 1000000000000000 ∧ 0 ≤ rho ∧ 0 ≤ theta ∧ 0 ≤ kerr ∧ 0 ≤ lipE := by decide +kernel
/-- a root is enclosed. -/
theorem enclosed {e : Nat} {v : Rat} (m : Int) (ie : Is e v) (v1 : 0 ≤ v) (v2 : v ≤ 1) {r : Nat} (hr : Ev (kE e m (kepV m e)) r) : ∃ F, Is r F ∧ F ≤ 8 / 1000000000000000 ∧ -2 * rho - 8 / 1000000000000000 ≤ F := by
  obtain ⟨f1, f2, f3, f4, f5, f6, f7⟩ := enc_fits
  have hm := nrm_range m
  obtain ⟨x0, x1, hlo, hhi⟩ := bis_end (kepT m e) 41 0 1296000000000 (by omega) (by decide)
  have hxv : bis (kepT m e) 41 0 1296000000000 = kepV m e := rfl
  rw [hxv] at x0 x1 hlo hhi
  generalize kepV m e = x at *
  obtain ⟨M, iM, nM, M1, M2, M3⟩ := turn_near (nrm m) (by omega) (by omega) (ev_evl (xE (nrm m)))
  unfold Near at nM
  obtain ⟨s, s', is, is', ns⟩ := sin_next x
  obtain ⟨F, iF, nF⟩ := k_near (m := m) ie v1 v2 (by omega) x0 is iM hr
  unfold Near at nF ns
  have hT : ∀ k : Int, 0 ≤ k → k ≤ 1296000000000 → ∀ {G : Rat}, Is (evl (kE e m k)) G → (kepT m e k = true ↔ G ≤ 0) := fun k _ _ G hG => le_spec hG
  refine ⟨F, iF, ?_, ?_⟩
  · rcases hlo with h | h
    · subst h
      have e0 : ((0 : Int) : Rat) = 0 := rfl
      have es := is_unique is sin_0
      rw [e0, es] at nF
      grind
    · have iE : Is (evl (kE e m x)) F := by
        rcases hr.same (ev_evl (kE e m x)) with h' | ⟨h', _⟩
        · rw [← h']
          exact iF
        · exfalso
          obtain ⟨_, _, _, e1, _⟩ := is_number iF
          unfold Nan at h'
          rw [e1] at h'
          cases h'
      have := (hT x x0 (by omega) iE).1 h
      grind
  · have pv := Rat.mul_nonneg v1 (show 0 ≤ (rho + lipE) - (s - s') by grind)
    have pv2 := Rat.mul_nonneg (show 0 ≤ 1 - v by grind) (show 0 ≤ rho + lipE by grind)
    rcases hhi with h | h
    · obtain rfl : x = 1295999999999 := by omega
      have es := is_unique is' sin_T
      rw [es] at pv
      have g1 : ((nrm m : Int) : Rat) ≤ ((1295999999999 : Int) : Rat) := Rat.intCast_le_intCast.2 (by omega)
      have pr := Rat.mul_nonneg (show 0 ≤ ((1295999999999 : Int) : Rat) - ((nrm m : Int) : Rat) by grind) f4
      generalize ((1295999999999 : Int) : Rat) = N at *
      generalize ((nrm m : Int) : Rat) = n at *
      grind
    · obtain ⟨G, iG, nG⟩ := k_near (m := m) ie v1 v2 (by omega) (by omega) is' iM (ev_evl (kE e m (x + 1)))
      have hG : ¬ G ≤ 0 := fun hle => by
        have := (hT (x + 1) (by omega) (by omega) iG).2 hle
        rw [this] at h
        cases h
      unfold Near at nG
      have ec : ((x + 1 : Int) : Rat) = (x : Rat) + 1 := by rw [Rat.intCast_add]; rfl
      rw [ec] at nG
      have ex : ((x : Rat) + 1) * rho = (x : Rat) * rho + rho := by grind
      rw [ex] at nG
      generalize (x : Rat) * rho = t at *
      grind
end Go.Proofs.YtfamndjiaebmbafDoor
