/-
  How far a share of a spot's light reaches. Nothing of the program. How far a pixel's middle lies from a star: the document's, by contract.
-/
import Derived.Test.YtmgnobeaacjdjajDoorSpKA
namespace Go.Proofs.YtmgnobeaacjdjajDoor

def sumN (f : Nat → Int) : Nat → Int
  | 0 => 0
  | n + 1 => sumN f n + f n
theorem sumN_le {f g : Nat → Int} : ∀ {n : Nat}, (∀ i, i < n → f i ≤ g i) → sumN f n ≤ sumN g n
  | 0, _ => Int.le_refl _
  | n + 1, h => by
    have h1 := sumN_le (n := n) (fun i hi => h i (by omega))
    have h2 := h n (by omega)
    unfold sumN
    omega
theorem sumN_eq {f g : Nat → Int} : ∀ {n : Nat}, (∀ i, i < n → f i = g i) → sumN f n = sumN g n
  | 0, _ => rfl
  | n + 1, h => by
    unfold sumN
    rw [sumN_eq (n := n) (fun i hi => h i (by omega)), h n (by omega)]
theorem sumN_range {f : Nat → Int} {B : Int} : ∀ {n : Nat}, (∀ i, i < n → 0 ≤ f i ∧ f i ≤ B) → 0 ≤ sumN f n ∧ sumN f n ≤ B * (n : Int)
  | 0, _ => ⟨Int.le_refl _, by simp [sumN]⟩
  | n + 1, h => by
    have h1 := sumN_range (n := n) (fun i hi => h i (by omega))
    have h2 := h n (by omega)
    have e : B * ((n + 1 : Nat) : Int) = B * (n : Int) + B := by rw [show ((n + 1 : Nat) : Int) = (n : Int) + 1 by omega, Int.mul_add, Int.mul_one]
    unfold sumN
    omega
/-- from a pixel's middle to a star, squared. -/
def distV (s : Sta) (x y : Int) : Int := (1024 * x + 512 - s.x) * (1024 * x + 512 - s.x) + (1024 * y + 512 - s.y) * (1024 * y + 512 - s.y)
theorem dist_nat (s : Sta) (x y : Int) : 0 ≤ distV s x y := by
  unfold distV
  have h1 : ∀ a : Int, 0 ≤ a * a := fun a => by
    rcases Int.le_total 0 a with h | h
    · exact Int.mul_nonneg h h
    · exact Int.mul_nonneg_of_nonpos_of_nonpos h h
  have := h1 (1024 * x + 512 - s.x)
  have := h1 (1024 * y + 512 - s.y)
  omega
/-- a box's counts: x + u, y + v. -/
def cntV (p : Pic) (s : Sta) (u v : Nat) : Int := p.L.getD ((s.tp.toNat + v) * p.wide.toNat + (s.le.toNat + u)) 0
def dV (s : Sta) (u v : Nat) : Int := distV s (s.le + u) (s.tp + v)
def nW (s : Sta) : Nat := (s.ri - s.le + 1).toNat
def nH (s : Sta) : Nat := (s.lo - s.tp + 1).toNat
def allV (p : Pic) (s : Sta) : Int := sumN (fun v => sumN (fun u => cntV p s u v) (nW s)) (nH s)
def inV (p : Pic) (s : Sta) (r : Int) (u v : Nat) : Int := if dV s u v ≤ r then cntV p s u v else 0
def sumV2 (p : Pic) (s : Sta) (r : Int) : Int := sumN (fun v => sumN (fun u => inV p s r u v) (nW s)) (nH s)
def okR (p : Pic) (s : Sta) (part r : Int) : Prop := part * allV p s ≤ 100 * sumV2 p s r
/-- the least distance of a pixel within which so much light lies. -/
structure IsReach (p : Pic) (s : Sta) (part r : Int) : Prop where
  is : ∃ u v, u < nW s ∧ v < nH s ∧ r = dV s u v
  ok : okR p s part r
  all : ∀ u v, u < nW s → v < nH s → okR p s part (dV s u v) → r ≤ dV s u v
theorem reach_one {p : Pic} {s : Sta} {part a b : Int} (h : IsReach p s part a) (g : IsReach p s part b) : a = b := by
  obtain ⟨u, v, hu, hv, e⟩ := h.is
  obtain ⟨u', v', hu', hv', e'⟩ := g.is
  have h1 := h.all u' v' hu' hv' (by rw [← e']; exact g.ok)
  have h2 := g.all u v hu hv (by rw [← e]; exact h.ok)
  omega
/-- the best so far. -/
structure RBest (p : Pic) (s : Sta) (part : Int) (a c : Nat) (best : Int) : Prop where
  is : best = -1 ∨ (0 ≤ best ∧ okR p s part best ∧ ∃ u v, u < nW s ∧ v < nH s ∧ best = dV s u v)
  all : ∀ u v, (v < a ∨ (v = a ∧ u < c)) → u < nW s → v < nH s → okR p s part (dV s u v) → 0 ≤ best ∧ best ≤ dV s u v
theorem rbest0 (p : Pic) (s : Sta) (part : Int) : RBest p s part 0 0 (-1) := ⟨.inl rfl, fun u v h => by omega⟩
theorem RBest.row {p : Pic} {s : Sta} {part best : Int} {a : Nat} (h : RBest p s part a (nW s) best) : RBest p s part (a + 1) 0 best :=
  ⟨h.is, fun u v q hu hv k => h.all u v (by omega) hu hv k⟩
theorem RBest.low {p : Pic} {s : Sta} {part best : Int} {a c : Nat} (h : RBest p s part a c best) : -1 ≤ best := by
  rcases h.is with e | ⟨e, _⟩ <;> omega
theorem RBest.skip {p : Pic} {s : Sta} {part best : Int} {a c : Nat} (h : RBest p s part a c best) (no : 0 ≤ best ∧ best ≤ dV s c a ∨ ¬ okR p s part (dV s c a)) : RBest p s part a (c + 1) best :=
  ⟨h.is, fun u v q hu hv k => by
    by_cases e : v = a ∧ u = c
    · obtain ⟨rfl, rfl⟩ := e
      rcases no with no | no
      · exact no
      · exact absurd k no
    · exact h.all u v (by omega) hu hv k⟩
theorem RBest.take {p : Pic} {s : Sta} {part best : Int} {a c : Nat} (h : RBest p s part a c best) (hu : c < nW s) (hv : a < nH s) (lt : ¬ (0 ≤ best ∧ best ≤ dV s c a)) (ok : okR p s part (dV s c a)) : RBest p s part a (c + 1) (dV s c a) :=
  ⟨.inr ⟨dist_nat _ _ _, ok, c, a, hu, hv, rfl⟩, fun u v q hu hv k => by
    refine ⟨dist_nat _ _ _, ?_⟩
    by_cases e : v = a ∧ u = c
    · obtain ⟨rfl, rfl⟩ := e
      exact Int.le_refl _
    · have := h.all u v (by omega) hu hv k
      omega⟩
/-- the farthest pixel's circle holds all. -/
theorem far_has (s : Sta) (hw : 0 < nW s) : ∀ m, 0 < m → ∃ u v, u < nW s ∧ v < m ∧ ∀ u' v', u' < nW s → v' < m → dV s u' v' ≤ dV s u v := by
  have row : ∀ v n, 0 < n → ∃ u, u < n ∧ ∀ u', u' < n → dV s u' v ≤ dV s u v := by
    intro v n
    induction n with
    | zero => intro h; omega
    | succ n ih =>
      intro _
      by_cases hn : n = 0
      · subst hn
        exact ⟨0, by omega, fun u' hu' => by obtain rfl : u' = 0 := by omega
                                             exact Int.le_refl _⟩
      · obtain ⟨u, hu, h⟩ := ih (by omega)
        by_cases c : dV s u v ≤ dV s n v
        · refine ⟨n, by omega, fun u' hu' => ?_⟩
          by_cases e : u' = n
          · rw [e]; exact Int.le_refl _
          · have := h u' (by omega)
            omega
        · refine ⟨u, by omega, fun u' hu' => ?_⟩
          by_cases e : u' = n
          · rw [e]; omega
          · exact h u' (by omega)
  intro m
  induction m with
  | zero => intro h; omega
  | succ m ih =>
    intro _
    obtain ⟨u1, hu1, h1⟩ := row m (nW s) hw
    by_cases hm : m = 0
    · subst hm
      exact ⟨u1, 0, hu1, by omega, fun u' v' hu' hv' => by obtain rfl : v' = 0 := by omega
                                                           exact h1 u' hu'⟩
    · obtain ⟨u, v, hu, hv, h⟩ := ih (by omega)
      by_cases c : dV s u v ≤ dV s u1 m
      · refine ⟨u1, m, hu1, by omega, fun u' v' hu' hv' => ?_⟩
        by_cases e : v' = m
        · subst e; exact h1 u' hu'
        · have := h u' v' hu' (by omega)
          omega
      · refine ⟨u, v, hu, by omega, fun u' v' hu' hv' => ?_⟩
        by_cases e : v' = m
        · subst e
          have := h1 u' hu'
          omega
        · exact h u' v' hu' (by omega)
theorem RBest.done {p : Pic} {s : Sta} {part best : Int} (h : RBest p s part (nH s) 0 best) (hw : 0 < nW s) (hh : 0 < nH s) (h0 : 0 ≤ allV p s) (hp : part ≤ 100) : IsReach p s part best := by
  obtain ⟨u, v, hu, hv, hm⟩ := far_has s hw (nH s) hh
  have e : sumV2 p s (dV s u v) = allV p s := sumN_eq (fun v' hv' => sumN_eq (fun u' hu' => by
    unfold inV
    rw [if_pos (hm u' v' hu' hv')]))
  have ok : okR p s part (dV s u v) := by
    unfold okR
    rw [e]
    exact Int.mul_le_mul_of_nonneg_right hp h0
  have hb := (h.all u v (by omega) hu hv ok).1
  rcases h.is with q | ⟨_, q1, q2⟩
  · omega
  · exact ⟨q2, q1, fun u v hu hv k => (h.all u v (by omega) hu hv k).2⟩
end Go.Proofs.YtmgnobeaacjdjajDoor
namespace Go.Proofs.YtmgnobeaacjdjajDoor
open Go Go.RowKit

def farB (n : Int) : Bool := decide (268435456 < n ∨ n < -268435456)
set_option maxRecDepth 100000 in
theorem far_any (n : Int) (w : World) : Calls Tryd.prog 30 #[.int .i64 n] w fun e w' => e = .returned (.bool (farB n)) ∧ w' = w := by
  by_cases h1 : 268435456 < n
  · have t1 : decide (268435456 < n) = true := decide_eq_true h1
    have e : farB n = true := decide_eq_true (.inl h1)
    rw [e]
    go_enter Tryd.func30, Tryd.ntmps30
    go_wp2
    go_ret
    exact ⟨rfl, rfl⟩
  · have t1 : decide (268435456 < n) = false := decide_eq_false h1
    by_cases h2 : n < -268435456
    · have t2 : decide (n < -268435456) = true := decide_eq_true h2
      have e : farB n = true := decide_eq_true (.inr h2)
      rw [e]
      go_enter Tryd.func30, Tryd.ntmps30
      go_wp2
      go_ret
      exact ⟨rfl, rfl⟩
    · have t2 : decide (n < -268435456) = false := decide_eq_false h2
      have e : farB n = false := decide_eq_false (by omega)
      rw [e]
      go_enter Tryd.func30, Tryd.ntmps30
      go_wp2
      go_ret
      exact ⟨rfl, rfl⟩
theorem sq_in {a : Int} (h : -536870912 ≤ a) (g : a ≤ 536870912) : 0 ≤ a * a ∧ a * a ≤ 288230376151711744 := by
  rcases Int.le_total 0 a with q | q
  · exact ⟨Int.mul_nonneg q q, by have := Int.mul_le_mul g g q (by omega); omega⟩
  · refine ⟨Int.mul_nonneg_of_nonpos_of_nonpos q q, ?_⟩
    have h2 := Int.mul_le_mul (show -a ≤ 536870912 by omega) (show -a ≤ 536870912 by omega) (by omega) (by omega)
    rw [Int.neg_mul_neg] at h2
    omega
theorem three_star {w : World} {b : Nat} {x y z : Int} (h : w.heap[b]? = some (.cells #[.int .i64 x, .int .i64 y, .int .i64 z] 35)) : w.cell? ⟨b, 0, none⟩ = some (.int .i64 x) ∧ w.cell? ⟨b, 1, none⟩ = some (.int .i64 y) :=
  ⟨(cells_at h 0 (by simp)).1, (cells_at h 1 (by simp)).1⟩
set_option maxRecDepth 100000 in
set_option maxHeartbeats 1600000 in
theorem middle_any (s : Sta) (x y : Int) (w : World) (hx0 : 0 ≤ x) (hx1 : x ≤ 1000) (hy0 : 0 ≤ y) (hy1 : y ≤ 1000) (fx : farB s.x = false) (fy : farB s.y = false) :
    Calls Tryd.prog 31 #[.int .i64 x, .int .i64 y, .agg #[.int .i64 s.x, .int .i64 s.y, .int .i64 s.lt]] w fun e w' => e = .returned (.int .i64 (distV s x y)) ∧ Below w.heap.size w w' := by
  have f1 := of_decide_eq_false fx
  have f2 := of_decide_eq_false fy
  obtain ⟨a, ha⟩ : ∃ a, 1024 * x + 512 - s.x = a := ⟨_, rfl⟩
  obtain ⟨b, hb⟩ : ∃ b, 1024 * y + 512 - s.y = b := ⟨_, rfl⟩
  have hs1 := sq_in (a := a) (by omega) (by omega)
  have hs2 := sq_in (a := b) (by omega) (by omega)
  have wx1 : IntKind.i64.wrap (1024 * x) = 1024 * x := iwrap (by omega) (by omega)
  have wx2 : IntKind.i64.wrap (1024 * x + 512) = 1024 * x + 512 := iwrap (by omega) (by omega)
  have wx3 : IntKind.i64.wrap (1024 * x + 512 - s.x) = a := by rw [ha]; exact iwrap (by omega) (by omega)
  have wy1 : IntKind.i64.wrap (1024 * y) = 1024 * y := iwrap (by omega) (by omega)
  have wy2 : IntKind.i64.wrap (1024 * y + 512) = 1024 * y + 512 := iwrap (by omega) (by omega)
  have wy3 : IntKind.i64.wrap (1024 * y + 512 - s.y) = b := by rw [hb]; exact iwrap (by omega) (by omega)
  have hd : distV s x y = a * a + b * b := by unfold distV; rw [ha, hb]
  rw [hd]
  generalize hA : a * a = A at *
  generalize hB : b * b = B at *
  have wA : IntKind.i64.wrap (a * a) = A := by rw [hA]; exact iwrap (by omega) (by omega)
  have wB : IntKind.i64.wrap (b * b) = B := by rw [hB]; exact iwrap (by omega) (by omega)
  have wAB : IntKind.i64.wrap (A + B) = A + B := iwrap (by omega) (by omega)
  have hc := three_star (alloc_last w (.cells #[.int .i64 s.x, .int .i64 s.y, .int .i64 s.lt] 35))
  obtain ⟨c0, c1⟩ := hc
  have HB := hideR (below_a w (.cells #[.int .i64 s.x, .int .i64 s.y, .int .i64 s.lt] 35))
  clear hA hB ha hb fx fy f1 f2 hd
  go_enter Tryd.func31, Tryd.ntmps31
  go_wp2
  go_ret
  exact ⟨rfl, unhideR HB⟩
end Go.Proofs.YtmgnobeaacjdjajDoor
