/-
  How far a share of a spot's light reaches. Nothing of the program. How far a pixel's middle lies from a star: the document's, by contract. How far a share of a spot's light reaches, by its pixels in order. Nothing of the program. Rows of pixels in memory.
-/
import Derived.Test.YtmgnobeaacjdjajGreatDoorSpKA
import Derived.OwnWalk
import Derived.Laws.Entries
import Derived.Laws.NewBlocks
namespace Go.Proofs.YtmgnobeaacjdjajGreatDoor

def sumN (f : Nat → Int) : Nat → Int
  | 0 => 0
  | n + 1 => sumN f n + f n
theorem sumN_le {f g : Nat → Int} : ∀ {n : Nat}, (∀ i, i < n → f i ≤ g i) → sumN f n ≤ sumN g n
  | 0, _ => Int.le_refl _
  | n + 1, h => by
    have h1 := sumN_le (n := n) (fun i hi => h i (by omega))
    have h2 := h n (by omega)
    unfold sumN
    omega
theorem sumN_eq {f g : Nat → Int} : ∀ {n : Nat}, (∀ i, i < n → f i = g i) → sumN f n = sumN g n
  | 0, _ => rfl
  | n + 1, h => by
    unfold sumN
    rw [sumN_eq (n := n) (fun i hi => h i (by omega)), h n (by omega)]
theorem sumN_range {f : Nat → Int} {B : Int} : ∀ {n : Nat}, (∀ i, i < n → 0 ≤ f i ∧ f i ≤ B) → 0 ≤ sumN f n ∧ sumN f n ≤ B * (n : Int)
  | 0, _ => ⟨Int.le_refl _, by simp [sumN]⟩
  | n + 1, h => by
    have h1 := sumN_range (n := n) (fun i hi => h i (by omega))
    have h2 := h n (by omega)
    have e : B * ((n + 1 : Nat) : Int) = B * (n : Int) + B := by rw [show ((n + 1 : Nat) : Int) = (n : Int) + 1 by omega, Int.mul_add, Int.mul_one]
    unfold sumN
    omega
/-- from a pixel's middle to a star, squared. -/
def distV (s : Sta) (x y : Int) : Int := (1024 * x + 512 - s.x) * (1024 * x + 512 - s.x) + (1024 * y + 512 - s.y) * (1024 * y + 512 - s.y)
theorem dist_nat (s : Sta) (x y : Int) : 0 ≤ distV s x y := by
  unfold distV
  have h1 : ∀ a : Int, 0 ≤ a * a := fun a => by
    rcases Int.le_total 0 a with h | h
    · exact Int.mul_nonneg h h
    · exact Int.mul_nonneg_of_nonpos_of_nonpos h h
  have := h1 (1024 * x + 512 - s.x)
  have := h1 (1024 * y + 512 - s.y)
  omega
/-- a box's counts: x + u, y + v. -/
def cntV (p : Pic) (s : Sta) (u v : Nat) : Int := p.L.getD ((s.tp.toNat + v) * p.wide.toNat + (s.le.toNat + u)) 0
def dV (s : Sta) (u v : Nat) : Int := distV s (s.le + u) (s.tp + v)
def nW (s : Sta) : Nat := (s.ri - s.le + 1).toNat
def nH (s : Sta) : Nat := (s.lo - s.tp + 1).toNat
def allV (p : Pic) (s : Sta) : Int := sumN (fun v => sumN (fun u => cntV p s u v) (nW s)) (nH s)
def inV (p : Pic) (s : Sta) (r : Int) (u v : Nat) : Int := if dV s u v ≤ r then cntV p s u v else 0
def sumV2 (p : Pic) (s : Sta) (r : Int) : Int := sumN (fun v => sumN (fun u => inV p s r u v) (nW s)) (nH s)
def okR (p : Pic) (s : Sta) (part r : Int) : Prop := part * allV p s ≤ 100 * sumV2 p s r
/-- the least distance of a pixel within which so much light lies. -/
structure IsReach (p : Pic) (s : Sta) (part r : Int) : Prop where
  is : ∃ u v, u < nW s ∧ v < nH s ∧ r = dV s u v
  ok : okR p s part r
  all : ∀ u v, u < nW s → v < nH s → okR p s part (dV s u v) → r ≤ dV s u v
theorem reach_one {p : Pic} {s : Sta} {part a b : Int} (h : IsReach p s part a) (g : IsReach p s part b) : a = b := by
  obtain ⟨u, v, hu, hv, e⟩ := h.is
  obtain ⟨u', v', hu', hv', e'⟩ := g.is
  have h1 := h.all u' v' hu' hv' (by rw [← e']; exact g.ok)
  have h2 := g.all u v hu hv (by rw [← e]; exact h.ok)
  omega
/-- the best so far. -/
structure RBest (p : Pic) (s : Sta) (part : Int) (a c : Nat) (best : Int) : Prop where
  is : best = -1 ∨ (0 ≤ best ∧ okR p s part best ∧ ∃ u v, u < nW s ∧ v < nH s ∧ best = dV s u v)
  all : ∀ u v, (v < a ∨ (v = a ∧ u < c)) → u < nW s → v < nH s → okR p s part (dV s u v) → 0 ≤ best ∧ best ≤ dV s u v
theorem rbest0 (p : Pic) (s : Sta) (part : Int) : RBest p s part 0 0 (-1) := ⟨.inl rfl, fun u v h => by omega⟩
theorem RBest.row {p : Pic} {s : Sta} {part best : Int} {a : Nat} (h : RBest p s part a (nW s) best) : RBest p s part (a + 1) 0 best :=
  ⟨h.is, fun u v q hu hv k => h.all u v (by omega) hu hv k⟩
theorem RBest.low {p : Pic} {s : Sta} {part best : Int} {a c : Nat} (h : RBest p s part a c best) : -1 ≤ best := by
  rcases h.is with e | ⟨e, _⟩ <;> omega
theorem RBest.skip {p : Pic} {s : Sta} {part best : Int} {a c : Nat} (h : RBest p s part a c best) (no : 0 ≤ best ∧ best ≤ dV s c a ∨ ¬ okR p s part (dV s c a)) : RBest p s part a (c + 1) best :=
  ⟨h.is, fun u v q hu hv k => by
    by_cases e : v = a ∧ u = c
    · obtain ⟨rfl, rfl⟩ := e
      rcases no with no | no
      · exact no
      · exact absurd k no
    · exact h.all u v (by omega) hu hv k⟩
theorem RBest.take {p : Pic} {s : Sta} {part best : Int} {a c : Nat} (h : RBest p s part a c best) (hu : c < nW s) (hv : a < nH s) (lt : ¬ (0 ≤ best ∧ best ≤ dV s c a)) (ok : okR p s part (dV s c a)) : RBest p s part a (c + 1) (dV s c a) :=
  ⟨.inr ⟨dist_nat _ _ _, ok, c, a, hu, hv, rfl⟩, fun u v q hu hv k => by
    refine ⟨dist_nat _ _ _, ?_⟩
    by_cases e : v = a ∧ u = c
    · obtain ⟨rfl, rfl⟩ := e
      exact Int.le_refl _
    · have := h.all u v (by omega) hu hv k
      omega⟩
/-- the farthest pixel's circle holds all. -/
theorem far_has (s : Sta) (hw : 0 < nW s) : ∀ m, 0 < m → ∃ u v, u < nW s ∧ v < m ∧ ∀ u' v', u' < nW s → v' < m → dV s u' v' ≤ dV s u v := by
  have row : ∀ v n, 0 < n → ∃ u, u < n ∧ ∀ u', u' < n → dV s u' v ≤ dV s u v := by
    intro v n
    induction n with
    | zero => intro h; omega
    | succ n ih =>
      intro _
      by_cases hn : n = 0
      · subst hn
        exact ⟨0, by omega, fun u' hu' => by obtain rfl : u' = 0 := by omega
                                             exact Int.le_refl _⟩
      · obtain ⟨u, hu, h⟩ := ih (by omega)
        by_cases c : dV s u v ≤ dV s n v
        · refine ⟨n, by omega, fun u' hu' => ?_⟩
          by_cases e : u' = n
          · rw [e]; exact Int.le_refl _
          · have := h u' (by omega)
            omega
        · refine ⟨u, by omega, fun u' hu' => ?_⟩
          by_cases e : u' = n
          · rw [e]; omega
          · exact h u' (by omega)
  intro m
  induction m with
  | zero => intro h; omega
  | succ m ih =>
    intro _
    obtain ⟨u1, hu1, h1⟩ := row m (nW s) hw
    by_cases hm : m = 0
    · subst hm
      exact ⟨u1, 0, hu1, by omega, fun u' v' hu' hv' => by obtain rfl : v' = 0 := by omega
                                                           exact h1 u' hu'⟩
    · obtain ⟨u, v, hu, hv, h⟩ := ih (by omega)
      by_cases c : dV s u v ≤ dV s u1 m
      · refine ⟨u1, m, hu1, by omega, fun u' v' hu' hv' => ?_⟩
        by_cases e : v' = m
        · subst e; exact h1 u' hu'
        · have := h u' v' hu' (by omega)
          omega
      · refine ⟨u, v, hu, by omega, fun u' v' hu' hv' => ?_⟩
        by_cases e : v' = m
        · subst e
          have := h1 u' hu'
          omega
        · exact h u' v' hu' (by omega)
theorem RBest.done {p : Pic} {s : Sta} {part best : Int} (h : RBest p s part (nH s) 0 best) (hw : 0 < nW s) (hh : 0 < nH s) (h0 : 0 ≤ allV p s) (hp : part ≤ 100) : IsReach p s part best := by
  obtain ⟨u, v, hu, hv, hm⟩ := far_has s hw (nH s) hh
  have e : sumV2 p s (dV s u v) = allV p s := sumN_eq (fun v' hv' => sumN_eq (fun u' hu' => by
    unfold inV
    rw [if_pos (hm u' v' hu' hv')]))
  have ok : okR p s part (dV s u v) := by
    unfold okR
    rw [e]
    exact Int.mul_le_mul_of_nonneg_right hp h0
  have hb := (h.all u v (by omega) hu hv ok).1
  rcases h.is with q | ⟨_, q1, q2⟩
  · omega
  · exact ⟨q2, q1, fun u v hu hv k => (h.all u v (by omega) hu hv k).2⟩
end Go.Proofs.YtmgnobeaacjdjajGreatDoor
namespace Go.Proofs.YtmgnobeaacjdjajGreatDoor
open Go Go.RowKit

def farB (n : Int) : Bool := decide (268435456 < n ∨ n < -268435456)
set_option maxRecDepth 100000 in
theorem far_any (n : Int) (w : World) : Calls Tryz.prog 24 #[.int .i64 n] w fun e w' => e = .returned (.bool (farB n)) ∧ w' = w := by
  by_cases h1 : 268435456 < n
  · have t1 : decide (268435456 < n) = true := decide_eq_true h1
    have e : farB n = true := decide_eq_true (.inl h1)
    rw [e]
    go_enter Tryz.func24, Tryz.ntmps24
    go_wp2
    go_ret
    exact ⟨rfl, rfl⟩
  · have t1 : decide (268435456 < n) = false := decide_eq_false h1
    by_cases h2 : n < -268435456
    · have t2 : decide (n < -268435456) = true := decide_eq_true h2
      have e : farB n = true := decide_eq_true (.inr h2)
      rw [e]
      go_enter Tryz.func24, Tryz.ntmps24
      go_wp2
      go_ret
      exact ⟨rfl, rfl⟩
    · have t2 : decide (n < -268435456) = false := decide_eq_false h2
      have e : farB n = false := decide_eq_false (by omega)
      rw [e]
      go_enter Tryz.func24, Tryz.ntmps24
      go_wp2
      go_ret
      exact ⟨rfl, rfl⟩
theorem sq_in {a : Int} (h : -536870912 ≤ a) (g : a ≤ 536870912) : 0 ≤ a * a ∧ a * a ≤ 288230376151711744 := by
  rcases Int.le_total 0 a with q | q
  · exact ⟨Int.mul_nonneg q q, by have := Int.mul_le_mul g g q (by omega); omega⟩
  · refine ⟨Int.mul_nonneg_of_nonpos_of_nonpos q q, ?_⟩
    have h2 := Int.mul_le_mul (show -a ≤ 536870912 by omega) (show -a ≤ 536870912 by omega) (by omega) (by omega)
    rw [Int.neg_mul_neg] at h2
    omega
theorem three_star {w : World} {b : Nat} {x y z : Int} (h : w.heap[b]? = some (.cells #[.int .i64 x, .int .i64 y, .int .i64 z] 24)) : w.cell? ⟨b, 0, none⟩ = some (.int .i64 x) ∧ w.cell? ⟨b, 1, none⟩ = some (.int .i64 y) :=
  ⟨(cells_at h 0 (by simp)).1, (cells_at h 1 (by simp)).1⟩
set_option maxRecDepth 100000 in
set_option maxHeartbeats 1600000 in
theorem middle_any (s : Sta) (x y : Int) (w : World) (hx0 : 0 ≤ x) (hx1 : x ≤ 1000) (hy0 : 0 ≤ y) (hy1 : y ≤ 1000) (fx : farB s.x = false) (fy : farB s.y = false) :
    Calls Tryz.prog 25 #[.int .i64 x, .int .i64 y, .agg #[.int .i64 s.x, .int .i64 s.y, .int .i64 s.lt]] w fun e w' => e = .returned (.int .i64 (distV s x y)) ∧ Below w.heap.size w w' := by
  have f1 := of_decide_eq_false fx
  have f2 := of_decide_eq_false fy
  obtain ⟨a, ha⟩ : ∃ a, 1024 * x + 512 - s.x = a := ⟨_, rfl⟩
  obtain ⟨b, hb⟩ : ∃ b, 1024 * y + 512 - s.y = b := ⟨_, rfl⟩
  have hs1 := sq_in (a := a) (by omega) (by omega)
  have hs2 := sq_in (a := b) (by omega) (by omega)
  have wx1 : IntKind.i64.wrap (1024 * x) = 1024 * x := iwrap (by omega) (by omega)
  have wx2 : IntKind.i64.wrap (1024 * x + 512) = 1024 * x + 512 := iwrap (by omega) (by omega)
  have wx3 : IntKind.i64.wrap (1024 * x + 512 - s.x) = a := by rw [ha]; exact iwrap (by omega) (by omega)
  have wy1 : IntKind.i64.wrap (1024 * y) = 1024 * y := iwrap (by omega) (by omega)
  have wy2 : IntKind.i64.wrap (1024 * y + 512) = 1024 * y + 512 := iwrap (by omega) (by omega)
  have wy3 : IntKind.i64.wrap (1024 * y + 512 - s.y) = b := by rw [hb]; exact iwrap (by omega) (by omega)
  have hd : distV s x y = a * a + b * b := by unfold distV; rw [ha, hb]
  rw [hd]
  generalize hA : a * a = A at *
  generalize hB : b * b = B at *
  have wA : IntKind.i64.wrap (a * a) = A := by rw [hA]; exact iwrap (by omega) (by omega)
  have wB : IntKind.i64.wrap (b * b) = B := by rw [hB]; exact iwrap (by omega) (by omega)
  have wAB : IntKind.i64.wrap (A + B) = A + B := iwrap (by omega) (by omega)
  have hc := three_star (alloc_last w (.cells #[.int .i64 s.x, .int .i64 s.y, .int .i64 s.lt] 24))
  obtain ⟨c0, c1⟩ := hc
  have HB := hideR (below_a w (.cells #[.int .i64 s.x, .int .i64 s.y, .int .i64 s.lt] 24))
  clear hA hB ha hb fx fy f1 f2 hd
  go_enter Tryz.func25, Tryz.ntmps25
  go_wp2
  go_ret
  exact ⟨rfl, unhideR HB⟩
end Go.Proofs.YtmgnobeaacjdjajGreatDoor
namespace Go.Proofs.YtmgnobeaacjdjajGreatDoor

/-- a pixel of a spot's box: how far it is, squared, and its count. -/
structure Px where
  far : Int
  cnt : Int
deriving Inhabited
def px0 : Px := ⟨0, 0⟩
def rwP (p : Pic) (s : Sta) (v : Nat) : Nat → List Px
  | 0 => []
  | u + 1 => rwP p s v u ++ [⟨dV s u v, cntV p s u v⟩]
def boxP (p : Pic) (s : Sta) : Nat → List Px
  | 0 => []
  | v + 1 => boxP p s v ++ rwP p s v (nW s)
def csP : List Px → Int
  | [] => 0
  | x :: l => x.cnt + csP l
def inP (r : Int) : List Px → Int
  | [] => 0
  | x :: l => (if x.far ≤ r then x.cnt else 0) + inP r l
theorem csP_app (A B : List Px) : csP (A ++ B) = csP A + csP B := by
  induction A with
  | nil => simp [csP]
  | cons a A ih => simp only [List.cons_append, csP, ih]; omega
theorem inP_app (r : Int) (A B : List Px) : inP r (A ++ B) = inP r A + inP r B := by
  induction A with
  | nil => simp [inP]
  | cons a A ih => simp only [List.cons_append, inP, ih]; omega
theorem inP_perm {r : Int} {A B : List Px} (h : A.Perm B) : inP r A = inP r B := by
  induction h with
  | nil => rfl
  | cons x _ ih => simp only [inP, ih]
  | swap x y l => simp only [inP]; omega
  | trans _ _ a b => exact a.trans b
theorem csP_perm {A B : List Px} (h : A.Perm B) : csP A = csP B := by
  induction h with
  | nil => rfl
  | cons x _ ih => simp only [csP, ih]
  | swap x y l => simp only [csP]; omega
  | trans _ _ a b => exact a.trans b
theorem row_len (p : Pic) (s : Sta) (v : Nat) : ∀ n, (rwP p s v n).length = n
  | 0 => rfl
  | n + 1 => by unfold rwP; rw [List.length_append, row_len p s v n]; rfl
theorem boxP_len (p : Pic) (s : Sta) : ∀ m, (boxP p s m).length = m * nW s
  | 0 => by simp [boxP]
  | m + 1 => by unfold boxP; rw [List.length_append, boxP_len p s m, row_len, Nat.add_mul, Nat.one_mul]
theorem row_in (p : Pic) (s : Sta) (v : Nat) (r : Int) : ∀ n, inP r (rwP p s v n) = sumN (fun u => inV p s r u v) n
  | 0 => rfl
  | n + 1 => by
    unfold rwP sumN
    rw [inP_app, row_in p s v r n]
    simp only [inP, inV]
    omega
theorem box_in (p : Pic) (s : Sta) (r : Int) : ∀ m, inP r (boxP p s m) = sumN (fun v => sumN (fun u => inV p s r u v) (nW s)) m
  | 0 => rfl
  | m + 1 => by
    unfold boxP
    rw [inP_app, box_in p s r m, row_in]
    rfl
theorem row_cs (p : Pic) (s : Sta) (v : Nat) : ∀ n, csP (rwP p s v n) = sumN (fun u => cntV p s u v) n
  | 0 => rfl
  | n + 1 => by
    unfold rwP sumN
    rw [csP_app, row_cs p s v n]
    simp only [csP]
    omega
theorem box_cs (p : Pic) (s : Sta) : ∀ m, csP (boxP p s m) = sumN (fun v => sumN (fun u => cntV p s u v) (nW s)) m
  | 0 => rfl
  | m + 1 => by
    unfold boxP
    rw [csP_app, box_cs p s m, row_cs]
    rfl
theorem row_mem {p : Pic} {s : Sta} {v : Nat} {x : Px} : ∀ {n : Nat}, x ∈ rwP p s v n → ∃ u, u < n ∧ x = ⟨dV s u v, cntV p s u v⟩
  | 0, h => by cases h
  | n + 1, h => by
    unfold rwP at h
    rcases List.mem_append.1 h with h | h
    · obtain ⟨u, hu, e⟩ := row_mem h
      exact ⟨u, by omega, e⟩
    · exact ⟨n, by omega, List.mem_singleton.1 h⟩
theorem box_mem {p : Pic} {s : Sta} {x : Px} : ∀ {m : Nat}, x ∈ boxP p s m → ∃ u v, u < nW s ∧ v < m ∧ x = ⟨dV s u v, cntV p s u v⟩
  | 0, h => by cases h
  | m + 1, h => by
    unfold boxP at h
    rcases List.mem_append.1 h with h | h
    · obtain ⟨u, v, hu, hv, e⟩ := box_mem h
      exact ⟨u, v, hu, by omega, e⟩
    · obtain ⟨u, hu, e⟩ := row_mem h
      exact ⟨u, m, hu, by omega, e⟩
theorem inP_all {r : Int} {D : List Px} (h : ∀ x ∈ D, x.far ≤ r) : inP r D = csP D := by
  induction D with
  | nil => rfl
  | cons a D ih =>
    simp only [inP, csP]
    rw [if_pos (h a List.mem_cons_self), ih (fun x hx => h x (List.mem_cons_of_mem _ hx))]
theorem inP_none {r : Int} {D : List Px} (h : ∀ x ∈ D, r < x.far) : inP r D = 0 := by
  induction D with
  | nil => rfl
  | cons a D ih =>
    simp only [inP]
    rw [if_neg (by have := h a List.mem_cons_self; omega), ih (fun x hx => h x (List.mem_cons_of_mem _ hx))]
    omega
theorem inP_range {r : Int} {D : List Px} (h : ∀ x ∈ D, 0 ≤ x.cnt) : 0 ≤ inP r D ∧ inP r D ≤ csP D := by
  induction D with
  | nil => exact ⟨Int.le_refl _, Int.le_refl _⟩
  | cons a D ih =>
    have h1 := ih (fun x hx => h x (List.mem_cons_of_mem _ hx))
    have h2 := h a List.mem_cons_self
    simp only [inP, csP]
    split <;> omega
theorem take_next {D : List Px} {k : Nat} (h : k < D.length) : D.take (k + 1) = D.take k ++ [D.getD k px0] := by
  rw [List.take_add_one, List.getElem?_eq_getElem h]
  simp [List.getD, List.getElem?_eq_getElem h]
theorem rise_le {D : List Px} (h : D.Pairwise (fun a b => a.far ≤ b.far)) {i j : Nat} (hij : i ≤ j) (hj : j < D.length) : (D.getD i px0).far ≤ (D.getD j px0).far := by
  by_cases e : i = j
  · rw [e]; exact Int.le_refl _
  · have hi : i < D.length := by omega
    have := (List.pairwise_iff_getElem.1 h) i j hi hj (by omega)
    simpa [List.getD, List.getElem?_eq_getElem hi, List.getElem?_eq_getElem hj] using this
theorem mem_at {D : List Px} {x : Px} {k : Nat} (h : x ∈ D.take k) : ∃ i, i < k ∧ i < D.length ∧ x = D.getD i px0 := by
  obtain ⟨i, hi, e⟩ := List.getElem_of_mem h
  rw [List.length_take] at hi
  refine ⟨i, by omega, by omega, ?_⟩
  rw [← e]
  simp [List.getD, List.getElem?_eq_getElem (show i < D.length by omega)]
theorem mem_from {D : List Px} {x : Px} {k : Nat} (h : x ∈ D.drop k) : ∃ i, k ≤ i ∧ i < D.length ∧ x = D.getD i px0 := by
  obtain ⟨i, hi, e⟩ := List.getElem_of_mem h
  rw [List.length_drop] at hi
  refine ⟨k + i, by omega, by omega, ?_⟩
  rw [← e]
  simp [List.getD, List.getElem?_eq_getElem (show k + i < D.length by omega)]
/-- the pixels in order; one goes along them until they have so many hundredths. -/
theorem reach_is {p : Pic} {s : Sta} {part : Int} {D : List Px} (hp : D.Perm (boxP p s (nH s))) (hs : D.Pairwise (fun a b => a.far ≤ b.far)) (hc : ∀ x ∈ D, 0 ≤ x.cnt) {k : Nat} (hk : k < D.length) (h1 : part * allV p s ≤ 100 * csP (D.take (k + 1))) (h2 : 100 * csP (D.take k) < part * allV p s) : IsReach p s part (D.getD k px0).far := by
  have e2 : ∀ r, sumV2 p s r = inP r D := fun r => by
    rw [inP_perm hp, box_in]
    rfl
  have hm : D.getD k px0 ∈ D := by
    have e : D.getD k px0 = D[k] := by simp [List.getD, List.getElem?_eq_getElem hk]
    rw [e]
    exact List.getElem_mem hk
  refine ⟨?_, ?_, fun u v hu hv ok => ?_⟩
  · obtain ⟨u, v, hu, hv, e⟩ := box_mem (hp.mem_iff.1 hm)
    exact ⟨u, v, hu, hv, by rw [e]⟩
  · unfold okR
    rw [e2, ← List.take_append_drop (k + 1) D, inP_app]
    have a1 : inP (D.getD k px0).far (D.take (k + 1)) = csP (D.take (k + 1)) := inP_all (fun x hx => by
      obtain ⟨i, hi, hl, e⟩ := mem_at hx
      rw [e]
      exact rise_le hs (by omega) hk)
    have a2 := (inP_range (r := (D.getD k px0).far) (D := D.drop (k + 1)) (fun x hx => hc x (List.mem_of_mem_drop hx))).1
    rw [List.take_append_drop]
    omega
  · refine Int.not_lt.1 (fun lt => ?_)
    unfold okR at ok
    rw [e2, ← List.take_append_drop k D, inP_app] at ok
    have a1 := (inP_range (r := dV s u v) (D := D.take k) (fun x hx => hc x (List.mem_of_mem_take hx))).2
    have a2 : inP (dV s u v) (D.drop k) = 0 := inP_none (fun x hx => by
      obtain ⟨i, hi, hl, e⟩ := mem_from hx
      rw [e]
      have := rise_le hs hi hl
      omega)
    omega
end Go.Proofs.YtmgnobeaacjdjajGreatDoor
namespace Go.Proofs.YtmgnobeaacjdjajGreatDoor
open Go Go.RowKit

structure PxAt (w : World) (b o : Nat) (s : Px) : Prop where
  c0 : w.cell? ⟨b, o, none⟩ = some (.int .i64 s.far)
  c1 : w.cell? ⟨b, o + 1, none⟩ = some (.int .i64 s.cnt)
theorem PxAt.below {w v : World} {b o B : Nat} {s : Px} (h : PxAt w b o s) (k : Below B w v) (hb : b < B) : PxAt v b o s :=
  ⟨(k.cell hb).trans h.c0, (k.cell hb).trans h.c1⟩
structure PxCame (w : World) (ad : Option Addr) (L : List Px) : Prop where
  at_ : ∀ k, k < L.length → ∃ b off, ad = some ⟨b, off, none⟩ ∧ b < w.heap.size ∧ PxAt w b (off + k * 2) (L.getD k px0)
theorem PxCame.below {w v : World} {ad : Option Addr} {L : List Px} (h : PxCame w ad L) (k : Below w.heap.size w v) : PxCame v ad L := ⟨fun j hj => by
  obtain ⟨b, off, e, hb, h1⟩ := h.at_ j hj
  exact ⟨b, off, e, Nat.lt_of_lt_of_le hb k.size, h1.below k hb⟩⟩
theorem PxCame.nil (w : World) (ad : Option Addr) : PxCame w ad [] := ⟨fun k hk => absurd hk (Nat.not_lt_zero k)⟩
def valPx (s : Px) : List Value := [.int .i64 s.far, .int .i64 s.cnt]
def flatPx : List Px → List Value
  | [] => []
  | s :: L => valPx s ++ flatPx L
theorem flatPx_append : ∀ (L M : List Px), flatPx (L ++ M) = flatPx L ++ flatPx M
  | [], _ => rfl
  | q :: L, M => by
    show valPx q ++ flatPx (L ++ M) = (valPx q ++ flatPx L) ++ flatPx M
    rw [flatPx_append L M, List.append_assoc]
theorem flatPx_length : ∀ L : List Px, (flatPx L).length = L.length * 2
  | [] => rfl
  | q :: L => by
    show (valPx q ++ flatPx L).length = _
    rw [List.length_append, flatPx_length L, List.length_cons]
    simp [valPx]
    omega
theorem flatPx_at : ∀ (L : List Px) (j i : Nat), j < L.length → i < 2 → (flatPx L)[j * 2 + i]? = (valPx (L.getD j px0))[i]?
  | [], j, i, h, _ => absurd h (Nat.not_lt_zero j)
  | q :: L, 0, i, _, hi => by
    show (valPx q ++ flatPx L)[0 * 2 + i]? = _
    rw [Nat.zero_mul, Nat.zero_add, List.getElem?_append_left (by simp [valPx]; omega)]
    rfl
  | q :: L, j + 1, i, h, hi => by
    show (valPx q ++ flatPx L)[(j + 1) * 2 + i]? = _
    rw [List.getElem?_append_right (by simp [valPx]; omega)]
    have e : (j + 1) * 2 + i - (valPx q).length = j * 2 + i := by simp [valPx]; omega
    rw [e, flatPx_at L j i (by simpa using h) hi]
    rfl
theorem flatPx_one (L : List Px) : ∀ u ∈ flatPx L, u.oneCell' = true := by
  induction L with
  | nil => intro u hu; cases hu
  | cons q L ih =>
    intro u hu
    rcases List.mem_append.1 (show u ∈ valPx q ++ flatPx L from hu) with h | h
    · simp only [valPx, List.mem_cons, List.not_mem_nil, or_false] at h
      rcases h with rfl | rfl <;> rfl
    · exact ih u h
theorem Pxat_of {w : World} {b o : Nat} {s : Px} (h : ∀ i, i < 2 → w.cell? ⟨b, o + i, none⟩ = (valPx s)[i]?) : PxAt w b o s :=
  ⟨h 0 (by decide), h 1 (by decide)⟩
theorem PxAt.all {w : World} {b o : Nat} {s : Px} (h : PxAt w b o s) : ∀ i, i < 2 → w.cell? ⟨b, o + i, none⟩ = (valPx s)[i]? := by
  intro i hi
  rcases (show i = 0 ∨ i = 1 by omega) with rfl | rfl
  · exact h.c0
  · exact h.c1
theorem Pxcame_cells {w : World} {a0 : Addr} {L : List Px} (h : PxCame w (some a0) L) : ∀ j u, (flatPx L)[j]? = some u → w.cell? (a0.add j) = some u := by
  intro j u hu
  have hj : j < L.length * 2 := by
    have := (List.getElem?_eq_some_iff.1 hu).1
    rwa [flatPx_length] at this
  obtain ⟨b, off, e, _, hat⟩ := h.at_ (j / 2) (by omega)
  cases e
  have e1 : j = j / 2 * 2 + j % 2 := by omega
  have h2 := hat.all (j % 2) (by omega)
  rw [← flatPx_at L (j / 2) (j % 2) (by omega) (by omega), ← e1, hu] at h2
  have e2 : off + j / 2 * 2 + j % 2 = off + j := by omega
  rw [add_pl2, ← e2]
  exact h2
theorem Pxown {w : World} {B : Nat} {t : TypeId} {v : Value} {L : List Px} (h : w.ownsRow B t 2 v L.length (flatPx L)) : ∃ ad cap, v = .slice ad L.length cap ∧ PxCame w ad L := by
  obtain ⟨_, h⟩ := h
  rcases h with ⟨h1, h2⟩ | ⟨g, cap, cur, rfl, hB, hg, hc, _, hs, ht⟩
  · have e : L = [] := List.length_eq_zero_iff.1 h2
    subst e
    exact ⟨none, 0, h1, PxCame.nil _ _⟩
  · refine ⟨_, cap, rfl, ⟨fun j hj => ⟨g, 0, rfl, (Array.getElem?_eq_some_iff.1 hg).1, ?_⟩⟩⟩
    refine Pxat_of (fun i hi => ?_)
    rw [← flatPx_at L j i hj hi, ← ht, List.getElem?_take, if_pos (by omega)]
    simp only [World.cell?, hg]
    simp
def Pxzv : Value := .agg #[.int .i64 0, .int .i64 0]
theorem Pxtake {L : List Px} {k : Nat} (h : k < L.length) : L.take (k + 1) = L.take k ++ [L.getD k px0] := by
  rw [List.take_add_one, List.getElem?_eq_getElem h, List.getD_eq_getElem?_getD, List.getElem?_eq_getElem h]
  rfl
end Go.Proofs.YtmgnobeaacjdjajGreatDoor
