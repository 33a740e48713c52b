/-
  Bodies that pull each other: what stays, and what is undone.
-/
import Derived.Test.YtdngkmobkbiflagDoorBod
namespace Go.Proofs.YtdngkmobkbiflagDoor

/-! sums -/
def sumN (g : Nat → Int) : Nat → Int
  | 0 => 0
  | n + 1 => sumN g n + g n
theorem sumN_congr {g h : Nat → Int} : ∀ n, (∀ j, j < n → g j = h j) → sumN g n = sumN h n
  | 0, _ => rfl
  | n + 1, k => by
    unfold sumN
    rw [sumN_congr n (fun j hj => k j (by omega)), k n (by omega)]
theorem sumN_add (g h : Nat → Int) : ∀ n, sumN (fun j => g j + h j) n = sumN g n + sumN h n
  | 0 => rfl
  | n + 1 => by
    unfold sumN
    rw [sumN_add g h n]
    omega
theorem sumN_mul (s : Int) (g : Nat → Int) : ∀ n, sumN (fun j => s * g j) n = s * sumN g n
  | 0 => (Int.mul_zero s).symm
  | n + 1 => by
    unfold sumN
    rw [sumN_mul s g n, Int.mul_add]
theorem sumN_neg (g : Nat → Int) : ∀ n, sumN (fun j => -g j) n = -sumN g n
  | 0 => rfl
  | n + 1 => by
    unfold sumN
    rw [sumN_neg g n]
    omega
/-- each against each other: nothing. -/
theorem sumN_anti (f : Nat → Nat → Int) (h : ∀ j c, f j c = -f c j) : ∀ n, sumN (fun j => sumN (f j) n) n = 0
  | 0 => rfl
  | n + 1 => by
    have e1 : sumN (fun j => sumN (f j) (n + 1)) (n + 1) = sumN (fun j => sumN (f j) n + f j n) n + (sumN (f n) n + f n n) := rfl
    rw [e1, sumN_add, sumN_anti f h n]
    have e2 : sumN (fun j => f j n) n = -sumN (f n) n := by
      rw [← sumN_neg]
      exact sumN_congr n (fun j _ => h j n)
    have e3 : f n n = 0 := by
      have := h n n
      omega
    rw [e2, e3]
    omega
structure Lin (π : Cl → Int) : Prop where
  add : ∀ p q, π (p.add q) = π p + π q
  mul : ∀ k p, π (Cl.mul k p) = k * π p
  zero : π cl0 = 0
  neg : ∀ p, π p.neg = -π p
theorem lin_x : Lin Cl.x := ⟨fun _ _ => rfl, fun _ _ => rfl, rfl, fun _ => rfl⟩
theorem lin_y : Lin Cl.y := ⟨fun _ _ => rfl, fun _ _ => rfl, rfl, fun _ => rfl⟩
theorem lin_z : Lin Cl.z := ⟨fun _ _ => rfl, fun _ _ => rfl, rfl, fun _ => rfl⟩
theorem cl_ext {p q : Cl} (h : ∀ π, Lin π → π p = π q) : p = q := Cl.ext' (h _ lin_x) (h _ lin_y) (h _ lin_z)

/-! push and middle -/
def pushK (l : List Bd) : Nat → Cl
  | 0 => cl0
  | k + 1 => (pushK l k).add (Cl.mul (l.getD k bd0).m (l.getD k bd0).sp)
def middleK (l : List Bd) : Nat → Cl
  | 0 => cl0
  | k + 1 => (middleK l k).add (Cl.mul (l.getD k bd0).m (l.getD k bd0).at_)
def pushV (l : List Bd) : Cl := pushK l l.length
def middleV (l : List Bd) : Cl := middleK l l.length
theorem pushK_lin {π : Cl → Int} (h : Lin π) (l : List Bd) : ∀ k, π (pushK l k) = sumN (fun j => (l.getD j bd0).m * π (l.getD j bd0).sp) k
  | 0 => h.zero
  | k + 1 => by
    unfold pushK sumN
    rw [h.add, h.mul, pushK_lin h l k]
theorem middleK_lin {π : Cl → Int} (h : Lin π) (l : List Bd) : ∀ k, π (middleK l k) = sumN (fun j => (l.getD j bd0).m * π (l.getD j bd0).at_) k
  | 0 => h.zero
  | k + 1 => by
    unfold middleK sumN
    rw [h.add, h.mul, middleK_lin h l k]
theorem forceK_lin {π : Cl → Int} (h : Lin π) (l : List Bd) (p : Cl) : ∀ k, π (forceK l p k) = sumN (fun j => (l.getD j bd0).m * π (pullV ((l.getD j bd0).at_.sub p))) k
  | 0 => h.zero
  | k + 1 => by
    unfold forceK sumN
    rw [h.add, h.mul, forceK_lin h l p k]
theorem sub_neg (p q : Cl) : (p.sub q) = (q.sub p).neg := by
  unfold Cl.sub Cl.neg
  refine Cl.ext' ?_ ?_ ?_
  · show p.x - q.x = -(q.x - p.x); omega
  · show p.y - q.y = -(q.y - p.y); omega
  · show p.z - q.z = -(q.z - p.z); omega
theorem push_kick (s : Int) (l : List Bd) : pushV (kick s l) = pushV l := by
  refine cl_ext (fun π h => ?_)
  unfold pushV
  rw [pushK_lin h, pushK_lin h, kick_length]
  have e : sumN (fun j => ((kick s l).getD j bd0).m * π ((kick s l).getD j bd0).sp) l.length = sumN (fun j => (l.getD j bd0).m * π (l.getD j bd0).sp + s * sumN (fun c => (l.getD j bd0).m * ((l.getD c bd0).m * π (pullV ((l.getD c bd0).at_.sub (l.getD j bd0).at_)))) l.length) l.length := by
    refine sumN_congr _ (fun j hj => ?_)
    unfold kick
    rw [getD_map l hj]
    show (l.getD j bd0).m * π ((l.getD j bd0).sp.add (Cl.mul s (force l (l.getD j bd0).at_))) = _
    rw [h.add, h.mul, sumN_mul]
    unfold force
    rw [forceK_lin h, Int.mul_add]
    congr 1
    rw [← Int.mul_assoc, Int.mul_comm (l.getD j bd0).m s, Int.mul_assoc]
  rw [e, sumN_add, sumN_mul]
  have z := sumN_anti (fun j c => (l.getD j bd0).m * ((l.getD c bd0).m * π (pullV ((l.getD c bd0).at_.sub (l.getD j bd0).at_)))) (fun j c => by
    rw [sub_neg (l.getD c bd0).at_ (l.getD j bd0).at_, pullV_neg, h.neg, Int.mul_neg, Int.mul_neg, ← Int.mul_assoc, ← Int.mul_assoc, Int.mul_comm (l.getD j bd0).m]) l.length
  rw [z]
  omega
theorem push_drift (s : Int) (l : List Bd) : pushV (drift s l) = pushV l := by
  refine cl_ext (fun π h => ?_)
  unfold pushV
  rw [pushK_lin h, pushK_lin h, drift_length]
  refine sumN_congr _ (fun j hj => ?_)
  unfold drift
  rw [getD_map l hj]
theorem middle_kick (s : Int) (l : List Bd) : middleV (kick s l) = middleV l := by
  refine cl_ext (fun π h => ?_)
  unfold middleV
  rw [middleK_lin h, middleK_lin h, kick_length]
  refine sumN_congr _ (fun j hj => ?_)
  unfold kick
  rw [getD_map l hj]
theorem middle_drift (s : Int) (l : List Bd) : middleV (drift s l) = (middleV l).add (Cl.mul s (pushV l)) := by
  refine cl_ext (fun π h => ?_)
  unfold middleV pushV
  rw [h.add, h.mul, middleK_lin h, middleK_lin h, pushK_lin h, drift_length, ← sumN_mul, ← sumN_add]
  refine sumN_congr _ (fun j hj => ?_)
  unfold drift
  rw [getD_map l hj]
  show (l.getD j bd0).m * π ((l.getD j bd0).at_.add (Cl.mul s (l.getD j bd0).sp)) = _
  rw [h.add, h.mul, Int.mul_add]
  congr 1
  rw [← Int.mul_assoc, Int.mul_comm (l.getD j bd0).m s, Int.mul_assoc]
theorem push_step (s : Int) (l : List Bd) : pushV (stepV s l) = pushV l := by
  unfold stepV
  rw [push_kick, push_drift, push_kick]
theorem middle_step (s : Int) (l : List Bd) : middleV (stepV s l) = (middleV l).add (Cl.mul s (pushV l)) := by
  unfold stepV
  rw [middle_kick, middle_drift, middle_kick, push_kick]

/-! steps one behind the other -/
def ats (l : List Bd) : Bool := l.all fun b => decide (b.at_.In 1048576)
def sps (l : List Bd) : Bool := l.all fun b => decide (b.sp.In 1048576)
def mss (l : List Bd) : Bool := l.all fun b => decide (0 ≤ b.m ∧ b.m ≤ 65536)
def stepR (s : Int) (l : List Bd) : Option (List Bd) := if ats (drift s (kick s l)) && sps (stepV s l) then some (stepV s l) else none
def runN (s : Int) : Nat → List Bd → Option (List Bd)
  | 0, l => some l
  | n + 1, l => (stepR s l).bind (runN s n)
theorem runN_add (s : Int) (k : Nat) : ∀ n l, runN s (n + k) l = (runN s n l).bind (runN s k)
  | 0, l => by rw [Nat.zero_add]; rfl
  | n + 1, l => by
    rw [show n + 1 + k = (n + k) + 1 by omega]
    unfold runN
    cases e : stepR s l with
    | none => rfl
    | some y => exact runN_add s k n y
theorem stepR_some {s : Int} {l x : List Bd} (h : stepR s l = some x) : ats (drift s (kick s l)) = true ∧ sps (stepV s l) = true ∧ x = stepV s l := by
  unfold stepR at h
  split at h
  · rename_i e
    rw [Bool.and_eq_true] at e
    cases h
    exact ⟨e.1, e.2, rfl⟩
  · cases h
theorem ats_kick (s : Int) (l : List Bd) : ats (kick s l) = ats l := by
  unfold ats kick
  rw [List.all_map]
  rfl
theorem ats_step {s : Int} {l : List Bd} (h : ats (drift s (kick s l)) = true) : ats (stepV s l) = true := by
  unfold stepV
  rw [ats_kick]
  exact h
theorem mss_step (s : Int) (l : List Bd) : mss (stepV s l) = mss l := by
  unfold stepV mss kick drift
  rw [List.all_map, List.all_map, List.all_map]
  rfl
theorem stepR_back {s : Int} {l : List Bd} (h1 : ats l = true) (h2 : sps l = true) : stepR (-s) (stepV s l) = some l := by
  unfold stepR
  rw [stepV_back]
  have e : drift (-s) (kick (-s) (stepV s l)) = kick s l := by
    unfold stepV
    rw [kick_back, drift_back]
  rw [e, ats_kick, h1, h2]
  rfl
/-- so many steps are undone by as many steps back. -/
theorem runN_back (s : Int) : ∀ n (l x : List Bd), ats l = true → sps l = true → runN s n l = some x → runN (-s) n x = some l ∧ ats x = true ∧ sps x = true ∧ mss x = mss l ∧ x.length = l.length
  | 0, l, x, h1, h2, h => by
    cases h
    exact ⟨rfl, h1, h2, rfl, rfl⟩
  | n + 1, l, x, h1, h2, h => by
    unfold runN at h
    cases e : stepR s l with
    | none => rw [e] at h; cases h
    | some y =>
      rw [e] at h
      obtain ⟨a1, a2, rfl⟩ := stepR_some e
      obtain ⟨b1, b2, b3, b4, b5⟩ := runN_back s n _ x (ats_step a1) a2 h
      refine ⟨?_, b2, b3, b4.trans (mss_step s l), b5.trans (stepV_length s l)⟩
      rw [runN_add (-s) 1 n x, b1]
      show (stepR (-s) (stepV s l)).bind (runN (-s) 0) = some l
      rw [stepR_back h1 h2]
      rfl
theorem runN_push (s : Int) : ∀ n (l x : List Bd), runN s n l = some x → pushV x = pushV l ∧ middleV x = (middleV l).add (Cl.mul (s * n) (pushV l))
  | 0, l, x, h => by
    cases h
    refine ⟨rfl, ?_⟩
    unfold Cl.add Cl.mul
    refine Cl.ext' ?_ ?_ ?_ <;> simp
  | n + 1, l, x, h => by
    unfold runN at h
    cases e : stepR s l with
    | none => rw [e] at h; cases h
    | some y =>
      rw [e] at h
      obtain ⟨a1, a2, rfl⟩ := stepR_some e
      obtain ⟨b1, b2⟩ := runN_push s n _ x h
      rw [push_step] at b1 b2
      rw [middle_step] at b2
      refine ⟨b1, ?_⟩
      rw [b2]
      unfold Cl.add Cl.mul
      have e1 : s * ((n + 1 : Nat) : Int) = s + s * (n : Int) := by
        rw [Int.natCast_add, Int.mul_add]
        simp
        omega
      rw [e1]
      refine Cl.ext' ?_ ?_ ?_
      all_goals
        simp only [Int.add_mul]
        omega
end Go.Proofs.YtdngkmobkbiflagDoor
