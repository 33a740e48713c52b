/-
  Chains of turns, there and back: how far one comes from where one began. No program here but the sines.
-/
import Derived.Test.YtbjpkfmencaafafDoorRatVec
import Derived.Test.YtbjpkfmencaafafDoorOdd
import Derived.Test.YtbjpkfmencaafafDoorSky5
namespace Go.Proofs.YtbjpkfmencaafafDoor
open Go

/-- the two coordinates that are turned, and the one that stays. -/
def pa (k : Int) (p : V3) : Nat := if k = 0 then p.y else if k = 1 then p.z else p.x
def pb (k : Int) (p : V3) : Nat := if k = 0 then p.z else if k = 1 then p.x else p.y
def pc (k : Int) (p : V3) : Nat := if k = 0 then p.x else if k = 1 then p.y else p.z
structure Q3 where
  x : Rat
  y : Rat
  z : Rat
def qa (k : Int) (p : Q3) : Rat := if k = 0 then p.y else if k = 1 then p.z else p.x
def qb (k : Int) (p : Q3) : Rat := if k = 0 then p.z else if k = 1 then p.x else p.y
def qc (k : Int) (p : Q3) : Rat := if k = 0 then p.x else if k = 1 then p.y else p.z
def mk3 (k : Int) (a b c : Rat) : Q3 := if k = 0 then ⟨c, a, b⟩ else if k = 1 then ⟨b, c, a⟩ else ⟨a, b, c⟩
structure VIs (p : V3) (v : Q3) : Prop where
  x : Is p.x v.x
  y : Is p.y v.y
  z : Is p.z v.z
def LQ (v : Q3) (B : Rat) : Prop := Wi v.x v.y v.z B
def Q3.sub (u v : Q3) : Q3 := ⟨u.x - v.x, u.y - v.y, u.z - v.z⟩
theorem vis_parts (k : Int) {p : V3} {v : Q3} (h : VIs p v) : Is (pa k p) (qa k v) ∧ Is (pb k p) (qb k v) ∧ Is (pc k p) (qc k v) := by
  unfold pa pb pc qa qb qc
  split
  · exact ⟨h.y, h.z, h.x⟩
  · split
    · exact ⟨h.z, h.x, h.y⟩
    · exact ⟨h.x, h.y, h.z⟩
theorem vis_mk (k : Int) {p : V3} {a b c : Rat} (h1 : Is (pa k p) a) (h2 : Is (pb k p) b) (h3 : Is (pc k p) c) : VIs p (mk3 k a b c) := by
  unfold pa at h1
  unfold pb at h2
  unfold pc at h3
  unfold mk3
  split
  · rename_i h
    rw [if_pos h] at h1 h2 h3
    exact ⟨h3, h1, h2⟩
  · rename_i h
    rw [if_neg h] at h1 h2 h3
    split
    · rename_i h'
      rw [if_pos h'] at h1 h2 h3
      exact ⟨h2, h3, h1⟩
    · rename_i h'
      rw [if_neg h'] at h1 h2 h3
      exact ⟨h1, h2, h3⟩
theorem lq_parts (k : Int) {v : Q3} {B : Rat} (h : LQ v B) : Wi (qa k v) (qb k v) (qc k v) B := by
  unfold qa qb qc
  split
  · exact h.rot
  · split
    · exact h.rot.rot
    · exact h
theorem lq_of (k : Int) {v : Q3} {B : Rat} (h : Wi (qa k v) (qb k v) (qc k v) B) : LQ v B := by
  unfold qa qb qc at h
  unfold LQ
  split at h
  · exact h.rot.rot
  · split at h
    · exact h.rot
    · exact h
theorem mk_parts (k : Int) (a b c : Rat) : qa k (mk3 k a b c) = a ∧ qb k (mk3 k a b c) = b ∧ qc k (mk3 k a b c) = c := by
  unfold qa qb qc mk3
  split
  · exact ⟨rfl, rfl, rfl⟩
  · split
    · exact ⟨rfl, rfl, rfl⟩
    · exact ⟨rfl, rfl, rfl⟩
theorem sub_parts (k : Int) (u v : Q3) : qa k (u.sub v) = qa k u - qa k v ∧ qb k (u.sub v) = qb k u - qb k v ∧ qc k (u.sub v) = qc k u - qc k v := by
  unfold qa qb qc Q3.sub
  split
  · exact ⟨rfl, rfl, rfl⟩
  · split
    · exact ⟨rfl, rfl, rfl⟩
    · exact ⟨rfl, rfl, rfl⟩
theorem turned_parts {k d : Int} {p q : V3} (h : Turned k d p q) : Ev (tuA (pa k p) (pb k p) (sinV d) (cosV d)) (pa k q) ∧ Ev (tuB (pa k p) (pb k p) (sinV d) (cosV d)) (pb k q) ∧ pc k q = pc k p := by
  unfold Turned TurnIs at h
  unfold pa pb pc
  split at h
  · rename_i hk
    simp only [if_pos hk]
    obtain ⟨r, s, t, e, f1, f2, f3⟩ := h
    obtain rfl := v3_inj (p := q) (q := ⟨r, s, t⟩) e
    cases f1
    exact ⟨f2, f3, rfl⟩
  · rename_i hk
    simp only [if_neg hk]
    split at h
    · rename_i hk'
      simp only [if_pos hk']
      obtain ⟨r, s, t, e, f1, f2, f3⟩ := h
      obtain rfl := v3_inj (p := q) (q := ⟨r, s, t⟩) e
      cases f2
      exact ⟨f3, f1, rfl⟩
    · rename_i hk'
      simp only [if_neg hk']
      obtain ⟨r, s, t, e, f1, f2, f3⟩ := h
      obtain rfl := v3_inj (p := q) (q := ⟨r, s, t⟩) e
      cases f3
      exact ⟨f1, f2, rfl⟩
theorem tau_fits : 1000000 * (9007199254740992 * tau) ≤ p2 (-320) ∧ p2 321 < p2 1000 ∧ 2 * p2 320 ≤ p2 321 := by decide +kernel
theorem circ_le {S C : Rat} (h : Near (S * S + C * C) 1 (7 / 9007199254740992)) : S ≤ 1001 / 1000 ∧ -(1001 / 1000) ≤ S ∧ C ≤ 1001 / 1000 ∧ -(1001 / 1000) ≤ C ∧ S * S + C * C ≤ 1 + 7 / 9007199254740992 := by
  obtain ⟨h1, h2⟩ := h
  have n1 := sq_nn' S
  have n2 := sq_nn' C
  have b1 := le_of_sq (d := S) (e := 1001 / 1000) (by grind) (by grind)
  have b2 := le_of_sq (d := C) (e := 1001 / 1000) (by grind) (by grind)
  exact ⟨b1.1, b1.2, b2.1, b2.2, h1⟩
/-- a turn in its plane, as it is reckoned. -/
theorem plane {a b s c r t : Nat} {A B z S C M : Rat} (ia : Is a A) (ib : Is b B) (is : Is s S) (ic : Is c C) (h : Wi A B z M) (hsc : Near (S * S + C * C) 1 (7 / 9007199254740992)) (m1 : p2 (-320) ≤ M) (m2 : M ≤ p2 320) (hr : Ev (tuA a b s c) r) (ht : Ev (tuB a b s c) t) :
    ∃ T1 T2 e1 e2, Is r T1 ∧ Is t T2 ∧ T1 = A * C - B * S + e1 ∧ T2 = A * S + B * C + e2 ∧ e1 ≤ 31 / 10 * (M / 9007199254740992) ∧ -(31 / 10 * (M / 9007199254740992)) ≤ e1 ∧ e2 ≤ 31 / 10 * (M / 9007199254740992) ∧ -(31 / 10 * (M / 9007199254740992)) ≤ e2 := by
  obtain ⟨s1, s2, c1, c2, hk⟩ := circ_le hsc
  obtain ⟨t1, t2, t3⟩ := tau_fits
  have tp := tau_pos
  have hA := h.x
  have hB := h.rot.x
  have hT := h.turn (k := 7 / 9007199254740992) (by grind) hk
  have hX := hT.x
  have hY := hT.rot.x
  have p1 := prod_abs hA.1 hA.2 c1 c2
  have p3 := prod_abs hB.1 hB.2 s1 s2
  have p4 := prod_abs hA.1 hA.2 s1 s2
  have p5 := prod_abs hB.1 hB.2 c1 c2
  have hMp := p2_pos (-320)
  cases hr with
  | op e1 e2 e3 =>
    cases ht with
    | op f1 f2 f3 =>
      cases e1 with | op g1 g2 g3 =>
      cases g1; cases g2
      cases e2 with | op g1 g2 g4 =>
      cases g1; cases g2
      cases f1 with | op g1 g2 g5 =>
      cases g1; cases g2
      cases f2 with | op g1 g2 g6 =>
      cases g1; cases g2
      obtain ⟨u1, iu1, n1⟩ := mul_le ia ic p1.1 p1.2 (by grind) g3
      obtain ⟨u2, iu2, n2⟩ := mul_le ib is p3.1 p3.2 (by grind) g4
      obtain ⟨u3, iu3, n3⟩ := mul_le ia is p4.1 p4.2 (by grind) g5
      obtain ⟨u4, iu4, n4⟩ := mul_le ib ic p5.1 p5.2 (by grind) g6
      unfold Near at n1 n2 n3 n4
      obtain ⟨T1, i1, k1⟩ := sub_le iu1 iu2 (A := 101 / 100 * M) (by grind) (by grind) (by grind) e3
      obtain ⟨T2, i2, k2⟩ := add_le iu3 iu4 (A := 101 / 100 * M) (by grind) (by grind) (by grind) f3
      unfold Near at k1 k2
      exact ⟨T1, T2, T1 - (A * C - B * S), T2 - (A * S + B * C), i1, i2, by grind, by grind, by grind, by grind, by grind, by grind⟩
end Go.Proofs.YtbjpkfmencaafafDoor
