/-
  Chains of turns, there and back: a step there and its step back.
-/
import Derived.Test.YtbjpkfmencaafafDoorChM
namespace Go.Proofs.YtbjpkfmencaafafDoor
open Go

theorem circ2 (h : Int) : ∃ S C, Is (sinV h) S ∧ Is (cosV h) C ∧ Near (S * S + C * C) 1 (7 / 9007199254740992) := by
  have hq := qOf_range h
  have hrr := rOf_range h
  obtain ⟨σ, γ, u, v, h1, h2, h3, h4, h5, h6, h7, h8, h9⟩ := point (rOf h) (by omega) hrr.1 (ev_evl (sE (rOf h))) (ev_evl (cE (rOf h)))
  have n1 := neg_is h1
  have n2 := neg_is h2
  have key : Near (u * u + v * v) 1 (7 / 9007199254740992) := by
    obtain ⟨p1, q1⟩ := prod_near h3 h3 h5 h6 h5 h6
    obtain ⟨p2', q2⟩ := prod_near h4 h4 h7 h8 h7 h8
    obtain ⟨p3, q3⟩ := h9
    have hb : De + (Es * (7856 / 10000) + 7856 / 10000 * Es + Es * Es) + (Eo 0 * (1 + eta) + (1 + eta) * Eo 0 + Eo 0 * Eo 0) ≤ 7 / 9007199254740992 := by decide +kernel
    generalize Es * (7856 / 10000) + 7856 / 10000 * Es + Es * Es = x1 at *
    generalize Eo 0 * (1 + eta) + (1 + eta) * Eo 0 + Eo 0 * Eo 0 = x2 at *
    generalize De = x3 at *
    constructor <;> grind
  have hS : sinV h = turnS (qOf h) (evl (sE (rOf h))) (evl (cE (rOf h))) := rfl
  have hC : cosV h = turnC (qOf h) (evl (sE (rOf h))) (evl (cE (rOf h))) := rfl
  have h10 : qOf h % 4 = 0 ∨ qOf h % 4 = 1 ∨ qOf h % 4 = 2 ∨ qOf h % 4 = 3 := by omega
  rw [hS, hC]
  unfold turnS turnC
  unfold Near at key
  rcases h10 with e | e | e | e
  all_goals
    rw [e]
    simp
  · exact ⟨u, h1, v, h2, by unfold Near; exact key⟩
  · exact ⟨v, h2, -u, n1, by unfold Near; grind⟩
  · exact ⟨-u, n1, -v, n2, by unfold Near; grind⟩
  · exact ⟨-v, n2, u, h1, by unfold Near; grind⟩
theorem tie_is : tieE = 4 / 9007199254740992 := by decide +kernel
/-- a step along. -/
theorem step_on {k d : Int} {p q : V3} {v : Q3} {M : Rat} (t : Turned k d p q) (iv : VIs p v) (hM : LQ v M) (m1 : p2 (-320) ≤ M) (m2 : M ≤ p2 320) :
    ∃ u, VIs q u ∧ LQ u (M + 12 * (M / 9007199254740992)) := by
  obtain ⟨S, C, is, ic, hsc⟩ := circ2 d
  obtain ⟨ta, tb, tc⟩ := turned_parts t
  obtain ⟨ia, ib, ic'⟩ := vis_parts k iv
  have hW := lq_parts k hM
  obtain ⟨T1, T2, e1, e2, i1, i2, q1, q2, b1, b2, b3, b4⟩ := plane ia ib is ic hW hsc m1 m2 ta tb
  have hMp := p2_pos (-320)
  obtain ⟨_, _, _, _, hk⟩ := circ_le hsc
  refine ⟨mk3 k T1 T2 (qc k v), vis_mk k i1 i2 (by rw [tc]; exact ic'), lq_of k ?_⟩
  obtain ⟨r1, r2, r3⟩ := mk_parts k T1 T2 (qc k v)
  rw [r1, r2, r3]
  have w := (hW.turn (k := 7 / 9007199254740992) (by grind) hk).tri (Wi.two (E := 31 / 10 * (M / 9007199254740992)) (by grind) b1 b2 b3 b4)
  rw [← q1, ← q2] at w
  have e0 : qc k v + 0 = qc k v := by grind
  rw [e0] at w
  exact w.weak (by grind)
/-- a step along, and the step against it. -/
theorem step_back {k d : Int} {p q g h : V3} {v u y : Q3} {M D : Rat} (t : Turned k d p q) (t' : Turned k (-nrm d) g h) (iv : VIs p v) (iu : VIs q u) (iy : VIs g y) (hM : LQ v M) (hD : LQ (y.sub u) D) (hs : D ≤ M / 1000) (m1 : p2 (-310) ≤ M) (m2 : M ≤ p2 310) :
    ∃ z, VIs h z ∧ LQ (z.sub v) (D + 33 * (M / 9007199254740992)) := by
  obtain ⟨S, C, S', C', is, ic, is', ic', nS, nC⟩ := back_near d
  obtain ⟨S1, C1, is1, ic1, hsc⟩ := circ2 d
  obtain ⟨S2, C2, is2, ic2, hsc'⟩ := circ2 (-nrm d)
  rw [is_unique is1 is, is_unique ic1 ic] at hsc
  rw [is_unique is2 is', is_unique ic2 ic'] at hsc'
  have f1 : p2 (-320) ≤ p2 (-310) ∧ p2 310 ≤ p2 320 ∧ 2 * p2 310 ≤ p2 320 ∧ 0 < p2 (-310) := by decide +kernel
  obtain ⟨f1, f2, f3, f4⟩ := f1
  obtain ⟨ta, tb, tc⟩ := turned_parts t
  obtain ⟨ta', tb', tc'⟩ := turned_parts t'
  obtain ⟨ia, ib, ik⟩ := vis_parts k iv
  obtain ⟨ja, jb, jk⟩ := vis_parts k iu
  obtain ⟨ga, gb, gk⟩ := vis_parts k iy
  have hW := lq_parts k hM
  obtain ⟨T1, T2, e1, e2, i1, i2, q1, q2, b1, b2, b3, b4⟩ := plane ia ib is ic hW hsc (by grind) (by grind) ta tb
  have u1 := is_unique ja i1
  have u2 := is_unique jb i2
  rw [tc] at jk
  have u3 := is_unique jk ik
  obtain ⟨_, _, _, _, hk⟩ := circ_le hsc
  obtain ⟨_, _, _, _, hk'⟩ := circ_le hsc'
  have wu := (hW.turn (k := 7 / 9007199254740992) (by grind) hk).tri (Wi.two (E := 31 / 10 * (M / 9007199254740992)) (by grind) b1 b2 b3 b4)
  have hDp := lq_parts k hD
  obtain ⟨s1, s2, s3⟩ := sub_parts k y u
  rw [s1, s2, s3, u1, u2, u3] at hDp
  have wy := wu.tri hDp
  rw [← q1, ← q2] at wy
  have y1 : T1 + (qa k y - T1) = qa k y := by grind
  have y2 : T2 + (qb k y - T2) = qb k y := by grind
  have y3 : qc k v + 0 + (qc k y - qc k v) = qc k y := by grind
  rw [y1, y2, y3] at wy
  have wy' := wy.weak (B := 101 / 100 * M) (by grind)
  obtain ⟨H1, H2, e1', e2', j1, j2, q1', q2', c1, c2, c3, c4⟩ := plane ga gb is' ic' wy' hsc' (by grind) (by grind) ta' tb'
  obtain ⟨S_1, S_2, C_1, C_2, _⟩ := circ_le hsc
  refine ⟨mk3 k H1 H2 (qc k y), vis_mk k j1 j2 (by rw [tc']; exact gk), lq_of k ?_⟩
  obtain ⟨z1, z2, z3⟩ := sub_parts k (mk3 k H1 H2 (qc k y)) v
  obtain ⟨r1, r2, r3⟩ := mk_parts k H1 H2 (qc k y)
  rw [z1, z2, z3, r1, r2, r3]
  rw [tie_is] at nS nC
  unfold Near at nS nC hsc
  have x1 := prod_abs C_1 C_2 (b := C' - C) (B := 4 / 9007199254740992) (by grind) (by grind)
  have x2 := prod_abs S_1 S_2 (b := S' + S) (B := 4 / 9007199254740992) (by grind) (by grind)
  have x3 := prod_abs S_1 S_2 (b := C' - C) (B := 4 / 9007199254740992) (by grind) (by grind)
  have x4 := prod_abs C_1 C_2 (b := S' + S) (B := 4 / 9007199254740992) (by grind) (by grind)
  have w1 := hW.left (p := C * C' - S * S' - 1) (q := S * C' + C * S') (P := 151 / 10 / 9007199254740992) (Q := 81 / 10 / 9007199254740992) (by grind) (by grind) (by grind) (by grind)
  have w2 := (Wi.two (E := 31 / 10 * (M / 9007199254740992)) (by grind) b1 b2 b3 b4).turn (k := 7 / 9007199254740992) (by grind) hk'
  have w3 := hDp.turn (k := 7 / 9007199254740992) (by grind) hk'
  have w4 := Wi.two (E := 31 / 10 * (101 / 100 * M / 9007199254740992)) (by grind) c1 c2 c3 c4
  have w := ((w1.tri w2).tri w3).tri w4
  have a1 : qa k v * (C * C' - S * S' - 1) - qb k v * (S * C' + C * S') + (e1 * C' - e2 * S') + ((qa k y - T1) * C' - (qb k y - T2) * S') + e1' = H1 - qa k v := by
    rw [q1', q1, q2]
    grind
  have a2 : qa k v * (S * C' + C * S') + qb k v * (C * C' - S * S' - 1) + (e1 * S' + e2 * C') + ((qa k y - T1) * S' + (qb k y - T2) * C') + e2' = H2 - qb k v := by
    rw [q2', q1, q2]
    grind
  have a3 : (0 : Rat) + 0 + (qc k y - qc k v) + 0 = qc k y - qc k v := by grind
  rw [a1, a2, a3] at w
  refine w.weak ?_
  have hD0 := hDp.nn
  grind
end Go.Proofs.YtbjpkfmencaafafDoor
