/-
  The law of moves: its walk.
-/
import Derived.Test.YtngdemhhcablmalDoorShM4
import Derived.Test.YtngdemhhcablmalDoorCodK5
import Derived.Test.YtngdemhhcablmalDoorSpArg2
namespace Go.Proofs.YtngdemhhcablmalDoor
open Go Go.RowKit

def picO : Pic := ⟨2, 1, [9, 0]⟩
def picT : Pic := ⟨2, 1, [0, 9]⟩
theorem mov9 : movE picO picT 1 = 0 ∧ (movB picO picT 1).x = 1 := by decide +kernel
theorem two_ints {w : World} {g : Nat} {x y : Int} (h : w.heap[g]? = some (.cells #[.int .i64 x, .int .i64 y] 3)) : ICame w (some ⟨g, 0, none⟩) [x, y] := ⟨fun k hk => by
  refine ⟨g, 0, rfl, ltB h, ?_⟩
  rw [Nat.zero_add]
  rcases (show k = 0 ∨ k = 1 by simp at hk; omega) with rfl | rfl
  · exact (cells_at h 0 (by simp)).1
  · exact (cells_at h 1 (by simp)).1⟩
theorem picE_pos {p : Pic} (h : picE p ≠ 0) : 0 < picE p := by
  unfold picE at h ⊢
  split
  · decide
  · split
    · decide
    · split
      · decide
      · rename_i q1 q2 q3
        rw [if_neg q1, if_neg q2, if_neg q3] at h
        exact absurd rfl h
/-- the law's own look at errors. -/
def lawE (p q : Pic) (m : Int) : Int := if picE p ≠ 0 then picE p else if picE q ≠ 0 then picE q else if m < 0 ∨ 16 < m then 5 else 0
theorem movE_few {p q : Pic} {m : Int} (h : p.L.length ≤ 150) : movE p q m = lawE p q m := by
  unfold movE lawE
  split
  · rfl
  · rename_i h1
    split
    · rfl
    · split
      · rfl
      · rename_i h2
        have hk := pic_ok (show picE p = 0 by simpa using h1)
        have hl := hk.len
        rw [if_neg]
        rw [← hl]
        have h3 : (p.L.length : Int) * (2 * m + 1) ≤ 150 * 33 := Int.mul_le_mul (by omega) (by omega) (by omega) (by omega)
        have h4 : 0 ≤ (p.L.length : Int) * (2 * m + 1) := Int.mul_nonneg (by omega) (by omega)
        have h5 : (p.L.length : Int) * (2 * m + 1) * (2 * m + 1) ≤ 150 * 33 * 33 := Int.mul_le_mul h3 (by omega) (by omega) (by omega)
        omega
theorem picArg2_none {w : World} {v : Value} (h : PicArg2 w v none) : v = .pointer none := by
  cases h
  rfl
def MwPost (w : World) (e : Ending) (w' : World) : Prop := e = .returned (.bool true) ∧ Below w.heap.size w w'
set_option maxRecDepth 100000 in
set_option maxHeartbeats 3200000 in
theorem moved_walk {a : Nat → Addr} {w : World} {va vb : Value} {oa ob : Option Pic} (hS : Sents w a) (hA : PicArg2 w va oa) (hB : PicArg2 w vb ob) (m : Int) : Calls Tryd.prog 3 #[va, vb, .int .i64 m] w (MwPost w) := by
  have HS : HeldR (∀ u, Below w.heap.size w u → Sents u a) := hideR (fun u k => hS.below k (Nat.le_refl _))
  have HA : HeldR (∀ u, Below w.heap.size w u → PicArg2 u va oa) := hideR (fun u k => hA.below k)
  have HB : HeldR (∀ u, Below w.heap.size w u → PicArg2 u vb ob) := hideR (fun u k => hB.below k)
  clear hS hA hB
  go_enter Tryd.func3, Tryd.ntmps3
  go_upto_region 3 with fail
  have b1 := below_a w (.cells #[.int .i64 9, .int .i64 0] 3)
  have g1 := alloc_last w (.cells #[.int .i64 9, .int .i64 0] 3)
  generalize hw1 : w.alloc (.cells #[.int .i64 9, .int .i64 0] 3) = w1 at *
  have z1 : w1.heap.size = w.heap.size + 1 := by rw [← hw1]; simp
  have b2 := below_a w1 (.cells #[.int .i64 2, .int .i64 1, .slice (some ⟨w.heap.size, 0, none⟩) 2 2] 25)
  have g2 := alloc_last w1 (.cells #[.int .i64 2, .int .i64 1, .slice (some ⟨w.heap.size, 0, none⟩) 2 2] 25)
  generalize hw2 : w1.alloc (.cells #[.int .i64 2, .int .i64 1, .slice (some ⟨w.heap.size, 0, none⟩) 2 2] 25) = w2 at *
  have z2 : w2.heap.size = w.heap.size + 1 + 1 := by rw [← hw2, ← z1]; simp
  have b3 := below_a w2 (.cells #[.int .i64 0, .int .i64 9] 3)
  have g3 := alloc_last w2 (.cells #[.int .i64 0, .int .i64 9] 3)
  generalize hw3 : w2.alloc (.cells #[.int .i64 0, .int .i64 9] 3) = w3 at *
  have z3 : w3.heap.size = w.heap.size + 1 + 1 + 1 := by rw [← hw3, ← z2]; simp
  have b4 := below_a w3 (.cells #[.int .i64 2, .int .i64 1, .slice (some ⟨w.heap.size + 1 + 1, 0, none⟩) 2 2] 25)
  have g4 := alloc_last w3 (.cells #[.int .i64 2, .int .i64 1, .slice (some ⟨w.heap.size + 1 + 1, 0, none⟩) 2 2] 25)
  generalize hw4 : w3.alloc (.cells #[.int .i64 2, .int .i64 1, .slice (some ⟨w.heap.size + 1 + 1, 0, none⟩) 2 2] 25) = w4 at *
  rw [z1] at g2
  rw [z2] at g3
  rw [z3] at g4
  have hb4 := below_go (below_go (below_go b1 b2) b3) b4
  have r1 := keepB (keepB (keepB g1 b2) b3) b4
  have r2 := keepB (keepB g2 b3) b4
  have r3 := keepB g3 b4
  have hf := moved_ok (unhideR HS w4 hb4) (p := picO) (q := picT) (va := .agg #[.int .i64 2, .int .i64 1, .slice (some ⟨w.heap.size, 0, none⟩) 2 2]) (vb := .agg #[.int .i64 2, .int .i64 1, .slice (some ⟨w.heap.size + 1 + 1, 0, none⟩) 2 2]) ⟨_, 2, rfl, two_ints r1, by decide, by decide, by decide⟩ ⟨_, 2, rfl, two_ints r3, by decide, by decide, by decide⟩ 1
  unfold MdPost at hf
  rw [mov9.1, if_pos rfl, mov9.2] at hf
  obtain ⟨p0, p1, p2⟩ := pic_three r2
  obtain ⟨q0, q1, q2⟩ := pic_three g4
  have HB4 := hideR hb4
  obtain ⟨K, hK⟩ : ∃ K, w.heap.size = K := ⟨_, rfl⟩
  rw [hK] at hf p0 p1 p2 q0 q1 q2 ⊢
  clear b1 b2 b3 b4 g1 g2 g3 g4 r1 r2 r3 z1 z2 z3 hw1 hw2 hw3 hw4 w1 w2 w3 hb4 hK
  go_wp2_with fail
  refine hf.mono ?_
  rintro e w5 ⟨er, rfl, her, k5⟩
  obtain rfl := errIs_0 her
  have HB5 := hideR (below_go (unhideR HB4) k5)
  clear hf her k5 p0 p1 p2 q0 q1 q2 HB4
  generalize (if (0 : Int) = 0 then (movB picO picT 1).y else 0) = dy0 at *
  generalize (if (0 : Int) = 0 then (movB picO picT 1).s else 0) = ds0 at *
  have hA5 := unhideR HA w5 (unhideR HB5)
  have hB5 := unhideR HB w5 (unhideR HB5)
  cases oa with
  | none =>
    obtain rfl := picArg2_none hA5
    clear hA5 hB5
    go_wp2
    go_ret
    exact ⟨rfl, unhideR HB5⟩
  | some p =>
  obtain ⟨b, o, cap, ad, rfl, hp5, hlp, hpc5⟩ := picArg2_is hA5
  cases ob with
  | none =>
    obtain rfl := picArg2_none hB5
    obtain ⟨_, c0, c1, c2, _⟩ := hp5
    clear hA5 hB5 hpc5
    go_wp2
    go_ret
    exact ⟨rfl, unhideR HB5⟩
  | some q =>
  obtain ⟨b2, o2, cap2, ad2, rfl, hq5, hlq, hqc5⟩ := picArg2_is hB5
  have HP1 := hideR hp5
  have HQ1 := hideR hq5
  obtain ⟨_, c0, c1, c2, _⟩ := hp5
  obtain ⟨_, d0, d1, d2, _⟩ := hq5
  have HMd : HeldR (∀ u, Below w5.heap.size w5 u → Calls Tryd.prog 4 #[.agg #[.int .i64 p.wide, .int .i64 p.high, .slice ad p.L.length cap], .agg #[.int .i64 q.wide, .int .i64 q.high, .slice ad2 q.L.length cap2], .int .i64 m] u (MdPost a p q m u)) := hideR (fun u k => moved_ok (unhideR HS u (below_go (unhideR HB5) k)) (hpc5.below k) (hqc5.below k) m)
  clear hA5 hB5 hpc5 hqc5 HA HB
  by_cases l1 : 150 < p.L.length
  · have t1 : decide ((150 : Int) < (p.L.length : Int)) = true := decide_eq_true (by omega)
    have t1n : decide (150 < p.L.length) = true := decide_eq_true l1
    clear HMd
    go_wp2
    go_ret
    exact ⟨rfl, unhideR HB5⟩
  have t1 : decide ((150 : Int) < (p.L.length : Int)) = false := decide_eq_false (by omega)
  have t1n : decide (150 < p.L.length) = false := decide_eq_false l1
  by_cases l2 : 150 < q.L.length
  · have t2 : decide ((150 : Int) < (q.L.length : Int)) = true := decide_eq_true (by omega)
    have t2n : decide (150 < q.L.length) = true := decide_eq_true l2
    clear HMd
    go_wp2
    go_ret
    exact ⟨rfl, unhideR HB5⟩
  have t2 : decide ((150 : Int) < (q.L.length : Int)) = false := decide_eq_false (by omega)
  have t2n : decide (150 < q.L.length) = false := decide_eq_false l2
  obtain ⟨rx, hrx⟩ : ∃ z, (if movE p q m = 0 then (movB p q m).x else 0) = z := ⟨_, rfl⟩
  obtain ⟨ry, hry⟩ : ∃ z, (if movE p q m = 0 then (movB p q m).y else 0) = z := ⟨_, rfl⟩
  obtain ⟨rs, hrs⟩ : ∃ z, (if movE p q m = 0 then (movB p q m).s else 0) = z := ⟨_, rfl⟩
  unfold MdPost at HMd
  rw [hrx, hry, hrs] at HMd
  have hfew := movE_few (q := q) (m := m) (show p.L.length ≤ 150 by omega)
  rw [hfew] at hrx hry hrs HMd
  have HZ : HeldR (lawE p q m ≠ 0 → rx = 0 ∧ ry = 0 ∧ rs = 0) := hideR (fun h => ⟨by rw [← hrx, if_neg h], by rw [← hry, if_neg h], by rw [← hrs, if_neg h]⟩)
  have HY : HeldR (lawE p q m = 0 → rx = (movB p q m).x ∧ ry = (movB p q m).y ∧ rs = (movB p q m).s) := hideR (fun h => ⟨by rw [← hrx, if_pos h], by rw [← hry, if_pos h], by rw [← hrs, if_pos h]⟩)
  clear hrx hry hrs hfew
  go_upto_region 6 with fail
  clear c0 c1 c2 d0 d1 d2
  go_cut [9, 13, 14, 12] from 71 to 83 (fun s9 s13 s14 s12 wx => ∃ er : Value, s9 = .int .i64 rx ∧ s13 = .int .i64 ry ∧ s14 = .int .i64 rs ∧ s12 = er ∧ HeldR (ErrIs a (lawE p q m) er) ∧ HeldR (Below w5.heap.size w5 wx))
  case' first =>
    refine wp_region_made 9 #[true, true, true, true, true, true, true, false, false, false, false, false, false, false, false, false, false] [.lets (· = .pointer (some ⟨b, o, none⟩)),
      .lets (· = .pointer (some ⟨b, o, none⟩)),
      .lets (· = .agg #[.int .i64 p.wide, .int .i64 p.high, .slice ad p.L.length cap]),
      .lets (· = .pointer (some ⟨b2, o2, none⟩)),
      .lets (· = .pointer (some ⟨b2, o2, none⟩)),
      .lets (· = .agg #[.int .i64 q.wide, .int .i64 q.high, .slice ad2 q.L.length cap2]),
      .lets (· = .int .i64 m)] [] [] (by kernel_rfl) (by kernel_rfl) rfl ?kinds (by kernel_rfl) (by kernel_rfl) (by kernel_rfl) ?_
    case kinds =>
      constructor
      · intro i h
        rcases i with _ | _ | _ | _ | _ | _ | _ | i <;> simp [Kx.isMade] at h
      · intro i h
        rcases i with _ | _ | _ | _ | _ | _ | _ | i <;> simp [Kx.isUse] at h
    refine lexX_step (fun K hK => ⟨by kernel_rfl, ⟨_, rfl⟩, fun v hv => ?_, fun v hv => ?_⟩)
    · go_simp
      exact mUpon_b
    subst hv
    go_simp
    refine hK _ ?_
    clear hK K
    refine lexX_step (fun K hK => ⟨by kernel_rfl, ⟨_, rfl⟩, fun v hv => ?_, fun v hv => ?_⟩)
    · go_simp
      exact mUpon_b
    subst hv
    go_simp
    refine hK _ ?_
    clear hK K
    refine lexX_step (fun K hK => ⟨by kernel_rfl, ⟨_, rfl⟩, fun v hv => ?_, fun v hv => ?_⟩)
    · obtain ⟨_, c0, c1, c2, _⟩ := (unhideR HP1).below hv
      go_simp
      exact mUpon_b
    subst hv
    go_simp
    refine hK _ ?_
    clear hK K
    refine lexX_step (fun K hK => ⟨by kernel_rfl, ⟨_, rfl⟩, fun v hv => ?_, fun v hv => ?_⟩)
    · go_simp
      exact mUpon_b
    subst hv
    go_simp
    refine hK _ ?_
    clear hK K
    refine lexX_step (fun K hK => ⟨by kernel_rfl, ⟨_, rfl⟩, fun v hv => ?_, fun v hv => ?_⟩)
    · go_simp
      exact mUpon_b
    subst hv
    go_simp
    refine hK _ ?_
    clear hK K
    refine lexX_step (fun K hK => ⟨by kernel_rfl, ⟨_, rfl⟩, fun v hv => ?_, fun v hv => ?_⟩)
    · obtain ⟨_, c0, c1, c2, _⟩ := (unhideR HQ1).below hv
      go_simp
      exact mUpon_b
    subst hv
    go_simp
    refine hK _ ?_
    clear hK K
    refine lexX_step (fun K hK => ⟨by kernel_rfl, ⟨_, rfl⟩, fun v hv => ?_, fun v hv => ?_⟩)
    · go_simp
      exact mUpon_b
    subst hv
    go_simp
    refine hK _ ?_
    clear hK K
    refine lexX_end (fun v5 hv => ?_)
    have K5 := hv.low
    clear hv
    have hwd := unhideR HMd v5 K5
    refine wpAny_step (i := 7) (by kernel_rfl) rfl (by kernel_rfl) (fun K hK => ?_)
    unfold Oper.wp
    go_simp
    refine hwd.mono ?_
    rintro e w6 ⟨er, rfl, her, k6⟩
    have HE6 := hideR her
    have HB6 := hideR (below_go K5 k6)
    clear hwd her k6
    go_simp
    refine hK _ _ ?_
    clear hK K
    refine wpAny_step (i := 8) (by kernel_rfl) rfl (by kernel_rfl) (fun K hK => ?_)
    unfold Oper.wp
    go_simp
    refine hK _ _ ?_
    clear hK K
    refine wpAny_take (i := 9) (v := .int .i64 rx) rfl (by kernel_rfl) (by kernel_rfl) (by kernel_rfl) (fun _ _ _ h => h) (Or.inl ⟨by rfl, fun u => ?_⟩) ?_
    · go_simp
      try rfl
    go_simp
    refine wpAny_take (i := 10) (v := .int .i64 ry) rfl (by kernel_rfl) (by kernel_rfl) (by kernel_rfl) (fun _ _ _ h => h) (Or.inl ⟨by rfl, fun u => ?_⟩) ?_
    · go_simp
      try rfl
    go_simp
    refine wpAny_take (i := 11) (v := .int .i64 rs) rfl (by kernel_rfl) (by kernel_rfl) (by kernel_rfl) (fun _ _ _ h => h) (Or.inl ⟨by rfl, fun u => ?_⟩) ?_
    · go_simp
      try rfl
    go_simp
    refine wpAny_take (i := 12) (v := er) rfl (by kernel_rfl) (by kernel_rfl) (by kernel_rfl) (fun _ _ _ h => h) (Or.inl ⟨by rfl, fun u => ?_⟩) ?_
    · go_simp
      try rfl
    go_simp
    refine wpAny_step (i := 13) (by kernel_rfl) rfl (by kernel_rfl) (fun K hK => ?_)
    unfold Oper.wp
    go_simp
    refine hK _ _ ?_
    clear hK K
    refine wpAny_step (i := 14) (by kernel_rfl) rfl (by kernel_rfl) (fun K hK => ?_)
    unfold Oper.wp
    go_simp
    refine hK _ _ ?_
    clear hK K
    refine wpAny_step (i := 15) (by kernel_rfl) rfl (by kernel_rfl) (fun K hK => ?_)
    unfold Oper.wp
    go_simp
    refine hK _ _ ?_
    clear hK K
    refine wpAny_step (i := 16) (by kernel_rfl) rfl (by kernel_rfl) (fun K hK => ?_)
    unfold Oper.wp
    go_simp
    refine hK _ _ ?_
    clear hK K
    refine wpAny_end (by kernel_rfl) ?_
    go_wp2_with fail
    go_meet
    exact ⟨er, rfl, rfl, rfl, rfl, HE6, HB6⟩
  obtain ⟨er, rfl, rfl, rfl, rfl, HR, HB6⟩ := hcut
  have hpe := pictureError_any ((unhideR HP1).below (unhideR HB6)) hlp
  have HB7 := hideR (below_go (unhideR HB5) (unhideR HB6))
  by_cases he1 : picE p = 0
  case neg =>
    have hE : lawE p q m = picE p := by unfold lawE; rw [if_pos he1]
    have hpos := picE_pos he1
    obtain ⟨E, hEe⟩ : ∃ E, picE p = E := ⟨_, rfl⟩
    rw [hEe] at hE hpos hpe he1
    have tz : (E == 0) = false := beq_eq_false_iff_ne.2 he1
    have tpos : decide (0 < E) = true := decide_eq_true hpos
    obtain ⟨rfl, rfl, rfl⟩ := unhideR HZ (by rw [hE]; exact he1)
    rw [hE] at HR
    clear HZ HY HMd hEe hE
    go_wp2_with fail
    refine hpe.mono ?_
    rintro e w8 ⟨rfl, k8⟩
    have HB8 := hideR (below_go (unhideR HB7) k8)
    have hcd := coded_err (unhideR HS w8 (unhideR HB8)) (unhideR HR)
    clear hpe k8
    go_wp2_with fail
    refine hcd.mono ?_
    rintro e w9 ⟨rfl, k9⟩
    have HB9 := hideR (below_go (unhideR HB8) k9)
    clear hcd k9
    go_wp2
    go_ret
    exact ⟨rfl, unhideR HB9⟩
  case pos =>
  rw [he1] at hpe
  go_wp2_with fail
  refine hpe.mono ?_
  rintro e w8 ⟨rfl, k8⟩
  have HB8 := hideR (below_go (unhideR HB7) k8)
  have HBx := hideR (below_go (unhideR HB6) k8)
  have hqe := pictureError_any ((unhideR HQ1).below (unhideR HBx)) hlq
  clear hpe k8 HB6
  by_cases he2 : picE q = 0
  case neg =>
    have hE : lawE p q m = picE q := by unfold lawE; rw [if_neg (by simpa using he1), if_pos he2]
    have hpos := picE_pos he2
    obtain ⟨E, hEe⟩ : ∃ E, picE q = E := ⟨_, rfl⟩
    rw [hEe] at hE hpos hqe he2
    have tz : (E == 0) = false := beq_eq_false_iff_ne.2 he2
    have tpos : decide (0 < E) = true := decide_eq_true hpos
    obtain ⟨rfl, rfl, rfl⟩ := unhideR HZ (by rw [hE]; exact he2)
    rw [hE] at HR
    clear HZ HY HMd hEe hE
    go_wp2_with fail
    refine hqe.mono ?_
    rintro e w9 ⟨rfl, k9⟩
    have HB9 := hideR (below_go (unhideR HB8) k9)
    have hcd := coded_err (unhideR HS w9 (unhideR HB9)) (unhideR HR)
    clear hqe k9
    go_wp2_with fail
    refine hcd.mono ?_
    rintro e w10 ⟨rfl, k10⟩
    have HB10 := hideR (below_go (unhideR HB9) k10)
    clear hcd k10
    go_wp2
    go_ret
    exact ⟨rfl, unhideR HB10⟩
  case pos =>
  rw [he2] at hqe
  have hE0 : lawE p q m = if m < 0 ∨ 16 < m then 5 else 0 := by unfold lawE; rw [if_neg (by simpa using he1), if_neg (by simpa using he2)]
  go_wp2_with fail
  refine hqe.mono ?_
  rintro e w9 ⟨rfl, k9⟩
  have HB9 := hideR (below_go (unhideR HB8) k9)
  have HBy := hideR (below_go (unhideR HBx) k9)
  have HPn := hideR (pic_ok he1).n
  have HQn := hideR (pic_ok he2).n
  clear hqe k9 HB8 HBx he1 he2 HMd
  by_cases m0 : m < 0
  · have t0 : decide (m < 0) = true := decide_eq_true m0
    rw [if_pos (.inl m0)] at hE0
    obtain ⟨rfl, rfl, rfl⟩ := unhideR HZ (by rw [hE0]; decide)
    rw [hE0] at HR
    have hcd := coded_err (unhideR HS w9 (unhideR HB9)) (unhideR HR)
    clear HZ HY hE0
    go_wp2_with fail
    refine hcd.mono ?_
    rintro e w10 ⟨rfl, k10⟩
    have HB10 := hideR (below_go (unhideR HB9) k10)
    clear hcd k10
    go_wp2
    go_ret
    exact ⟨rfl, unhideR HB10⟩
  have t0 : decide (m < 0) = false := decide_eq_false m0
  by_cases m1 : 16 < m
  · have t1' : decide (16 < m) = true := decide_eq_true m1
    rw [if_pos (.inr m1)] at hE0
    obtain ⟨rfl, rfl, rfl⟩ := unhideR HZ (by rw [hE0]; decide)
    rw [hE0] at HR
    have hcd := coded_err (unhideR HS w9 (unhideR HB9)) (unhideR HR)
    clear HZ HY hE0
    go_wp2_with fail
    refine hcd.mono ?_
    rintro e w10 ⟨rfl, k10⟩
    have HB10 := hideR (below_go (unhideR HB9) k10)
    clear hcd k10
    go_wp2
    go_ret
    exact ⟨rfl, unhideR HB10⟩
  have t1' : decide (16 < m) = false := decide_eq_false m1
  rw [if_neg (fun h => h.elim m0 m1)] at hE0
  obtain ⟨e1, e2, e3⟩ := unhideR HY hE0
  subst e1
  subst e2
  subst e3
  rw [hE0] at HR
  have hcd := coded_err (unhideR HS w9 (unhideR HB9)) (unhideR HR)
  clear HZ HY hE0
  obtain ⟨mm, rfl⟩ : ∃ k : Nat, m = (k : Nat) := ⟨m.toNat, by omega⟩
  have HTg : HeldR (∀ u, Below w9.heap.size w9 u → ∀ dx dy : Int, -16 ≤ dx → dx ≤ 16 → -16 ≤ dy → dy ≤ 16 → Calls Tryd.prog 7 #[.pointer (some ⟨b, o, none⟩), .pointer (some ⟨b2, o2, none⟩), .int .i64 dx, .int .i64 dy] u (TgPost p q p.wide.toNat p.high.toNat q.wide.toNat q.high.toNat dx dy u)) := hideR (fun u k dx dy h1 h2 h3 h4 => togetherAt_any (((unhideR HP1).below (unhideR HBy)).below k) (((unhideR HQ1).below (unhideR HBy)).below k) (unhideR HPn) (unhideR HQn) dx dy h1 h2 h3 h4)
  have HMv : HeldR (movB p q ((mm : Nat) : Int) = bstY (tgV p.L q.L p.wide.toNat p.high.toNat q.wide.toNat q.high.toNat) ((mm : Nat) : Int) (2 * mm + 1)) := hideR rfl
  unfold TgPost at HTg
  generalize tgV p.L q.L p.wide.toNat p.high.toNat q.wide.toNat q.high.toNat = f at *
  generalize movB p q ((mm : Nat) : Int) = bb at *
  have wnm : IntKind.i64.wrap (-(mm : Int)) = -(mm : Int) := iwrap (by omega) (by omega)
  clear HPn HQn HP1 HQ1 HBy
  go_wp2_with fail
  refine hcd.mono ?_
  rintro e w10 ⟨rfl, k10⟩
  have HB10 := hideR (below_go (unhideR HB9) k10)
  have HK10 := hideR k10
  clear hcd k10
  go_wp2
  go_loopw [17, 18, 19, 20] (fun sv xv yv iv wl => ∃ (i : Nat), i ≤ 2 * mm + 1 ∧ iv = .int .i64 (-(mm : Int) + (i : Nat)) ∧ xv = .int .i64 (bstY f (mm : Nat) i).x ∧ yv = .int .i64 (bstY f (mm : Nat) i).y ∧ sv = .int .i64 (bstY f (mm : Nat) i).s ∧ HeldR (Below w10.heap.size w10 wl)) (fun _ _ _ iv _ => (40 - intOf iv).toNat)
  case atStart => exact ⟨0, by omega, by simp, rfl, rfl, rfl, hideR (Below.refl _ _)⟩
  case round =>
    obtain ⟨i, hi, rfl, rfl, rfl, rfl, HBw⟩ := hrel
    by_cases hli : i < 2 * mm + 1
    · have ti : decide (-(mm : Int) + (i : Int) ≤ (mm : Int)) = true := decide_eq_true (by omega)
      have wi : IntKind.i64.wrap (-(mm : Int) + (i : Int) + 1) = -(mm : Int) + ((i + 1 : Nat) : Int) := by rw [show -(mm : Int) + (i : Int) + 1 = -(mm : Int) + ((i + 1 : Nat) : Int) by omega]; exact iwrap (by omega) (by omega)
      have HYn : HeldR (bstY f (mm : Nat) (i + 1) = bstX f (mm : Nat) (-(mm : Int) + (i : Nat)) (bstY f (mm : Nat) i) (2 * mm + 1)) := hideR (by
        show bstX f (mm : Nat) (-(mm : Int) + (i : Nat)) (bstY f (mm : Nat) i) (2 * ((mm : Nat) : Int) + 1).toNat = _
        rw [show (2 * ((mm : Nat) : Int) + 1).toNat = 2 * mm + 1 by omega])
      generalize bstY f (mm : Nat) i = b0 at *
      go_wp2
      go_loopw [17, 18, 19, 21] (fun sv xv yv iv wl => ∃ (j : Nat), j ≤ 2 * mm + 1 ∧ iv = .int .i64 (-(mm : Int) + (j : Nat)) ∧ xv = .int .i64 (bstX f (mm : Nat) (-(mm : Int) + (i : Nat)) b0 j).x ∧ yv = .int .i64 (bstX f (mm : Nat) (-(mm : Int) + (i : Nat)) b0 j).y ∧ sv = .int .i64 (bstX f (mm : Nat) (-(mm : Int) + (i : Nat)) b0 j).s ∧ HeldR (Below w10.heap.size w10 wl)) (fun _ _ _ iv _ => (40 - intOf iv).toNat)
      case atStart => exact ⟨0, by omega, by simp, rfl, rfl, rfl, HBw⟩
      case round =>
        clear HBw
        obtain ⟨j, hj, rfl, rfl, rfl, rfl, HBw⟩ := hrel
        by_cases hlj : j < 2 * mm + 1
        · have tj : decide (-(mm : Int) + (j : Int) ≤ (mm : Int)) = true := decide_eq_true (by omega)
          have wj : IntKind.i64.wrap (-(mm : Int) + (j : Int) + 1) = -(mm : Int) + ((j + 1 : Nat) : Int) := by rw [show -(mm : Int) + (j : Int) + 1 = -(mm : Int) + ((j + 1 : Nat) : Int) by omega]; exact iwrap (by omega) (by omega)
          have HXn : HeldR (bstX f (mm : Nat) (-(mm : Int) + (i : Nat)) b0 (j + 1) = bstP (bstX f (mm : Nat) (-(mm : Int) + (i : Nat)) b0 j) (-(mm : Int) + (j : Nat)) (-(mm : Int) + (i : Nat)) (f (-(mm : Int) + (j : Nat)) (-(mm : Int) + (i : Nat)))) := hideR rfl
          generalize bstX f (mm : Nat) (-(mm : Int) + (i : Nat)) b0 j = b1 at *
          have htg := unhideR HTg wr (below_go (unhideR HK10) (unhideR HBw)) (-(mm : Int) + (j : Nat)) (-(mm : Int) + (i : Nat)) (by omega) (by omega) (by omega) (by omega)
          generalize f (-(mm : Int) + (j : Nat)) (-(mm : Int) + (i : Nat)) = s9 at *
          go_wp2_with fail
          refine htg.mono ?_
          rintro e w13 ⟨rfl, n13, rfl⟩
          have HB3 := hideR (drew_below _ n13 (unhideR HBw))
          clear htg HBw
          generalize wr.drewN n13 = w13 at *
          by_cases hs : b1.s < s9
          · have ts : decide (b1.s < s9) = true := decide_eq_true hs
            unfold bstP at HXn
            rw [if_pos hs] at HXn
            go_wp2
            exact ⟨⟨j + 1, by omega, by first | rfl | go_num | (congr 1; omega), by rw [unhideR HXn], by rw [unhideR HXn], by rw [unhideR HXn], HB3⟩, by simp [intOf]; omega⟩
          · have ts : decide (b1.s < s9) = false := decide_eq_false hs
            unfold bstP at HXn
            rw [if_neg hs] at HXn
            go_wp2
            exact ⟨⟨j + 1, by omega, by first | rfl | go_num | (congr 1; omega), by rw [unhideR HXn], by rw [unhideR HXn], by rw [unhideR HXn], HB3⟩, by simp [intOf]; omega⟩
        · obtain rfl : j = 2 * mm + 1 := by omega
          have tj : decide (-(mm : Int) + ((2 * mm + 1 : Nat) : Int) ≤ (mm : Int)) = false := decide_eq_false (by omega)
          obtain ⟨mk, hmk⟩ : ∃ k, 2 * mm + 1 = k := ⟨_, rfl⟩
          rw [hmk] at HYn tj ⊢
          go_wp2
          exact ⟨⟨i + 1, by omega, by first | rfl | go_num | (congr 1; omega), by rw [unhideR HYn], by rw [unhideR HYn], by rw [unhideR HYn], HBw⟩, by simp [intOf]; omega⟩
    · obtain rfl : i = 2 * mm + 1 := by omega
      have ti : decide (-(mm : Int) + ((2 * mm + 1 : Nat) : Int) ≤ (mm : Int)) = false := decide_eq_false (by omega)
      have HF := hideR (below_go (unhideR HB10) (unhideR HBw))
      rw [← unhideR HMv]
      clear HTg HMv
      obtain ⟨mk, hmk⟩ : ∃ k, 2 * mm + 1 = k := ⟨_, rfl⟩
      rw [hmk] at ti ⊢
      have u1 : (bb.s == bb.s) = true := by simp
      have u2 : (bb.x == bb.x) = true := by simp
      have u3 : (bb.y == bb.y) = true := by simp
      go_wp2
      go_ret
      exact ⟨rfl, unhideR HF⟩
end Go.Proofs.YtngdemhhcablmalDoor
