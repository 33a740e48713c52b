/-
  By halves: the program's, by contract.
-/
import Derived.Test.YtngdemhhcablmakDoorShX3
import Derived.Test.YtngdemhhcablmakDoorShH0
import Derived.Deep.CutRange
namespace Go.Proofs.YtngdemhhcablmakDoor
open Go Go.RowKit

def CdS (x y : Nat × Nat) (v : Value) : Prop := ∃ r : Nat × Nat, v = .complex .f64 r.1 r.2 ∧ CAd x y r
def CbS (x y : Nat × Nat) (v : Value) : Prop := ∃ r : Nat × Nat, v = .complex .f64 r.1 r.2 ∧ CSb x y r
theorem cdS_some (x y : Nat × Nat) : ∃ v, CdS x y v := by
  obtain ⟨r, k⟩ := cad_some x y
  exact ⟨_, r, rfl, k⟩
theorem cbS_some (x y : Nat × Nat) : ∃ v, CbS x y v := by
  obtain ⟨r1, h5⟩ := fop_one .sub x.1 y.1
  obtain ⟨r2, h6⟩ := fop_one .sub x.2 y.2
  exact ⟨_, (r1, r2), rfl, h5, h6⟩
theorem cad_is {P : Program} {x y : Nat × Nat} {v : World} {t : TypeId} : mUpon P (CdS x y) v ((Sem.run P (binOp .add t (.complex .f64 x.1 x.2) (.complex .f64 y.1 y.2)) v).andThen fun v w' => .ok (.value v) w') := by
  rw [run_cxadd]
  exact ⟨below_go (drawn_below v _) (drawn_below _ _), (_, _), rfl, fnum_is _ _ _ _, fnum_is _ _ _ _⟩
theorem csb_is {P : Program} {x y : Nat × Nat} {v : World} {t : TypeId} : mUpon P (CbS x y) v ((Sem.run P (binOp .sub t (.complex .f64 x.1 x.2) (.complex .f64 y.1 y.2)) v).andThen fun v w' => .ok (.value v) w') := by
  rw [run_cxsub]
  exact ⟨below_go (drawn_below v _) (drawn_below _ _), (_, _), rfl, fnum_is _ _ _ _, fnum_is _ _ _ _⟩
theorem CxOwn.other {w : World} {B g c n cap : Nat} {X : List (Nat × Nat)} (h : CxOwn w B (.slice (some ⟨g, 0, none⟩) n cap) X) (hg : g ≠ c) (i : Nat) (u : Value) : CxOwn (w.setCell ⟨c, i, none⟩ u) B (.slice (some ⟨g, 0, none⟩) n cap) X := by
  obtain ⟨h1, h2⟩ := h
  refine ⟨h1, ?_⟩
  rcases h2 with h2 | ⟨g', cap', cur, hv, hb, hh, r⟩
  · exact .inl h2
  · injection hv with hv e1 e2
    injection hv with hv
    injection hv with hv
    subst hv
    refine .inr ⟨g, cap', cur, by rw [e1, e2], hb, ?_, r⟩
    rw [Below.heap_setCell _ _ _ _ hg]
    exact hh
theorem cx_one (w : World) (p q : Nat) : CxOwn (w.alloc (.cells #[.complex .f64 p q] 41)) w.heap.size (.slice (some ⟨w.heap.size, 0, none⟩) 1 1) [(p, q)] :=
  ⟨rfl, .inr ⟨w.heap.size, 1, #[.complex .f64 p q], rfl, Nat.le_refl _, alloc_last w _, Nat.le_refl _, by decide, rfl, rfl⟩⟩
theorem drew1_below0 (w : World) : Below w.heap.size w w.drew := ⟨rfl, rfl, rfl, Nat.le_refl _, fun _ _ => rfl⟩
theorem CxOwn.lower {w : World} {B C : Nat} {v : Value} {X : List (Nat × Nat)} (h : CxOwn w B v X) (hC : C ≤ B) : CxOwn w C v X := by
  obtain ⟨h1, h2⟩ := h
  refine ⟨h1, ?_⟩
  rcases h2 with h2 | ⟨g', cap', cur, hv, hb, r⟩
  · exact .inl h2
  · exact .inr ⟨g', cap', cur, hv, by omega, r⟩
def HcPost (L : List (Nat × Nat)) (d : Nat) (back : Bool) (w : World) (e : Ending) (w' : World) : Prop := ∃ (X : List (Nat × Nat)) (g n : Nat), e = .returned (.slice (some ⟨g, 0, none⟩) n n) ∧ n = 2 ^ d ∧ X.length = n ∧ HvR back d (fun i => L.getD i (0, 0)) (fun i => X.getD i (0, 0)) ∧ CxOwn w' w.heap.size (.slice (some ⟨g, 0, none⟩) n n) X ∧ Below w.heap.size w w'
def HcC (back : Bool) (d : Nat) : Prop := ∀ {w : World} {a1 : Option Addr} {c1 : Nat} {L : List (Nat × Nat)}, CxCame w a1 L → L.length = 2 ^ d → L.length ≤ 256 → Calls Tryd.prog 49 #[.slice a1 L.length c1, .bool back] w (HcPost L d back w)
set_option maxRecDepth 100000 in
set_option maxHeartbeats 1600000 in
theorem halved_one (back : Bool) : HcC back 0 := by
  intro w a1 c1 L hL hs hl
  rw [Nat.pow_zero] at hs
  obtain ⟨b1, o1, rfl, _, x0⟩ := hL.at_ 0 (by omega)
  rw [Nat.add_zero] at x0
  have HE : HeldR (HcPost L 0 back w (.returned (.slice (some ⟨w.heap.size, 0, none⟩) 1 1)) (w.alloc (.cells #[.complex .f64 (L.getD 0 (0, 0)).1 (L.getD 0 (0, 0)).2] 41))) := hideR ⟨[L.getD 0 (0, 0)], _, 1, rfl, rfl, rfl, .one rfl, cx_one w _ _, below_a w _⟩
  rw [hs]
  generalize (L.getD 0 (0, 0)).1 = re at *
  generalize (L.getD 0 (0, 0)).2 = im at *
  clear hL hs hl
  go_enter Tryd.func49, Tryd.ntmps49
  go_wp2
  go_ret
  exact unhideR HE
/-- those at even places and at odd ones, k of each. -/
structure SpK2 (L E O : List (Nat × Nat)) (h k : Nat) : Prop where
  le : E.length = h
  lo : O.length = h
  ev : ∀ i, i < k → E.getD i (0, 0) = L.getD (2 * i) (0, 0)
  od : ∀ i, i < k → O.getD i (0, 0) = L.getD (2 * i + 1) (0, 0)
theorem SpK2.next {L E O : List (Nat × Nat)} {h k : Nat} (q : SpK2 L E O h k) (hk : k < h) : SpK2 L (E.set k (L.getD (2 * k) (0, 0))) (O.set k (L.getD (2 * k + 1) (0, 0))) h (k + 1) := by
  refine ⟨by rw [List.length_set]; exact q.le, by rw [List.length_set]; exact q.lo, fun i hi => ?_, fun i hi => ?_⟩
  · by_cases e : i = k
    · subst e
      rw [cget_same (by rw [q.le]; exact hk)]
    · rw [cget_other e]
      exact q.ev i (by omega)
  · by_cases e : i = k
    · subst e
      rw [cget_same (by rw [q.lo]; exact hk)]
    · rw [cget_other e]
      exact q.od i (by omega)
/-- how the loop of a step of halves stands. -/
def Hv7 (back : Bool) (d : Nat) (E O T : List (Nat × Nat)) (n h g gt B3 : Nat) (w2 : World) (k : Nat) (v : World) : Prop := ∃ M, HvK back d E O M k ∧ M.length = n ∧ CxOwn v g (.slice (some ⟨g, 0, none⟩) n n) M ∧ CxOwn v B3 (.slice (some ⟨gt, 0, none⟩) h h) T ∧ Below w2.heap.size w2 v
theorem Hv7.end_ {back : Bool} {d : Nat} {E O T : List (Nat × Nat)} {n h g gt B3 : Nat} {w2 : World} {k : Nat} {v : World} (hk : k < h) (z : Hv7 back d E O T n h g gt B3 w2 (k + 1) v) : ∃ (k' : Nat) (M : List (Nat × Nat)), k' ≤ h ∧ Value.int .i64 ((k : Int) + 1) = .int .i64 (k' : Nat) ∧ HeldR (HvK back d E O M k') ∧ HeldR (M.length = n) ∧ HeldR (CxOwn v g (.slice (some ⟨g, 0, none⟩) n n) M) ∧ HeldR (CxOwn v B3 (.slice (some ⟨gt, 0, none⟩) h h) T) ∧ HeldR (Below w2.heap.size w2 v) := by
  obtain ⟨M, z1, z2, z3, z4, z5⟩ := z
  exact ⟨k + 1, M, hk, by congr 1, hideR z1, hideR z2, hideR z3, hideR z4, hideR z5⟩
theorem below_dr {w v : World} {B : Nat} (h : Below B w v) (m : Nat) : Below B w (v.drewN m) := ⟨h.os, h.tape, h.output, h.size, h.block⟩
set_option maxRecDepth 100000 in
set_option maxHeartbeats 6400000 in
theorem halved_step (back : Bool) (d : Nat) (ih : HcC back d) : HcC back (d + 1) := by
  intro w a1 c1 L hL hs hl
  obtain ⟨h, hh⟩ : ∃ q, 2 ^ d = q := ⟨_, rfl⟩
  have hh0 : 0 < h := by rw [← hh]; exact Nat.two_pow_pos d
  have hp : 2 ^ (d + 1) = h + h := by rw [Nat.pow_succ, hh]; omega
  rw [hp] at hs
  obtain ⟨n, hn⟩ : ∃ q, h + h = q := ⟨_, rfl⟩
  have HL : HeldR (∀ u, Below w.heap.size w u → CxCame u a1 L) := hideR (fun u k => hL.below k)
  have HIh : HeldR (∀ (u : World) (a1 : Option Addr) (c1 : Nat) (M : List (Nat × Nat)), CxCame u a1 M → M.length = h → Calls Tryd.prog 49 #[.slice a1 h c1, .bool back] u (HcPost M d back u)) := hideR (fun u a1 c1 M h1 h2 => by
    have := ih (w := u) (a1 := a1) (c1 := c1) (L := M) h1 (by rw [h2, hh]) (by omega)
    rw [h2] at this
    exact this)
  have HEnd : HeldR (∀ (E O E0 O0 M : List (Nat × Nat)) (u : World) (g : Nat), SpK2 L E0 O0 h h → HvR back d (fun i => E0.getD i (0, 0)) (fun i => E.getD i (0, 0)) → HvR back d (fun i => O0.getD i (0, 0)) (fun i => O.getD i (0, 0)) → HvK back d E O M h → M.length = n → CxOwn u w.heap.size (.slice (some ⟨g, 0, none⟩) n n) M → Below w.heap.size w u → HcPost L (d + 1) back w (.returned (.slice (some ⟨g, 0, none⟩) n n)) u) := hideR (fun E O E0 O0 M u g h0 h1 h2 h3 h4 h5 h6 => by
    refine ⟨M, g, n, rfl, by rw [← hn, hp], h4, ?_, h5, h6⟩
    refine HvR.two (E := fun i => E.getD i (0, 0)) (O := fun i => O.getD i (0, 0)) (h1.congr (fun i hi => ?_)) (h2.congr (fun i hi => ?_)) (fun k hk => ?_)
    · exact (h0.ev i (by rw [← hh]; exact hi)).symm
    · exact (h0.od i (by rw [← hh]; exact hi)).symm
    · exact h3 k (by rw [← hh]; exact hk))
  rw [hs]
  rw [hn] at hs ⊢
  have HLl := hideR hs
  have HH := hideR hh
  have HNe := hideR hn
  have hnl : n ≤ 256 := by omega
  have hhl : h < n := by omega
  have hn1 : n ≠ 1 := by omega
  have hn2 : (n : Int) ≠ 1 := by omega
  have tn : decide ((n : Int) = 1) = false := decide_eq_false hn2
  have tnb : ((n : Int) == 1) = false := beq_eq_false_iff_ne.2 hn2
  have d1 : (n : Int) / 2 = (h : Nat) := by omega
  have d2 : (n : Int).tdiv 2 = (h : Nat) := (Int.tdiv_eq_ediv_of_nonneg (Int.natCast_nonneg n)).trans d1
  have d3 : IntKind.i64.wrap ((h : Nat) : Int) = (h : Nat) := by clear d1 d2; exact iwrap (by omega) (by omega)
  obtain ⟨w1, hmk1, hown1, hb1⟩ := make_zeroC (w := w.drew) (n := h) w.heap.size (Nat.le_refl _) (by omega)
  obtain ⟨w2, hmk2, hown2, hb2⟩ := make_zeroC (w := w1) (n := h) w.heap.size hb1.size (by omega)
  have HW2 : HeldR (CxOwn w2 w.heap.size (.slice (some ⟨w.heap.size, 0, none⟩) h h) (List.replicate h (0, 0)) ∧ CxOwn w2 w.heap.size (.slice (some ⟨w1.heap.size, 0, none⟩) h h) (List.replicate h (0, 0)) ∧ w.heap.size ≠ w1.heap.size ∧ Below w.heap.size w w2) := hideR ⟨hown1.below hb2, hown2, by
    have := hown1.lt0
    have e : w.drew.heap.size = w.heap.size := rfl
    omega, below_go (below_go (drew1_below0 w) hb1) hb2⟩
  clear ih hs hL hl hp hh hn hown1 hown2 hb1 hb2
  go_enter Tryd.func49, Tryd.ntmps49
  go_upto_region 4 with fail
  go_cut [6, 7] from 21 to 26 (fun s6 s7 wx => ∃ ge go' : Nat, s6 = .slice (some ⟨ge, 0, none⟩) h h ∧ s7 = .slice (some ⟨go', 0, none⟩) h h ∧ HeldR (CxOwn wx w.heap.size (.slice (some ⟨ge, 0, none⟩) h h) (List.replicate h (0, 0)) ∧ CxOwn wx w.heap.size (.slice (some ⟨go', 0, none⟩) h h) (List.replicate h (0, 0)) ∧ ge ≠ go' ∧ Below w.heap.size w wx))
  case' first =>
    go_region
    all_goals
      go_wp2
      go_meet
      refine ⟨_, _, rfl, rfl, ?_⟩
      first | exact HW2 | exact hideR ⟨(unhideR HW2).2.1, (unhideR HW2).1, (unhideR HW2).2.2.1.symm, (unhideR HW2).2.2.2⟩
  obtain ⟨ge, go', rfl, rfl, HW⟩ := hcut
  have hgne := (unhideR HW).2.2.1
  have HX : HeldR (∃ E O, SpK2 L E O h 0 ∧ CxOwn wc w.heap.size (.slice (some ⟨ge, 0, none⟩) h h) E ∧ CxOwn wc w.heap.size (.slice (some ⟨go', 0, none⟩) h h) O) := hideR ⟨_, _, ⟨List.length_replicate, List.length_replicate, fun i hi => absurd hi (Nat.not_lt_zero i), fun i hi => absurd hi (Nat.not_lt_zero i)⟩, (unhideR HW).1, (unhideR HW).2.1⟩
  have HB2 := hideR (unhideR HW).2.2.2
  clear HW HW2 hmk1 hmk2 w1 w2
  go_wp2
  go_loopw [29] (fun iv wl => ∃ (k : Nat) (E O : List (Nat × Nat)), k ≤ h ∧ iv = .int .i64 (k : Nat) ∧ HeldR (SpK2 L E O h k) ∧ HeldR (CxOwn wl w.heap.size (.slice (some ⟨ge, 0, none⟩) h h) E) ∧ HeldR (CxOwn wl w.heap.size (.slice (some ⟨go', 0, none⟩) h h) O) ∧ HeldR (Below w.heap.size w wl)) (fun iv _ => h + 1 - (intOf iv).toNat)
  case atStart =>
    obtain ⟨E, O, q1, q2, q3⟩ := unhideR HX
    exact ⟨0, E, O, by omega, rfl, hideR q1, hideR q2, hideR q3, HB2⟩
  case round =>
    clear HX HB2
    obtain ⟨k, E, O, hk, rfl, HK, HE, HO, HB⟩ := hrel
    by_cases hlt : k < h
    · have tk : decide (k < h) = true := decide_eq_true hlt
      have tki : decide ((k : Int) < (h : Int)) = true := decide_eq_true (by omega)
      have jk : (k : Int) < (h : Int) := by omega
      have wk : IntKind.i64.wrap ((k : Int) + 1) = ((k + 1 : Nat) : Int) := by rw [show (k : Int) + 1 = ((k + 1 : Nat) : Int) by omega]; exact iwrap (by omega) (by omega)
      obtain ⟨b1, o1, rfl, _, y1⟩ := (unhideR HL wr (unhideR HB)).at_ (2 * k) (by rw [unhideR HLl, ← unhideR HNe]; omega)
      obtain ⟨b2, o2, e2, _, y2⟩ := (unhideR HL wr (unhideR HB)).at_ (2 * k + 1) (by rw [unhideR HLl, ← unhideR HNe]; omega)
      injection e2 with e2
      injection e2 with e3 e4
      subst e3
      subst e4
      obtain ⟨p1, hp1⟩ : ∃ q, 2 * k = q := ⟨_, rfl⟩
      obtain ⟨p2, hp2⟩ : ∃ q, 2 * k + 1 = q := ⟨_, rfl⟩
      have hpn : p2 < n := by rw [← unhideR HNe]; omega
      have w1' : IntKind.i64.wrap (2 * (k : Int)) = (p1 : Nat) := by rw [show 2 * (k : Int) = (p1 : Nat) by omega]; exact iwrap (by omega) (by omega)
      have w2' : IntKind.i64.wrap ((p1 : Int) + 1) = (p2 : Nat) := by rw [show (p1 : Int) + 1 = (p2 : Nat) by omega]; exact iwrap (by omega) (by omega)
      have j1 : (p1 : Int) < (n : Int) := by omega
      have j2 : (p2 : Int) < (n : Int) := by omega
      have HK' := hideR ((unhideR HK).next hlt)
      rw [hp2, hp1] at HK'
      rw [hp1] at y1
      rw [hp2] at y2
      have HBb : HeldR (b1 < w.heap.size) := hideR (by
        obtain ⟨b9, o9, e9, h9, _⟩ := (unhideR HL w (Below.refl _ _)).at_ 0 (by rw [unhideR HLl]; omega)
        injection e9 with e9
        injection e9 with e9
        subst e9
        exact h9)
      obtain ⟨xc1, xf1⟩ := (unhideR HE).has (unhideR HK).le (k := k) hlt
      obtain ⟨xc2, xf2⟩ := (unhideR HO).has (unhideR HK).lo (k := k) hlt
      have hb1e : b1 ≠ ge := by
        have := (unhideR HE).low
        have := unhideR HBb
        omega
      have hb1o : b1 ≠ go' := by
        have := (unhideR HO).low
        have := unhideR HBb
        omega
      have HWx : HeldR (∀ x y : Nat × Nat, CxOwn ((wr.setCell ⟨ge, k, none⟩ (.complex .f64 x.1 x.2)).setCell ⟨go', k, none⟩ (.complex .f64 y.1 y.2)) w.heap.size (.slice (some ⟨ge, 0, none⟩) h h) (E.set k x) ∧ CxOwn ((wr.setCell ⟨ge, k, none⟩ (.complex .f64 x.1 x.2)).setCell ⟨go', k, none⟩ (.complex .f64 y.1 y.2)) w.heap.size (.slice (some ⟨go', 0, none⟩) h h) (O.set k y) ∧ Below w.heap.size w ((wr.setCell ⟨ge, k, none⟩ (.complex .f64 x.1 x.2)).setCell ⟨go', k, none⟩ (.complex .f64 y.1 y.2))) := hideR (fun x y => ⟨((unhideR HE).put (unhideR HK).le k x).other hgne _ _, ((unhideR HO).other (fun e => hgne e.symm) _ _).put (unhideR HK).lo k y, ((unhideR HB).setCell (unhideR HE).low _).setCell (unhideR HO).low _⟩)
      obtain ⟨q1, hq1⟩ : ∃ q, L.getD p1 (0, 0) = q := ⟨_, rfl⟩
      obtain ⟨q2, hq2⟩ : ∃ q, L.getD p2 (0, 0) = q := ⟨_, rfl⟩
      obtain ⟨xr, xi⟩ := q1
      obtain ⟨yr, yi⟩ := q2
      rw [hq1] at y1 HK'
      rw [hq2] at y2 HK'
      have hsto := fun w a x y m => run_store Tryd.prog w a (.complex .f64 x y) m rfl
      generalize (E.getD k (0, 0)).1 = er at *
      generalize (E.getD k (0, 0)).2 = ei at *
      generalize (O.getD k (0, 0)).1 = orr at *
      generalize (O.getD k (0, 0)).2 = oi at *
      have HF : HeldR (∀ v, v = ((wr.setCell ⟨ge, k, none⟩ (.complex .f64 xr xi)).setCell ⟨go', k, none⟩ (.complex .f64 yr yi)).drew → ∃ E O, HeldR (SpK2 L E O h (k + 1)) ∧ HeldR (CxOwn v w.heap.size (.slice (some ⟨ge, 0, none⟩) h h) E) ∧ HeldR (CxOwn v w.heap.size (.slice (some ⟨go', 0, none⟩) h h) O) ∧ HeldR (Below w.heap.size w v)) := hideR (fun v hv => by
        subst hv
        obtain ⟨z1, z2, z3⟩ := unhideR HWx (xr, xi) (yr, yi)
        exact ⟨_, _, HK', hideR (z1.below (drew1_below0 _)), hideR (z2.below (drew1_below0 _)), hideR (drew1_go0 z3)⟩)
      clear hq1 hq2 HK HE HO HB HK' HWx hp1 hp2 HBb
      go_wp2
      go_region
      all_goals
        go_wp2
        obtain ⟨E', O', z1, z2, z3, z4⟩ := unhideR HF _ rfl
        exact ⟨⟨k + 1, E', O', by omega, by first | rfl | go_num, z1, z2, z3, z4⟩, by clear d1 d2; simp [intOf]; omega⟩
    · obtain rfl : h = k := by omega
      have tk : decide (h < h) = false := decide_eq_false hlt
      have tki : decide ((h : Int) < (h : Int)) = false := decide_eq_false (by omega)
      have hce := unhideR HIh wr (some ⟨ge, 0, none⟩) h E (unhideR HE).row (unhideR HK).le
      clear HE
      go_wp2_with fail
      refine hce.mono ?_
      rintro e w1 ⟨E1, g1, n1, rfl, hn1', hE1, rE, oE, bE⟩
      obtain rfl : h = n1 := by rw [hn1', unhideR HH]
      have HBa := hideR (below_go (unhideR HB) bE)
      have hco := unhideR HIh w1 (some ⟨go', 0, none⟩) h O ((unhideR HO).below bE).row (unhideR HK).lo
      have HE1 := hideR hE1
      have HrE := hideR rE
      have HoE := hideR oE
      clear hce HO HB hn1' hE1 rE oE bE
      go_wp2_with fail
      refine hco.mono ?_
      rintro e w2 ⟨O1, g2, n2, rfl, hn2', hO1, rO, oO, bO⟩
      obtain rfl : h = n2 := by rw [hn2', unhideR HH]
      have HBb := hideR (below_go (unhideR HBa) bO)
      have HO1 := hideR hO1
      have HrO := hideR rO
      have HoE2 := hideR ((unhideR HoE).below bO)
      have HoO := hideR oO
      clear hco HBa hn2' hO1 rO oO bO HoE
      obtain ⟨w3, hmk, hown, hb3⟩ := make_zeroC (w := w2) (n := n) w2.heap.size (Nat.le_refl _) (by omega)
      have hto := turnsOf_any n h back (by omega) (by omega) (by omega) w3
      have HM0 := hideR hown
      have HB3 := hideR hb3
      obtain ⟨g, hg⟩ : ∃ g, w2.heap.size = g := ⟨_, rfl⟩
      have HG := hideR hg
      rw [hg] at hmk HM0
      clear hown hb3 hg
      have HgL : HeldR (g1 < g ∧ g2 < g) := hideR (by
        rw [← unhideR HG]
        exact ⟨(unhideR HoE2).lt0, (unhideR HoO).lt0⟩)
      go_wp2_with fail
      refine hto.mono ?_
      rintro e w4 ⟨T, gt, rfl, hT, oT, bT⟩
      have HTn := hideR hT.2
      have HTl := hideR hT.1
      have HgT : HeldR (gt ≠ g) := hideR (by
        have h1 := oT.low
        have h2 := (unhideR HM0).lt0
        omega)
      have HoT := hideR (oT)
      have HM4 := hideR ((unhideR HM0).below bT)
      have HB4 := hideR (below_go (unhideR HB3) bT)
      have HEc : HeldR (∀ v, Below w2.heap.size w2 v → ∀ k, k < h → v.cell? ⟨g1, k, none⟩ = some (.complex .f64 (E1.getD k (0, 0)).1 (E1.getD k (0, 0)).2)) := hideR (fun v hv k hk => (((unhideR HoE2).below hv).has (unhideR HE1) hk).1)
      have HOc : HeldR (∀ v, Below w2.heap.size w2 v → ∀ k, k < h → v.cell? ⟨g2, k, none⟩ = some (.complex .f64 (O1.getD k (0, 0)).1 (O1.getD k (0, 0)).2)) := hideR (fun v hv k hk => (((unhideR HoO).below hv).has (unhideR HO1) hk).1)
      clear hto hT oT bT HM0 HB3 hmk HoE2 HoO
      generalize w3.heap.size = B3 at *
      go_wp2
      go_loopw [64] (fun iv wl => ∃ (k : Nat) (M : List (Nat × Nat)), k ≤ h ∧ iv = .int .i64 (k : Nat) ∧ HeldR (HvK back d E1 O1 M k) ∧ HeldR (M.length = n) ∧ HeldR (CxOwn wl g (.slice (some ⟨g, 0, none⟩) n n) M) ∧ HeldR (CxOwn wl B3 (.slice (some ⟨gt, 0, none⟩) h h) T) ∧ HeldR (Below w2.heap.size w2 wl)) (fun iv _ => h + 1 - (intOf iv).toNat)
      case atStart => exact ⟨0, _, by omega, rfl, hideR (fun i hi => absurd hi (Nat.not_lt_zero i)), hideR List.length_replicate, HM4, HoT, HB4⟩
      case round =>
        clear HM4 HoT HB4
        obtain ⟨k, M, hk, rfl, HV, HMl, HO, HT, HB⟩ := hrel
        by_cases hlk : k < h
        · have tk' : decide (k < h) = true := decide_eq_true hlk
          have tki' : decide ((k : Int) < (h : Int)) = true := decide_eq_true (by omega)
          have jk : (k : Int) < (h : Int) := by omega
          have jk2 : (k : Int) < (n : Int) := by omega
          have jk3 : k < n := by omega
          obtain ⟨kh, hkh⟩ : ∃ q, k + h = q := ⟨_, rfl⟩
          have jk4 : kh < n := by have := unhideR HNe; omega
          have jk5 : (kh : Int) < (n : Int) := by omega
          have wk' : IntKind.i64.wrap ((k : Int) + 1) = ((k + 1 : Nat) : Int) := by rw [show (k : Int) + 1 = ((k + 1 : Nat) : Int) by omega]; exact iwrap (by omega) (by omega)
          have wkh : IntKind.i64.wrap ((k : Int) + (h : Int)) = (kh : Nat) := by clear d1 d2; rw [show (k : Int) + (h : Int) = (kh : Nat) by omega]; exact iwrap (by omega) (by omega)
          obtain ⟨xt, _⟩ := (unhideR HT).has (unhideR HTl) (k := k) hlk
          have xo := unhideR HOc wr (unhideR HB) k hlk
          have HTk := hideR (unhideR HTn k hlk)
          have HNx : HeldR (∀ t r s, CPr (O1.getD k (0, 0)) (T.getD k (0, 0)) t → CAd (E1.getD k (0, 0)) t r → CSb (E1.getD k (0, 0)) t s → HvK back d E1 O1 ((M.set k r).set kh s) (k + 1)) := hideR (fun t r s h1 h2 h3 => by
            have hp : 2 ^ (d + 1) = n := by rw [Nat.pow_succ, unhideR HH]; have := unhideR HNe; omega
            have := (unhideR HV).next (r := r) (s := s) (t := t) (by rw [unhideR HMl, unhideR HH, unhideR HNe]) (by rw [unhideR HH]; exact hlk) (by rw [hp, ← unhideR HTk]; exact h1) h2 h3
            rw [unhideR HH, hkh] at this
            exact this)
          have hpr := fun v => sproduct_any (O1.getD k (0, 0)) (T.getD k (0, 0)) v
          generalize O1.getD k (0, 0) = ov at *
          generalize T.getD k (0, 0) = tv at *
          obtain ⟨o1', o2'⟩ := ov
          obtain ⟨t1', t2'⟩ := tv
          go_wp2_with fail
          refine (hpr _).mono ?_
          rintro e w5 ⟨t, rfl, ht, b5⟩
          have Ht := hideR ht
          have HO' := hideR ((unhideR HO).below b5)
          have HT' := hideR ((unhideR HT).below b5)
          have HB' := hideR (below_go (unhideR HB) b5)
          clear hpr ht b5 HO HT HB xt xo HTk
          have HO := HO'
          have HB := HB'
          have HEb : HeldR (∀ v, Below w5.heap.size w5 v → v.cell? ⟨g1, k, none⟩ = some (.complex .f64 (E1.getD k (0, 0)).1 (E1.getD k (0, 0)).2)) := hideR (fun v hv => unhideR HEc v (below_go (unhideR HB) hv) k hlk)
          generalize E1.getD k (0, 0) = ev at *
          obtain ⟨e1, e2⟩ := ev
          have hsto := fun w a x y m => run_store Tryd.prog w a (.complex .f64 x y) m rfl
          clear HO' HB'
          have hca := fun t a b c d w => run_cxadd (P := Tryd.prog) t a b c d w
          have hcs := fun t a b c d w => run_cxsub (P := Tryd.prog) t a b c d w
          have q := unhideR HEb w5 (Below.refl _ _)
          obtain ⟨xc1, xf1⟩ := (unhideR HO).has (unhideR HMl) (k := k) jk3
          obtain ⟨xc2, xf2⟩ := (unhideR HO).has (unhideR HMl) (k := kh) jk4
          have HFa : HeldR (∀ m (p s : Nat × Nat), CAd (e1, e2) t p → CSb (e1, e2) t s → Hv7 back d E1 O1 T n h g gt B3 w2 (k + 1) (((w5.drewN m).setCell ⟨g, k, none⟩ (.complex .f64 p.1 p.2)).setCell ⟨g, kh, none⟩ (.complex .f64 s.1 s.2))) := hideR (fun m p s hp hs => ⟨_, unhideR HNx _ p s (unhideR Ht) hp hs, by rw [List.length_set, List.length_set]; exact unhideR HMl, (((unhideR HO).below (below_dr (Below.refl _ _) m)).put (unhideR HMl) k p).put (by rw [List.length_set]; exact unhideR HMl) kh s, ((((unhideR HT').below (below_dr (Below.refl _ _) m)).other (unhideR HgT) _ _).other (unhideR HgT) _ _), ((below_dr (unhideR HB) m).setCell (by rw [unhideR HG]; exact Nat.le_refl _) _).setCell (by rw [unhideR HG]; exact Nat.le_refl _) _⟩)
          have HFb : HeldR (∀ m m' (p s : Nat × Nat), CAd (e1, e2) t p → CSb (e1, e2) t s → Hv7 back d E1 O1 T n h g gt B3 w2 (k + 1) ((((w5.drewN m).setCell ⟨g, k, none⟩ (.complex .f64 p.1 p.2)).drewN m').setCell ⟨g, kh, none⟩ (.complex .f64 s.1 s.2))) := hideR (fun m m' p s hp hs => ⟨_, unhideR HNx _ p s (unhideR Ht) hp hs, by rw [List.length_set, List.length_set]; exact unhideR HMl, ((((unhideR HO).below (below_dr (Below.refl _ _) m)).put (unhideR HMl) k p).below (below_dr (Below.refl _ _) m')).put (by rw [List.length_set]; exact unhideR HMl) kh s, (((((unhideR HT').below (below_dr (Below.refl _ _) m)).other (unhideR HgT) _ _).below (below_dr (Below.refl _ _) m')).other (unhideR HgT) _ _), (below_dr ((below_dr (unhideR HB) m).setCell (by rw [unhideR HG]; exact Nat.le_refl _) _) m').setCell (by rw [unhideR HG]; exact Nat.le_refl _) _⟩)
          generalize (M.getD k (0, 0)).1 = y1 at xc1
          generalize (M.getD k (0, 0)).2 = y2 at xc1
          generalize (M.getD kh (0, 0)).1 = y3 at xc2
          generalize (M.getD kh (0, 0)).2 = y4 at xc2
          clear HNx HV HMl HO HT' HB HEb Ht
          go_upto_region 16 with fail
          go_region
          all_goals
            go_wp2
            refine ⟨?_, by clear d1 d2; simp [intOf]; omega⟩
            first
              | exact (unhideR HFa _ (_, _) (_, _) ⟨fnum_is _ _ _ _, fnum_is _ _ _ _⟩ ⟨fnum_is _ _ _ _, fnum_is _ _ _ _⟩).end_ hlk
              | exact (unhideR HFb _ _ (_, _) (_, _) ⟨fnum_is _ _ _ _, fnum_is _ _ _ _⟩ ⟨fnum_is _ _ _ _, fnum_is _ _ _ _⟩).end_ hlk
              | trace_state
        · obtain rfl : h = k := by omega
          have tk' : decide (h < h) = false := decide_eq_false hlk
          have tki' : decide ((h : Int) < (h : Int)) = false := decide_eq_false (by omega)
          have HR := hideR (unhideR HEnd E1 O1 E O M wr g (unhideR HK) (unhideR HrE) (unhideR HrO) (unhideR HV) (unhideR HMl) (unhideR HO |>.lower (by rw [← unhideR HG]; exact (unhideR HBb).size)) (below_go (unhideR HBb) (unhideR HB)))
          clear HEnd HK HrE HrO HV HMl HO HB HT
          go_wp2
          go_ret
          exact unhideR HR
theorem halved_any (back : Bool) (d : Nat) : HcC back d := by
  induction d with
  | zero => exact halved_one back
  | succ d ih => exact halved_step back d ih
end Go.Proofs.YtngdemhhcablmakDoor
