/-
  The law SpinGood: its walk out of the contracts.
-/
import Derived.Test.YtbobnmaeiohnnadGood3
import Derived.Test.YtbobnmaeiohnnadChain1x
import Derived.Deep.RegionWith
import Derived.Deep.CutRange
namespace Go.Proofs.Ytbobnmaeiohnnad
open Go Go.RowKit

set_option maxRecDepth 100000 in
set_option maxHeartbeats 32000000 in
theorem spinGood_no (x y z : Nat) (h : Int) (a b c d : Nat) (p q r : Nat) (w : World) :
    Calls Try.prog 8 #[.agg #[.float .f64 x, .float .f64 y, .float .f64 z], .int .i64 h, .agg #[.float .f64 a, .float .f64 b, .float .f64 c, .float .f64 d], .bool false, .agg #[.float .f64 p, .float .f64 q, .float .f64 r]] w fun e w' => e = .returned (.bool true) ∧ Below w.heap.size w w' := by
  have hsf := run_store_float Try.prog
  have hmx := fun v => mildVec_any x y z v
  have hmv := fun v => mildVec_any p q r v
  have hma := fun v => mildVec_any b c d v
  have hmw := fun v => mild_any a v
  obtain ⟨bx, hbx⟩ : ∃ t, (mildB x && mildB y && mildB z) = t := ⟨_, rfl⟩
  obtain ⟨bv, hbv⟩ : ∃ t, (mildB p && mildB q && mildB r) = t := ⟨_, rfl⟩
  obtain ⟨ba, hba⟩ : ∃ t, (mildB b && mildB c && mildB d) = t := ⟨_, rfl⟩
  obtain ⟨bw, hbw⟩ : ∃ t, mildB a = t := ⟨_, rfl⟩
  rw [hbx] at hmx
  rw [hbv] at hmv
  rw [hba] at hma
  rw [hbw] at hmw
  have HBX := hideR hbx
  have HBV := hideR hbv
  have HBA := hideR hba
  have HBW := hideR hbw
  clear hbx hbv hba hbw
  go_enter Try.func8, Try.ntmps8
  go_wp2_with fail
  refine (turns_any _).mono ?_
  rintro e w1 ⟨rfl, hB1⟩
  obtain ⟨h0, h1, h2, hBw⟩ := three_blocks hB1
  have HW := hideR hBw
  have A0 := hideR h0
  have A1 := hideR h1
  have A2 := hideR h2
  clear hB1 hBw h0 h1 h2
  obtain ⟨⟨c0, c1, c2⟩, _⟩ := three_at (unhideR A0)
  go_wp2_with fail
  refine (hmx _).mono ?_
  rintro e w2 ⟨rfl, k2⟩
  clear c0 c1 c2 hmx
  replace A0 := hideR (keepB (unhideR A0) k2)
  replace A1 := hideR (keepB (unhideR A1) k2)
  replace A2 := hideR (keepB (unhideR A2) k2)
  replace HW := hideR (below_go (unhideR HW) k2)
  clear k2
  obtain ⟨⟨c0, c1, c2⟩, _⟩ := three_at (unhideR A2)
  go_wp2_with fail
  refine (hmv _).mono ?_
  rintro e w3 ⟨rfl, k3⟩
  clear c0 c1 c2 hmv
  replace A0 := hideR (keepB (unhideR A0) k3)
  replace A1 := hideR (keepB (unhideR A1) k3)
  replace A2 := hideR (keepB (unhideR A2) k3)
  replace HW := hideR (below_go (unhideR HW) k3)
  clear k3
  obtain ⟨⟨c0, c1, c2, c3⟩, _⟩ := four_at (unhideR A1)
  go_wp2_with fail
  refine (hma _).mono ?_
  rintro e w4 ⟨rfl, k4⟩
  clear c0 c1 c2 c3 hma
  replace A0 := hideR (keepB (unhideR A0) k4)
  replace A1 := hideR (keepB (unhideR A1) k4)
  replace A2 := hideR (keepB (unhideR A2) k4)
  replace HW := hideR (below_go (unhideR HW) k4)
  clear k4
  obtain ⟨⟨c0, c1, c2, c3⟩, _⟩ := four_at (unhideR A1)
  go_wp2_with fail
  refine (hmw _).mono ?_
  rintro e w4' ⟨rfl, rfl⟩
  clear hmw
  by_cases hall : bx = true ∧ bv = true ∧ ba = true ∧ bw = true
  case neg =>
    have hall2 : bx = false ∨ (bx = true ∧ bv = false) ∨ (bx = true ∧ bv = true ∧ ba = false) ∨ (bx = true ∧ bv = true ∧ ba = true ∧ bw = false) := by
      cases bx <;> cases bv <;> cases ba <;> cases bw <;> simp_all
    rcases hall2 with rfl | ⟨rfl, rfl⟩ | ⟨rfl, rfl, rfl⟩ | ⟨rfl, rfl, rfl, rfl⟩
    all_goals
      go_wp2
      go_ret
      exact ⟨rfl, unhideR HW⟩
  obtain ⟨rfl, rfl, rfl, rfl⟩ := hall
  go_wp2_with fail
  refine (q_any _ _ _ _ _).mono ?_
  rintro e w5 ⟨rfl, k5⟩
  clear c0 c1 c2 c3
  replace A0 := hideR (keepB (unhideR A0) k5)
  replace A1 := hideR (keepB (unhideR A1) k5)
  replace A2 := hideR (keepB (unhideR A2) k5)
  replace HW := hideR (below_go (unhideR HW) k5)
  clear k5
  go_wp2_with fail
  refine (unit_any _ _ _ _ _).mono ?_
  rintro e w6 ⟨hu, k6⟩
  obtain ⟨r0, r1, r2, r3, tb, rfl⟩ := unit_form hu
  have HU := hideR hu
  clear hu
  replace A0 := hideR (keepB (unhideR A0) k6)
  replace A1 := hideR (keepB (unhideR A1) k6)
  replace A2 := hideR (keepB (unhideR A2) k6)
  replace HW := hideR (below_go (unhideR HW) k6)
  clear k6
  cases tb
  case false =>
    go_wp2
    go_ret
    exact ⟨rfl, (unhideR HW).alloc (unhideR HW).size _⟩
  case true =>
    have HO : HeldR (∃ W X Y Z, One4 r0 r1 r2 r3 W X Y Z) := by
      have h1 := unhideR HBA
      have h2 := unhideR HBW
      simp only [Bool.and_eq_true] at h1
      obtain ⟨A, ia, ma⟩ := mild_spec h2
      obtain ⟨B, ib, mb⟩ := mild_spec h1.1.1
      obtain ⟨C, ic, mc⟩ := mild_spec h1.1.2
      obtain ⟨D, id, md⟩ := mild_spec h1.2
      exact unit_one ia ib ic id ma mb mc md (unhideR HU)
    clear HU A0 A1 HBX HBA HBW
    go_wp2_with fail
    refine (matrix_any _ _ _ _ _).mono ?_
    rintro e wa ⟨x0, x1, x2, x3, x4, x5, x6, x7, x8, rfl, hM, ka⟩
    have HM := hideR hM
    have RB := hideR (keepB (alloc_last w6 _) ka)
    replace A2 := hideR (keepB (keepA (unhideR A2)) ka)
    replace HW := hideR (below_go ((unhideR HW).alloc (unhideR HW).size _) ka)
    clear hM ka
    go_wp2_with fail
    refine (conv_any x0 x1 x2 x3 x4 x5 x6 x7 x8 _).mono ?_
    rintro e wb ⟨rfl, kb⟩
    replace RB := hideR (keepB (unhideR RB) kb)
    replace A2 := hideR (keepB (unhideR A2) kb)
    replace HW := hideR (below_go (unhideR HW) kb)
    clear kb
    have e9 : nine x0 x1 x2 x3 x4 x5 x6 x7 x8 = #[.float .f64 x0, .float .f64 x1, .float .f64 x2, .float .f64 x3, .float .f64 x4, .float .f64 x5, .float .f64 x6, .float .f64 x7, .float .f64 x8] := rfl
    rw [e9]
    clear e9
    obtain ⟨Wv, Xv, Yv, Zv, hO⟩ := unhideR HO
    obtain ⟨_, _, _, _, _, _, _, _, _, M9⟩ := mat_of hO (unhideR HM)
    obtain ⟨L1, L2, L3⟩ := mat_sq M9
    have D1 : HeldR (∀ r, Ev (dtE x0 x1 x2 x3 x4 x5) r → wiB r nUnit = true) := fun r hr => dot_small M9.i0 M9.i1 M9.i2 M9.i3 M9.i4 M9.i5 (by have := L1.1; grind) (by have := L2.1; grind) (rows_dot M9.m.a M9.m.b M9.m.n) hr
    have D2 : HeldR (∀ r, Ev (dtE x3 x4 x5 x6 x7 x8) r → wiB r nUnit = true) := fun r hr => dot_small M9.i3 M9.i4 M9.i5 M9.i6 M9.i7 M9.i8 (by have := L2.1; grind) (by have := L3.1; grind) (by
      have h1 := rows_dot M9.m.b M9.m.c (by have := M9.m.n; unfold Near at *; grind)
      unfold Near at *
      grind) hr
    have D3 : HeldR (∀ r, Ev (dtE x6 x7 x8 x0 x1 x2) r → wiB r nUnit = true) := fun r hr => dot_small M9.i6 M9.i7 M9.i8 M9.i0 M9.i1 M9.i2 (by have := L3.1; grind) (by have := L1.1; grind) (by
      have h1 := rows_dot M9.m.c M9.m.a (by have := M9.m.n; unfold Near at *; grind)
      unfold Near at *
      grind) hr
    have E1 : HeldR (∀ t r s, Ev (lenE x0 x1 x2) t → FSq t r → FOp .sub r 4607182418800017408 s → wiB s nUnit = true) := fun t r s h1 h2 h3 => len_one M9.i0 M9.i1 M9.i2 L1 h1 h2 h3
    have E2 : HeldR (∀ t r s, Ev (lenE x3 x4 x5) t → FSq t r → FOp .sub r 4607182418800017408 s → wiB s nUnit = true) := fun t r s h1 h2 h3 => len_one M9.i3 M9.i4 M9.i5 L2 h1 h2 h3
    have E3 : HeldR (∀ t r s, Ev (lenE x6 x7 x8) t → FSq t r → FOp .sub r 4607182418800017408 s → wiB s nUnit = true) := fun t r s h1 h2 h3 => len_one M9.i6 M9.i7 M9.i8 L3 h1 h2 h3
    clear M9 L1 L2 L3 hO HM
    go_wp2_with fail
    refine (dotOf_any _ _ _ _ _ _ _).mono ?_
    rintro e wc ⟨d1, rfl, hd, kc⟩
    replace D1 := hideR (unhideR D1 d1 hd)
    clear hd
    replace RB := hideR (keepB (keepA (unhideR RB)) kc)
    replace A2 := hideR (keepB (keepA (unhideR A2)) kc)
    replace HW := hideR (below_go ((unhideR HW).alloc (unhideR HW).size _) kc)
    have M := hideR (keepB (alloc_last wb _) kc)
    clear kc
    obtain ⟨⟨c0, c1, c2, c3, c4, c5, c6, c7, c8⟩, _⟩ := nine_at (t := 53) (unhideR M)
    go_wp2_with fail
    refine (dotOf_any _ _ _ _ _ _ _).mono ?_
    rintro e wd ⟨d2, rfl, hd, kwd⟩
    replace D2 := hideR (unhideR D2 d2 hd)
    clear hd c0 c1 c2 c3 c4 c5 c6 c7 c8
    replace RB := hideR (keepB (unhideR RB) kwd)
    replace A2 := hideR (keepB (unhideR A2) kwd)
    replace M := hideR (keepB (unhideR M) kwd)
    replace HW := hideR (below_go (unhideR HW) kwd)
    clear kwd
    obtain ⟨⟨c0, c1, c2, c3, c4, c5, c6, c7, c8⟩, _⟩ := nine_at (t := 53) (unhideR M)
    go_wp2_with fail
    refine (dotOf_any _ _ _ _ _ _ _).mono ?_
    rintro e we ⟨d3, rfl, hd, kwe⟩
    replace D3 := hideR (unhideR D3 d3 hd)
    clear hd c0 c1 c2 c3 c4 c5 c6 c7 c8
    replace RB := hideR (keepB (unhideR RB) kwe)
    replace A2 := hideR (keepB (unhideR A2) kwe)
    replace M := hideR (keepB (unhideR M) kwe)
    replace HW := hideR (below_go (unhideR HW) kwe)
    clear kwe
    go_wp2_with fail
    refine (within_any d1 _ _ (unhideR D1)).mono ?_
    rintro e wz ⟨rfl, rfl⟩
    clear D1
    go_wp2_with fail
    refine (within_any d2 _ _ (unhideR D2)).mono ?_
    rintro e wz ⟨rfl, rfl⟩
    clear D2
    go_wp2_with fail
    refine (within_any d3 _ _ (unhideR D3)).mono ?_
    rintro e wz ⟨rfl, rfl⟩
    clear D3
    obtain ⟨⟨c0, c1, c2, c3, c4, c5, c6, c7, c8⟩, _⟩ := nine_at (t := 53) (unhideR M)
    go_wp2_with fail
    refine (lengthOf_any _ _ _ _).mono ?_
    rintro e wf ⟨rr, tt, rfl, hl1, hl2, kwf⟩
    replace E1 := hideR (fun s => unhideR E1 tt rr s hl1 hl2)
    clear hl1 hl2 c0 c1 c2 c3 c4 c5 c6 c7 c8
    replace RB := hideR (keepB (unhideR RB) kwf)
    replace A2 := hideR (keepB (unhideR A2) kwf)
    replace M := hideR (keepB (unhideR M) kwf)
    replace HW := hideR (below_go (unhideR HW) kwf)
    clear kwf
    go_wp2_with fail
    refine upon_float four_sub ?_
    intro s ns hs
    replace E1 := hideR (unhideR E1 s hs)
    clear hs
    go_wp2_with fail
    refine (within_any s _ _ (unhideR E1)).mono ?_
    rintro e wz ⟨rfl, rfl⟩
    clear E1
    obtain ⟨wwfn, hwn⟩ : ∃ v, v = wf.drewN ns := ⟨_, rfl⟩
    rw [← hwn]
    have kn : Below wf.heap.size wf wwfn := hwn ▸ below_drewN (Below.refl _ _) ns
    clear hwn
    replace RB := hideR (keepB (unhideR RB) kn)
    replace A2 := hideR (keepB (unhideR A2) kn)
    replace M := hideR (keepB (unhideR M) kn)
    replace HW := hideR (below_go (unhideR HW) kn)
    clear kn
    obtain ⟨⟨c0, c1, c2, c3, c4, c5, c6, c7, c8⟩, _⟩ := nine_at (t := 53) (unhideR M)
    go_wp2_with fail
    refine (lengthOf_any _ _ _ _).mono ?_
    rintro e wg ⟨rr, tt, rfl, hl1, hl2, kwg⟩
    replace E2 := hideR (fun s => unhideR E2 tt rr s hl1 hl2)
    clear hl1 hl2 c0 c1 c2 c3 c4 c5 c6 c7 c8
    replace RB := hideR (keepB (unhideR RB) kwg)
    replace A2 := hideR (keepB (unhideR A2) kwg)
    replace M := hideR (keepB (unhideR M) kwg)
    replace HW := hideR (below_go (unhideR HW) kwg)
    clear kwg
    go_wp2_with fail
    refine upon_float four_sub ?_
    intro s ns hs
    replace E2 := hideR (unhideR E2 s hs)
    clear hs
    go_wp2_with fail
    refine (within_any s _ _ (unhideR E2)).mono ?_
    rintro e wz ⟨rfl, rfl⟩
    clear E2
    obtain ⟨wwgn, hwn⟩ : ∃ v, v = wg.drewN ns := ⟨_, rfl⟩
    rw [← hwn]
    have kn : Below wg.heap.size wg wwgn := hwn ▸ below_drewN (Below.refl _ _) ns
    clear hwn
    replace RB := hideR (keepB (unhideR RB) kn)
    replace A2 := hideR (keepB (unhideR A2) kn)
    replace M := hideR (keepB (unhideR M) kn)
    replace HW := hideR (below_go (unhideR HW) kn)
    clear kn
    obtain ⟨⟨c0, c1, c2, c3, c4, c5, c6, c7, c8⟩, _⟩ := nine_at (t := 53) (unhideR M)
    go_wp2_with fail
    refine (lengthOf_any _ _ _ _).mono ?_
    rintro e wh ⟨rr, tt, rfl, hl1, hl2, kwh⟩
    replace E3 := hideR (fun s => unhideR E3 tt rr s hl1 hl2)
    clear hl1 hl2 c0 c1 c2 c3 c4 c5 c6 c7 c8
    replace RB := hideR (keepB (unhideR RB) kwh)
    replace A2 := hideR (keepB (unhideR A2) kwh)
    replace M := hideR (keepB (unhideR M) kwh)
    replace HW := hideR (below_go (unhideR HW) kwh)
    clear kwh
    go_wp2_with fail
    refine upon_float four_sub ?_
    intro s ns hs
    replace E3 := hideR (unhideR E3 s hs)
    clear hs
    go_wp2_with fail
    refine (within_any s _ _ (unhideR E3)).mono ?_
    rintro e wz ⟨rfl, rfl⟩
    clear E3
    obtain ⟨wwhn, hwn⟩ : ∃ v, v = wh.drewN ns := ⟨_, rfl⟩
    rw [← hwn]
    have kn : Below wh.heap.size wh wwhn := hwn ▸ below_drewN (Below.refl _ _) ns
    clear hwn
    replace RB := hideR (keepB (unhideR RB) kn)
    replace A2 := hideR (keepB (unhideR A2) kn)
    replace M := hideR (keepB (unhideR M) kn)
    replace HW := hideR (below_go (unhideR HW) kn)
    clear kn
    clear M
    obtain ⟨⟨c0, c1, c2⟩, _⟩ := three_at (unhideR A2)
    go_wp2_with fail
    refine (lengthOf_any _ _ _ _).mono ?_
    rintro e wi ⟨n, tn, rfl, hn1, hn2, ki⟩
    have HN := hideR (And.intro hn1 hn2)
    clear hn1 hn2 c0 c1 c2
    replace RB := hideR (keepB (unhideR RB) ki)
    replace A2 := hideR (keepB (unhideR A2) ki)
    replace HW := hideR (below_go (unhideR HW) ki)
    clear ki
    obtain ⟨⟨c0, c1, c2⟩, _⟩ := three_at (unhideR A2)
    obtain ⟨⟨d0, d1, d2, d3⟩, _⟩ := four_at (unhideR RB)
    go_wp2_with fail
    refine (turn_any r0 r1 r2 r3 p q r _).mono ?_
    rintro e wj ⟨vt, rfl, hT, kj⟩
    obtain ⟨t0, t1, t2, z0, z1, z2, z3, z4, z5, z6, z7, z8, rfl, hM, e0, e1, e2⟩ := hT
    have HT := hideR (And.intro hM (And.intro e0 (And.intro e1 e2)))
    clear hM e0 e1 e2 c0 c1 c2 d0 d1 d2 d3
    replace RB := hideR (keepB (unhideR RB) kj)
    replace A2 := hideR (keepB (unhideR A2) kj)
    replace HW := hideR (below_go (unhideR HW) kj)
    clear kj
    obtain ⟨V, hV⟩ : ∃ V, V = wj.alloc (.cells #[.float .f64 t0, .float .f64 t1, .float .f64 t2] 46) := ⟨_, rfl⟩
    have TB := hideR (show V.heap[wj.heap.size]? = some (.cells #[.float .f64 t0, .float .f64 t1, .float .f64 t2] 46) from hV ▸ alloc_last wj _)
    replace RB := hideR (show V.heap[_]? = _ from hV ▸ keepA (unhideR RB))
    replace A2 := hideR (show V.heap[_]? = _ from hV ▸ keepA (unhideR A2))
    replace HW := hideR (show Below w.heap.size w V from hV ▸ (unhideR HW).alloc (unhideR HW).size _)
    have HV := hideR hV.symm
    clear hV
    obtain ⟨⟨c0, c1, c2⟩, _⟩ := three_at (unhideR TB)
    obtain ⟨⟨d0, d1, d2, d3⟩, _⟩ := four_at (unhideR RB)
    have lr := ltB (unhideR RB)
    have lt := ltB (unhideR TB)
    go_wp2_with fail
    rw [unhideR HV]
    clear HV
    have lw := (unhideR HW).size
    have lv := ltB (unhideR A2)
    have hTB : (V.drewN 1).heap[wj.heap.size]? = some (.cells #[.float .f64 t0, .float .f64 t1, .float .f64 t2] 46 (0, 0)) := unhideR TB
    have TB1 := hideR hTB
    have hVB : (V.drewN 1).heap[w.heap.size + 1 + 1]? = some (.cells #[.float .f64 p, .float .f64 q, .float .f64 r] 46 (0, 0)) := unhideR A2
    have VB1 := hideR hVB
    have HB1 := hideR (below_drewN (unhideR HW) 1)
    clear hTB hVB
    go_cut [28] from 130 to 133 (fun s28 wx => ∃ nb : Nat, s28 = .pointer (some ⟨nb, 0, none⟩) ∧ HeldR (BackIs r0 r1 r2 r3 t0 t1 t2 p q r w wx nb wj.heap.size (w.heap.size + 1 + 1)))
    case' first =>
      go_region_with (first
        | (go_at_call 22; refine (back_any _ _ _ _ _).mono ?_; rintro e w2 ⟨rfl, k2⟩; have z2 : V.heap.size ≤ w2.heap.size := by (have := k2.size; simp at this; omega)
           first
             | (have TB2 := hideR (keepB (keepA (unhideR TB1)) k2); have VB2 := hideR (keepB (keepA (unhideR VB1)) k2); have HB2 := hideR (below_go ((unhideR HB1).alloc (unhideR HB1).size _) k2); have N2 : HeldR (w2.heap[V.heap.size]? = some (.cells #[.float .f64 0, .float .f64 0, .float .f64 0] 46)) := hideR (keepB (alloc_last (V.drewN 1) _) k2); obtain ⟨⟨g0, g1, g2⟩, _⟩ := three_at (unhideR TB2); have lt2 := ltB (unhideR TB2); clear k2)
             | (have TB2 := hideR (keepB (unhideR TB1) k2); have VB2 := hideR (keepB (unhideR VB1) k2); have HB2 := hideR (below_go (unhideR HB1) k2); obtain ⟨⟨g0, g1, g2⟩, _⟩ := three_at (unhideR TB2); have lt2 := ltB (unhideR TB2); clear k2))
        | (go_at_call 30; refine (turn_any _ _ _ _ _ _ _ _).mono ?_; rintro e w3 ⟨vb, rfl, hT, k3⟩; obtain ⟨b0, b1, b2, y0, y1, y2, y3, y4, y5, y6, y7, y8, rfl, hM, e0, e1, e2⟩ := hT; have HT3 := hideR (And.intro hM (And.intro e0 (And.intro e1 e2))); clear hM e0 e1 e2; have z3 : w2.heap.size ≤ w3.heap.size := Nat.le_trans (by first | exact Nat.le_refl _ | simp) k3.size
           first
             | (have TB3 := hideR (keepB (keepA (unhideR TB2)) k3); have VB3 := hideR (keepB (keepA (unhideR VB2)) k3); have HB3 := hideR (below_go ((unhideR HB2).alloc (unhideR HB2).size _) k3); have N3 := hideR (keepB (alloc_last w2 _) k3); obtain ⟨⟨n0, n1, n2⟩, m0, m1, m2⟩ := three_at (unhideR N3); clear k3)
             | (have TB3 := hideR (keepB (unhideR TB2) k3); have VB3 := hideR (keepB (unhideR VB2) k3); have HB3 := hideR (below_go (unhideR HB2) k3); have N3 := hideR (keepB (unhideR N2) k3); obtain ⟨⟨n0, n1, n2⟩, m0, m1, m2⟩ := three_at (unhideR N3); clear k3)
             | (have TB3 := hideR (keepB (unhideR TB2) k3); have VB3 := hideR (keepB (unhideR VB2) k3); have HB3 := hideR (below_go (unhideR HB2) k3); clear k3)))
      all_goals
        first
          | (have NB : ((((w3).setCell ⟨V.heap.size, 0, none⟩ (.float .f64 b0)).setCell ⟨V.heap.size, 1, none⟩ (.float .f64 b1)).setCell ⟨V.heap.size, 2, none⟩ (.float .f64 b2)).heap[V.heap.size]? = some (.cells #[.float .f64 b0, .float .f64 b1, .float .f64 b2] 46 (0, 0)) := set3 (unhideR N3)
             have T4 : ((((w3).setCell ⟨V.heap.size, 0, none⟩ (.float .f64 b0)).setCell ⟨V.heap.size, 1, none⟩ (.float .f64 b1)).setCell ⟨V.heap.size, 2, none⟩ (.float .f64 b2)).heap[wj.heap.size]? = some (.cells #[.float .f64 t0, .float .f64 t1, .float .f64 t2] 46 (0, 0)) := (set3_other (by omega)).trans (unhideR TB3)
             have V4 : ((((w3).setCell ⟨V.heap.size, 0, none⟩ (.float .f64 b0)).setCell ⟨V.heap.size, 1, none⟩ (.float .f64 b1)).setCell ⟨V.heap.size, 2, none⟩ (.float .f64 b2)).heap[w.heap.size + 1 + 1]? = some (.cells #[.float .f64 p, .float .f64 q, .float .f64 r] 46 (0, 0)) := (set3_other (by omega)).trans (unhideR VB3)
             have B4 : Below w.heap.size w ((((w3).setCell ⟨V.heap.size, 0, none⟩ (.float .f64 b0)).setCell ⟨V.heap.size, 1, none⟩ (.float .f64 b1)).setCell ⟨V.heap.size, 2, none⟩ (.float .f64 b2)) := below_three (unhideR HB3) (by omega) _ _ _)
          | (have NB : ((((w3).setCell ⟨w2.heap.size, 0, none⟩ (.float .f64 b0)).setCell ⟨w2.heap.size, 1, none⟩ (.float .f64 b1)).setCell ⟨w2.heap.size, 2, none⟩ (.float .f64 b2)).heap[w2.heap.size]? = some (.cells #[.float .f64 b0, .float .f64 b1, .float .f64 b2] 46 (0, 0)) := set3 (unhideR N3)
             have T4 : ((((w3).setCell ⟨w2.heap.size, 0, none⟩ (.float .f64 b0)).setCell ⟨w2.heap.size, 1, none⟩ (.float .f64 b1)).setCell ⟨w2.heap.size, 2, none⟩ (.float .f64 b2)).heap[wj.heap.size]? = some (.cells #[.float .f64 t0, .float .f64 t1, .float .f64 t2] 46 (0, 0)) := (set3_other (by omega)).trans (unhideR TB3)
             have V4 : ((((w3).setCell ⟨w2.heap.size, 0, none⟩ (.float .f64 b0)).setCell ⟨w2.heap.size, 1, none⟩ (.float .f64 b1)).setCell ⟨w2.heap.size, 2, none⟩ (.float .f64 b2)).heap[w.heap.size + 1 + 1]? = some (.cells #[.float .f64 p, .float .f64 q, .float .f64 r] 46 (0, 0)) := (set3_other (by omega)).trans (unhideR VB3)
             have B4 : Below w.heap.size w ((((w3).setCell ⟨w2.heap.size, 0, none⟩ (.float .f64 b0)).setCell ⟨w2.heap.size, 1, none⟩ (.float .f64 b1)).setCell ⟨w2.heap.size, 2, none⟩ (.float .f64 b2)) := below_three (unhideR HB3) (by omega) _ _ _)
          | (have NB : (w3.alloc (.cells #[.float .f64 b0, .float .f64 b1, .float .f64 b2] 46)).heap[w3.heap.size]? = some (.cells #[.float .f64 b0, .float .f64 b1, .float .f64 b2] 46 (0, 0)) := alloc_last w3 _
             have T4 : (w3.alloc (.cells #[.float .f64 b0, .float .f64 b1, .float .f64 b2] 46)).heap[wj.heap.size]? = some (.cells #[.float .f64 t0, .float .f64 t1, .float .f64 t2] 46 (0, 0)) := keepA (unhideR TB3)
             have V4 : (w3.alloc (.cells #[.float .f64 b0, .float .f64 b1, .float .f64 b2] 46)).heap[w.heap.size + 1 + 1]? = some (.cells #[.float .f64 p, .float .f64 q, .float .f64 r] 46 (0, 0)) := keepA (unhideR VB3)
             have B4 : Below w.heap.size w (w3.alloc (.cells #[.float .f64 b0, .float .f64 b1, .float .f64 b2] 46)) := (unhideR HB3).alloc (unhideR HB3).size _)
        have Q4' := hideR (BackIs.mk ⟨b0, b1, b2, y0, y1, y2, y3, y4, y5, y6, y7, y8, (unhideR HT3).1, (unhideR HT3).2.1, (unhideR HT3).2.2.1, (unhideR HT3).2.2.2, NB, T4, V4, B4⟩)
        clear NB T4 V4 B4
        go_wp2_with fail
        go_meet
        exact ⟨_, rfl, Q4'⟩
    obtain ⟨nb, rfl, hbk⟩ := hcut
    obtain ⟨b0, b1, b2, y0, y1, y2, y3, y4, y5, y6, y7, y8, hM2, g0, g1, g2, NB, TBc, VBc, HWc⟩ := (unhideR hbk).ex
    have G : HeldR (∀ m l tl, FOp .mul nUnit n m → Ev (lenE t0 t1 t2) tl → FSq tl l → (∀ s, FOp .sub l n s → wiB s m = true) ∧ (∀ f, FOp .sub b0 p f → wiB f m = true) ∧ (∀ f, FOp .sub b1 q f → wiB f m = true) ∧ ∀ f, FOp .sub b2 r f → wiB f m = true) := by
      intro m l tl hm hl1 hl2
      have hb := unhideR HBV
      simp only [Bool.and_eq_true] at hb
      obtain ⟨P, ip, mp⟩ := mild_spec hb.1.1
      obtain ⟨Q, iq, mq⟩ := mild_spec hb.1.2
      obtain ⟨S, ir, mr⟩ := mild_spec hb.2
      obtain ⟨Wv, Xv, Yv, Zv, hO⟩ := unhideR HO
      obtain ⟨hM1, e0, e1, e2⟩ := unhideR HT
      have all := fun s f0 f1 f2 (T : Told p q r n m l s b0 b1 b2 f0 f1 f2) => good_all hO hM1 hM2 ip iq ir mp mq mr e0 e1 e2 g0 g1 g2 (unhideR HN).1 (unhideR HN).2 hl1 hl2 T
      obtain ⟨s', hs'⟩ := fop_some .sub l n
      obtain ⟨f0', h0'⟩ := fop_some .sub b0 p
      obtain ⟨f1', h1'⟩ := fop_some .sub b1 q
      obtain ⟨f2', h2'⟩ := fop_some .sub b2 r
      exact ⟨fun s hs => (all s f0' f1' f2' ⟨hm, hs, h0', h1', h2'⟩).1, fun f hf => (all s' f f1' f2' ⟨hm, hs', hf, h1', h2'⟩).2.1, fun f hf => (all s' f0' f f2' ⟨hm, hs', h0', hf, h2'⟩).2.2.1, fun f hf => (all s' f0' f1' f ⟨hm, hs', h0', h1', hf⟩).2.2.2⟩
    clear hM2 g0 g1 g2 hbk HT HN HO HBV TB1 VB1 HB1 TB RB A2 HW c0 c1 c2 d0 d1 d2 d3
    have NB1 := hideR NB
    have VB1 := hideR VBc
    have HW1 := hideR HWc
    obtain ⟨⟨c0, c1, c2⟩, _⟩ := three_at TBc
    clear NB VBc HWc TBc
    go_wp2_with fail
    refine upon_float four_mul ?_
    intro m nm hm
    go_wp2_with fail
    refine (lengthOf_any _ _ _ _).mono ?_
    rintro e wk ⟨l, tl, rfl, hl1, hl2, kk⟩
    obtain ⟨G0, G1, G2, G3⟩ := unhideR G m l tl hm hl1 hl2
    have H0 := hideR G0
    have H1 := hideR G1
    have H2 := hideR G2
    have H3 := hideR G3
    have hnb : (wc.drewN nm).heap[nb]? = some (.cells #[.float .f64 b0, .float .f64 b1, .float .f64 b2] 46 (0, 0)) := unhideR NB1
    have hvb : (wc.drewN nm).heap[w.heap.size + 1 + 1]? = some (.cells #[.float .f64 p, .float .f64 q, .float .f64 r] 46 (0, 0)) := unhideR VB1
    obtain ⟨⟨y0, y1, y2⟩, _⟩ := three_at (keepB hnb kk)
    obtain ⟨⟨v0, v1, v2⟩, _⟩ := three_at (keepB hvb kk)
    have HWk := hideR (below_go (below_drewN (unhideR HW1) nm) kk)
    clear hl1 hl2 kk G G0 G1 G2 G3 hnb hvb hm c0 c1 c2 NB1 VB1 HW1
    go_wp2_with fail
    refine upon_float four_sub ?_
    intro s ns hs
    have K0 := hideR (unhideR H0 s hs)
    clear hs H0
    go_wp2_with fail
    refine (within_any s m _ (unhideR K0)).mono ?_
    rintro e wz ⟨rfl, rfl⟩
    clear K0
    go_wp2_with fail
    refine upon_float four_sub ?_
    intro f1 nf1 hf
    have K1 := hideR (unhideR H1 f1 hf)
    clear hf H1
    go_wp2_with fail
    refine (within_any f1 m _ (unhideR K1)).mono ?_
    rintro e wz ⟨rfl, rfl⟩
    clear K1
    go_wp2_with fail
    refine upon_float four_sub ?_
    intro f2 nf2 hf
    have K2 := hideR (unhideR H2 f2 hf)
    clear hf H2
    go_wp2_with fail
    refine (within_any f2 m _ (unhideR K2)).mono ?_
    rintro e wz ⟨rfl, rfl⟩
    clear K2
    go_wp2_with fail
    refine upon_float four_sub ?_
    intro f3 nf3 hf
    have K3 := hideR (unhideR H3 f3 hf)
    clear hf H3
    go_wp2_with fail
    refine (within_any f3 m _ (unhideR K3)).mono ?_
    rintro e wz ⟨rfl, rfl⟩
    clear K3
    go_wp2
    go_ret
    exact ⟨rfl, below_drewN (unhideR HWk) _⟩
end Go.Proofs.Ytbobnmaeiohnnad
