/-
  The program's Waves, by contract.
-/
import Derived.Test.YtngdemhhcablmakDoorShX2
import Derived.Test.YtngdemhhcablmakDoorShWl
import Derived.Test.YtngdemhhcablmakDoorLooseA
namespace Go.Proofs.YtngdemhhcablmakDoor
open Go Go.RowKit

/-- a product; the sum behind it. -/
def CpS (x y : Nat × Nat) (v : Value) : Prop := ∃ r : Nat × Nat, v = .complex .f64 r.1 r.2 ∧ CPr x y r
def CaS (s x y : Nat × Nat) (v : Value) : Prop := ∃ r : Nat × Nat, v = .complex .f64 r.1 r.2 ∧ ∃ p, CPr x y p ∧ CAd s p r
theorem fop_one (op : BinOp) (a b : Nat) : ∃ r, FOp op a b r := ⟨_, fnum_is op a b default⟩
theorem cpr_some (x y : Nat × Nat) : ∃ r, CPr x y r := by
  obtain ⟨ac, h1⟩ := fop_one .mul x.1 y.1
  obtain ⟨bd, h2⟩ := fop_one .mul x.2 y.2
  obtain ⟨ad, h3⟩ := fop_one .mul x.1 y.2
  obtain ⟨bc, h4⟩ := fop_one .mul x.2 y.1
  obtain ⟨r1, h5⟩ := fop_one .sub ac bd
  obtain ⟨r2, h6⟩ := fop_one .add ad bc
  exact ⟨(r1, r2), ac, bd, ad, bc, h1, h2, h3, h4, h5, h6⟩
theorem cad_some (x y : Nat × Nat) : ∃ r, CAd x y r := by
  obtain ⟨r1, h5⟩ := fop_one .add x.1 y.1
  obtain ⟨r2, h6⟩ := fop_one .add x.2 y.2
  exact ⟨(r1, r2), h5, h6⟩
theorem cpS_some (x y : Nat × Nat) : ∃ v, CpS x y v := by
  obtain ⟨r, h⟩ := cpr_some x y
  exact ⟨_, r, rfl, h⟩
theorem caS_some (s x y : Nat × Nat) : ∃ v, CaS s x y v := by
  obtain ⟨p, h⟩ := cpr_some x y
  obtain ⟨r, k⟩ := cad_some s p
  exact ⟨_, r, rfl, p, h, k⟩
theorem run_farith' {P : Program} (op : BinOp) (x y : Nat) (w : World) (h : isFour op) : (Op.floatArith op .f64 x y).run P w = .ok (.float .f64 (fnum op x y w)) (w.drewN (fdraw op x y)) := by
  have := run_float (P := P) op 0 x y w h
  rcases h with rfl | rfl | rfl | rfl <;> exact this
theorem run_cxadd {P : Program} (t : TypeId) (a b c d : Nat) (w : World) : (binOp .add t (.complex .f64 a b) (.complex .f64 c d)).run P w = .ok (.complex .f64 (fnum .add a c w) (fnum .add b d (w.drewN (fdraw .add a c)))) ((w.drewN (fdraw .add a c)).drewN (fdraw .add b d)) := by
  simp [binOp, Op.complexOp, Op.Complex.arith, run_farith' .add _ _ _ fl_add]
theorem run_cxsub {P : Program} (t : TypeId) (a b c d : Nat) (w : World) : (binOp .sub t (.complex .f64 a b) (.complex .f64 c d)).run P w = .ok (.complex .f64 (fnum .sub a c w) (fnum .sub b d (w.drewN (fdraw .sub a c)))) ((w.drewN (fdraw .sub a c)).drewN (fdraw .sub b d)) := by
  simp [binOp, Op.complexOp, Op.Complex.arith, run_farith' .sub _ _ _ fl_sub]
theorem ca_is {P : Program} {s x y p : Nat × Nat} {v : World} {t : TypeId} (hp : CPr x y p) : mUpon P (CaS s x y) v ((Sem.run P (binOp .add t (.complex .f64 s.1 s.2) (.complex .f64 p.1 p.2)) v).andThen fun v w' => .ok (.value v) w') := by
  rw [run_cxadd]
  exact ⟨below_go (drawn_below v _) (drawn_below _ _), (_, _), rfl, p, hp, fnum_is _ _ _ _, fnum_is _ _ _ _⟩
/-- waves under way: those before k, j products of k, then noughts. -/
structure WvK (L : List (Nat × Nat)) (n : Nat) (back : Bool) (X : List (Nat × Nat)) (k j : Nat) : Prop where
  len : X.length = n
  done : ∀ i, i < k → WvR L i n back n (X.getD i (0, 0))
  now : WvR L k n back j (X.getD k (0, 0))
  rest : ∀ i, k < i → X.getD i (0, 0) = (0, 0)
theorem WvK.start (L : List (Nat × Nat)) (n : Nat) (back : Bool) : WvK L n back (List.replicate n (0, 0)) 0 0 :=
  ⟨List.length_replicate, fun i hi => absurd hi (Nat.not_lt_zero i), by rw [cget_zero]; exact .zero, fun i _ => cget_zero n i⟩
theorem WvK.next {L X : List (Nat × Nat)} {n k j : Nat} {back : Bool} (h : WvK L n back X k j) (hk : k < n) (_hj : j < n) {p y : Nat × Nat} (hp : CPr (L.getD j (0, 0)) (waveV (gAt j k n) back) p) (hy : CAd (X.getD k (0, 0)) p y) : WvK L n back (X.set k y) k (j + 1) := by
  refine ⟨by rw [List.length_set]; exact h.len, fun i hi => ?_, ?_, fun i hi => ?_⟩
  · rw [cget_other (by omega)]
    exact h.done i hi
  · rw [cget_same (by rw [h.len]; exact hk)]
    exact .next h.now hp hy
  · rw [cget_other (by omega)]
    exact h.rest i hi
theorem WvK.on {L X : List (Nat × Nat)} {n k : Nat} {back : Bool} (h : WvK L n back X k n) : WvK L n back X (k + 1) 0 := by
  refine ⟨h.len, fun i hi => ?_, by rw [h.rest (k + 1) (by omega)]; exact .zero, fun i hi => h.rest i (by omega)⟩
  by_cases e : i = k
  · rw [e]; exact h.now
  · exact h.done i (by omega)
theorem drew1_go0 {w v : World} {B : Nat} (h : Below B w v) : Below B w v.drew := ⟨h.os, h.tape, h.output, h.size, h.block⟩
theorem wa_none {a : Nat → Addr} {L : List (Nat × Nat)} {back : Bool} {w w' : World} {er : Value} (h : ErrIs a (lenE L.length) er) (h0 : lenE L.length ≠ 0) (k : Below w.heap.size w w') : WaPost a L back w (.returned (.tuple #[.slice none 0 0, er])) w' :=
  ⟨[], none, 0, er, rfl, h, fun _ => rfl, fun q => absurd q h0, CxCame.nil _ _, k⟩
set_option maxRecDepth 100000 in
set_option maxHeartbeats 3200000 in
theorem waves_ok (a : Nat → Addr) : WavesOK a := by
  intro w a1 c1 L back hS hL l1
  have x1 := hS.g1
  have x4 := hS.g4
  have HNo : HeldR (∀ er u, ErrIs a (lenE L.length) er → lenE L.length ≠ 0 → Below w.heap.size w u → WaPost a L back w (.returned (.tuple #[.slice none 0 0, er])) u) := hideR (fun er u h h0 k => wa_none h h0 k)
  have HFin : HeldR (lenE L.length = 0 → ∀ (X : List (Nat × Nat)) g u, (X.length = L.length ∧ ∀ k, k < L.length → WvEnd L k L.length back (X.getD k (0, 0))) → CxCame u (some ⟨g, 0, none⟩) X → Below w.heap.size w u → WaPost a L back w (.returned (.tuple #[.slice (some ⟨g, 0, none⟩) L.length L.length, .nilIface])) u) := hideR (fun e0 X g u hX hc k => by
    refine ⟨X, some ⟨g, 0, none⟩, L.length, .nilIface, ?_, .inl ⟨e0, rfl⟩, fun q => absurd e0 q, fun _ => hX, hc, k⟩
    rw [hX.1])
  have HL : HeldR (∀ u, Below w.heap.size w u → CxCame u a1 L) := hideR (fun u k => hL.below k)
  have HB0 := hideR (Below.refl w.heap.size w)
  obtain ⟨n, hn⟩ : ∃ n, L.length = n := ⟨_, rfl⟩
  rw [hn] at l1 HNo HFin ⊢
  have HN := hideR hn
  clear hS hL hn
  by_cases q0 : n = 0
  · have t0 : ((n : Int) == 0) = true := by simp; omega
    have t0n : (n == 0) = true := by simp; omega
    have HR := hideR (fun u => unhideR HNo (.iface 120 (.pointer (some (a 4)))) u (by rw [q0]; exact err_at 4 (by decide)) (by rw [q0]; decide))
    clear HNo HFin q0
    go_enter Tryd.func9, Tryd.ntmps9
    go_wp2
    go_region
    go_wp2
    go_ret2
    exact unhideR HR _ (drew1_go0 (unhideR HB0))
  have t0 : ((n : Int) == 0) = false := by simp; omega
  have t0n : (n == 0) = false := by simp; omega
  by_cases q1 : 256 < n
  · have t1 : decide ((256 : Int) < (n : Int)) = true := decide_eq_true (by omega)
    have t1n : decide (256 < n) = true := decide_eq_true q1
    have hE : lenE n = 2 := by unfold lenE; rw [if_pos (by omega)]
    have HR := hideR (fun u => unhideR HNo (.iface 120 (.pointer (some (a 1)))) u (by rw [hE]; exact err_at 1 (by decide)) (by rw [hE]; decide))
    clear HNo HFin q0 hE
    go_enter Tryd.func9, Tryd.ntmps9
    go_wp2
    go_region
    go_wp2
    go_ret2
    exact unhideR HR _ (drew1_go0 (unhideR HB0))
  have t1 : decide ((256 : Int) < (n : Int)) = false := decide_eq_false (by omega)
  have t1n : decide (256 < n) = false := decide_eq_false q1
  have HFin' := hideR (unhideR HFin (by unfold lenE; rw [if_neg (by omega), if_neg (by omega)]))
  have hto := turnsOf_any n n back (by omega) (by omega) (by omega) w
  have hn0 : (n : Int) ≠ 0 := by omega
  clear HNo HFin x1 x4
  go_enter Tryd.func9, Tryd.ntmps9
  go_wp2_with fail
  refine hto.mono ?_
  rintro e u ⟨T, gt, rfl, hT, hTo, hbu⟩
  have HTn := hideR hT.2
  have HTl := hideR hT.1
  have HTc : HeldR (∀ v, Below u.heap.size u v → CxCame v (some ⟨gt, 0, none⟩) T) := hideR (fun v k => hTo.row.below k)
  have HBu := hideR hbu
  obtain ⟨wm, hmk, hown, hbw⟩ := make_zeroC (w := u) (n := n) u.heap.size (Nat.le_refl _) (by omega)
  have HX : HeldR (∃ X, WvK L n back X 0 0 ∧ CxOwn wm u.heap.size (.slice (some ⟨u.heap.size, 0, none⟩) n n) X) := hideR ⟨_, WvK.start L n back, hown⟩
  have HBm := hideR hbw
  have HLu : HeldR (∀ v, Below u.heap.size u v → CxCame v a1 L) := hideR (fun v k => unhideR HL v (below_go (unhideR HBu) k))
  clear hto hT hTo hbu hown hbw HL HB0
  go_wp2
  obtain ⟨g, hg⟩ : ∃ g, u.heap.size = g := ⟨_, rfl⟩
  have HG := hideR hg
  rw [hg] at HX ⊢
  clear hg hmk
  go_loopw [28] (fun iv wl => ∃ (k : Nat) (X : List (Nat × Nat)), k ≤ n ∧ iv = .int .i64 (k : Nat) ∧ HeldR (WvK L n back X k 0) ∧ HeldR (CxOwn wl g (.slice (some ⟨g, 0, none⟩) n n) X) ∧ HeldR (Below u.heap.size u wl)) (fun iv _ => n + 1 - (intOf iv).toNat)
  case atStart =>
    obtain ⟨X, h1, h2⟩ := unhideR HX
    exact ⟨0, X, by omega, rfl, hideR h1, hideR h2, HBm⟩
  case round =>
    clear HX HBm
    obtain ⟨k, X, hk, rfl, HK, HO, HBw⟩ := hrel
    by_cases hlt : k < n
    · have tk : decide (k < n) = true := decide_eq_true hlt
      have tki : decide ((k : Int) < (n : Int)) = true := decide_eq_true (by omega)
      have jk : (k : Int) < (n : Int) := by omega
      have wk : IntKind.i64.wrap ((k : Int) + 1) = ((k + 1 : Nat) : Int) := by rw [show (k : Int) + 1 = ((k + 1 : Nat) : Int) by omega]; exact iwrap (by omega) (by omega)
      go_wp2
      go_loopw [33] (fun iv wl => ∃ (j : Nat) (X : List (Nat × Nat)), j ≤ n ∧ iv = .int .i64 (j : Nat) ∧ HeldR (WvK L n back X k j) ∧ HeldR (CxOwn wl g (.slice (some ⟨g, 0, none⟩) n n) X) ∧ HeldR (Below u.heap.size u wl)) (fun iv _ => n + 1 - (intOf iv).toNat)
      case atStart => exact ⟨0, X, by omega, rfl, HK, HO, HBw⟩
      case round =>
        clear HK HO HBw X
        obtain ⟨j, X, hj, rfl, HK, HO, HBw⟩ := hrel
        by_cases hlj : j < n
        · have tk' : decide (j < n) = true := decide_eq_true hlj
          have tki' : decide ((j : Int) < (n : Int)) = true := decide_eq_true (by omega)
          have jj : (j : Int) < (n : Int) := by omega
          have wk' : IntKind.i64.wrap ((j : Int) + 1) = ((j + 1 : Nat) : Int) := by rw [show (j : Int) + 1 = ((j + 1 : Nat) : Int) by omega]; exact iwrap (by omega) (by omega)
          obtain ⟨b1, o1, rfl, _, x1⟩ := (unhideR HLu wr (unhideR HBw)).at_ j (by rw [unhideR HN]; exact hlj)
          obtain ⟨m, hm⟩ : ∃ m, j * k % n = m := ⟨_, rfl⟩
          have hmn : m < n := by rw [← hm]; exact Nat.mod_lt _ (by omega)
          have HTc' : HeldR (∀ v, Below wr.heap.size wr v → v.cell? ⟨gt, m, none⟩ = some (.complex .f64 (T.getD m (0, 0)).1 (T.getD m (0, 0)).2)) := hideR (fun v hv => by
            obtain ⟨b9, o9, e9, _, x9⟩ := (unhideR HTc v (below_go (unhideR HBw) hv)).at_ m (by rw [unhideR HTl]; exact hmn)
            injection e9 with e9
            injection e9 with e1 e2
            subst e1
            subst e2
            rw [Nat.zero_add] at x9
            exact x9)
          have HGc : HeldR (∀ v, Below wr.heap.size wr v → v.cell? ⟨g, k, none⟩ = some (.complex .f64 (X.getD k (0, 0)).1 (X.getD k (0, 0)).2)) := hideR (fun v hv => (((unhideR HO).below hv).has (unhideR HK).len (k := k) hlt).1)
          have HWv : HeldR (waveV (gAt j k n) back = T.getD m (0, 0)) := hideR (by
            unfold gAt
            rw [unhideR HTn m hmn, hm])
          have hjk2 : j * k ≤ 256 * 256 := Nat.mul_le_mul (by omega) (by omega)
          obtain ⟨jk, hjk⟩ : ∃ jk, j * k = jk := ⟨_, rfl⟩
          have wjk : IntKind.i64.wrap ((j : Int) * (k : Int)) = (jk : Nat) := by rw [← hjk, show ((j : Int) * (k : Int)) = ((j * k : Nat) : Int) from (Int.natCast_mul j k).symm]; exact iwrap (by omega) (by omega)
          rw [hjk] at hm
          have hm1 : (jk : Int) % (n : Int) = (m : Nat) := by rw [← hm]; exact (Int.natCast_emod jk n).symm
          have hm2 : (jk : Int).tmod (n : Int) = (m : Nat) := (Int.tmod_eq_emod_of_nonneg (Int.natCast_nonneg jk)).trans hm1
          have jm : (m : Int) < (n : Int) := by omega
          have HLv := hn0
          have hpr := fun v => sproduct_any (L.getD j (0, 0)) (T.getD m (0, 0)) v
          have hsto := fun w a x y m => run_store Tryd.prog w a (.complex .f64 x y) m rfl
          clear hjk2 hm hjk HLv
          obtain ⟨q, hq⟩ : ∃ q, L.getD j (0, 0) = q := ⟨_, rfl⟩
          obtain ⟨le, li⟩ := q
          obtain ⟨q', hq'⟩ : ∃ q, T.getD m (0, 0) = q := ⟨_, rfl⟩
          obtain ⟨te, ti⟩ := q'
          obtain ⟨q2, hq2⟩ : ∃ q, X.getD k (0, 0) = q := ⟨_, rfl⟩
          obtain ⟨re, im⟩ := q2
          have HTc := HTc'
          rw [hq] at hpr x1
          rw [hq'] at hpr HWv HTc
          rw [hq2] at HGc
          have HLv : HeldR (L.getD j (0, 0) = (le, li)) := hideR hq
          have HXk := hideR hq2
          clear hq hq' hq2 HTc'
          go_upto_region 14 with fail
          clear x1
          refine wp_region_made 0 #[true, true, true, true, true, true, true, true, true, true, true, true, true, true, true, true, false] [.lets (· = .slice (some ⟨g, 0, none⟩) n n),
            .lets (· = .int .i64 (k : Nat)),
            .lets (· = .pointer (some ⟨g, k, none⟩)),
            .lets (· = .complex .f64 re im),
            .lets (· = .complex .f64 le li),
            .lets (· = .slice (some ⟨gt, 0, none⟩) n n),
            .lets (· = .int .i64 (j : Nat)),
            .lets (· = .int .i64 (k : Nat)),
            .lets (· = .int .i64 (jk : Nat)),
            .lets (· = .int .i64 (n : Nat)),
            .lets (· = .int .i64 (m : Nat)),
            .lets (· = .pointer (some ⟨gt, m, none⟩)),
            .lets (· = .complex .f64 te ti),
            .lets (CpS (le, li) (te, ti)),
            .lets (CaS (re, im) (le, li) (te, ti)),
            .lets (· = .pointer (some ⟨g, k, none⟩))] [] [] (by kernel_rfl) (by kernel_rfl) rfl ?kinds (by kernel_rfl) (by kernel_rfl) (by kernel_rfl) ?_
          case kinds =>
            constructor
            · intro i h
              rcases i with _ | _ | _ | _ | _ | _ | _ | _ | _ | _ | _ | _ | _ | _ | _ | _ | i <;> simp [Kx.isMade] at h
            · intro i h
              rcases i with _ | _ | _ | _ | _ | _ | _ | _ | _ | _ | _ | _ | _ | _ | _ | _ | i <;> simp [Kx.isUse] at h
          refine lexX_step (fun K hK => ⟨by kernel_rfl, ⟨_, rfl⟩, fun v hv => ?_, fun v hv => ?_⟩)
          · go_simp
            exact mUpon_b
          subst hv
          go_simp
          refine hK _ ?_
          clear hK K
          refine lexX_step (fun K hK => ⟨by kernel_rfl, ⟨_, rfl⟩, fun v hv => ?_, fun v hv => ?_⟩)
          · go_simp
            exact mUpon_b
          subst hv
          go_simp
          refine hK _ ?_
          clear hK K
          refine lexX_step (fun K hK => ⟨by kernel_rfl, ⟨_, rfl⟩, fun v hv => ?_, fun v hv => ?_⟩)
          · go_simp
            exact mUpon_b
          subst hv
          go_simp
          refine hK _ ?_
          clear hK K
          refine lexX_step (fun K hK => ⟨by kernel_rfl, ⟨_, rfl⟩, fun v hv => ?_, fun v hv => ?_⟩)
          · have q := ((unhideR HGc) v hv)
            go_simp
            exact mUpon_b
          subst hv
          go_simp
          refine hK _ ?_
          clear hK K
          refine lexX_step (fun K hK => ⟨by kernel_rfl, ⟨_, rfl⟩, fun v hv => ?_, fun v hv => ?_⟩)
          · go_simp
            exact mUpon_b
          subst hv
          go_simp
          refine hK _ ?_
          clear hK K
          refine lexX_step (fun K hK => ⟨by kernel_rfl, ⟨_, rfl⟩, fun v hv => ?_, fun v hv => ?_⟩)
          · go_simp
            exact mUpon_b
          subst hv
          go_simp
          refine hK _ ?_
          clear hK K
          refine lexX_step (fun K hK => ⟨by kernel_rfl, ⟨_, rfl⟩, fun v hv => ?_, fun v hv => ?_⟩)
          · go_simp
            exact mUpon_b
          subst hv
          go_simp
          refine hK _ ?_
          clear hK K
          refine lexX_step (fun K hK => ⟨by kernel_rfl, ⟨_, rfl⟩, fun v hv => ?_, fun v hv => ?_⟩)
          · go_simp
            exact mUpon_b
          subst hv
          go_simp
          refine hK _ ?_
          clear hK K
          refine lexX_step (fun K hK => ⟨by kernel_rfl, ⟨_, rfl⟩, fun v hv => ?_, fun v hv => ?_⟩)
          · go_simp
            exact mUpon_b
          subst hv
          go_simp
          refine hK _ ?_
          clear hK K
          refine lexX_step (fun K hK => ⟨by kernel_rfl, ⟨_, rfl⟩, fun v hv => ?_, fun v hv => ?_⟩)
          · go_simp
            exact mUpon_b
          subst hv
          go_simp
          refine hK _ ?_
          clear hK K
          refine lexX_step (fun K hK => ⟨by kernel_rfl, ⟨_, rfl⟩, fun v hv => ?_, fun v hv => ?_⟩)
          · go_simp
            exact mUpon_b
          subst hv
          go_simp
          refine hK _ ?_
          clear hK K
          refine lexX_step (fun K hK => ⟨by kernel_rfl, ⟨_, rfl⟩, fun v hv => ?_, fun v hv => ?_⟩)
          · go_simp
            exact mUpon_b
          subst hv
          go_simp
          refine hK _ ?_
          clear hK K
          refine lexX_step (fun K hK => ⟨by kernel_rfl, ⟨_, rfl⟩, fun v hv => ?_, fun v hv => ?_⟩)
          · have q := ((unhideR HTc) v hv)
            go_simp
            exact mUpon_b
          subst hv
          go_simp
          refine hK _ ?_
          clear hK K
          refine lexX_step (fun K hK => ⟨by kernel_rfl, cpS_some _ _, fun v hv => ?_, fun v hv => ?_⟩)
          · go_simp
            refine (hpr _).mono ?_
            rintro e w9 ⟨r, rfl, h1, k⟩
            exact ⟨_, rfl, ⟨r, rfl, h1⟩, k⟩
          obtain ⟨p, rfl, hp⟩ := hv
          go_simp
          refine hK _ ?_
          clear hK K
          refine lexX_step (fun K hK => ⟨by kernel_rfl, caS_some _ _ _, fun v hv => ?_, fun v hv => ?_⟩)
          · go_simp
            exact ca_is hp
          obtain ⟨y, rfl, p2, hp2, hy⟩ := hv
          go_simp
          refine hK _ ?_
          clear hK K
          refine lexX_step (fun K hK => ⟨by kernel_rfl, ⟨_, rfl⟩, fun v hv => ?_, fun v hv => ?_⟩)
          · go_simp
            exact mUpon_b
          subst hv
          go_simp
          refine hK _ ?_
          clear hK K
          refine lexX_end (fun v5 hv => ?_)
          have HK5 := hideR hv.low
          clear hv
          have HO5 := hideR ((unhideR HO).below (unhideR HK5))
          obtain ⟨xc, xf⟩ := (unhideR HO5).has (unhideR HK).len (k := k) hlt
          have HK6 := hideR ((unhideR HK).next hlt hlj (by rw [unhideR HLv, unhideR HWv]; exact hp2) (by rw [unhideR HXk]; exact hy))
          have HO6 := hideR ((unhideR HO5).put (unhideR HK).len k y)
          have HB6 : HeldR (Below u.heap.size u (v5.setCell ⟨g, k, none⟩ (.complex .f64 y.1 y.2))) := hideR ((below_go (unhideR HBw) (unhideR HK5)).setCell (by rw [unhideR HG]; exact Nat.le_refl _) _)
          clear HO5 HK5 HK HO HBw hp hp2 hy HLv HWv HXk
          refine wpAny_step (i := 16) (by kernel_rfl) rfl (by kernel_rfl) (fun K hK => ?_)
          unfold Oper.wp
          go_simp
          refine hK _ _ ?_
          clear hK K
          refine wpAny_end (by kernel_rfl) ?_
          clear xc xf
          generalize v5.setCell ⟨g, k, none⟩ (.complex .f64 y.1 y.2) = w7 at *
          go_wp2
          exact ⟨⟨j + 1, _, by omega, by first | rfl | go_num, HK6, HO6, HB6⟩, by clear hm1 hm2; simp [intOf]; omega⟩
        · obtain rfl : j = n := by omega
          have tk' : decide (j < j) = false := decide_eq_false hlj
          have tki' : decide ((j : Int) < (j : Int)) = false := decide_eq_false (by omega)
          have HK' := hideR (unhideR HK).on
          clear HK
          go_wp2
          exact ⟨⟨k + 1, X, by omega, by first | rfl | go_num, HK', HO, HBw⟩, by simp [intOf]; omega⟩
    · obtain rfl : k = n := by omega
      have tk : decide (k < k) = false := decide_eq_false hlt
      have tki : decide ((k : Int) < (k : Int)) = false := decide_eq_false (by omega)
      have hdo := (unhideR HK).done
      have hln := (unhideR HK).len
      cases back with
      | false =>
        have HR := hideR (unhideR HFin' X g wr ⟨hln, fun i hi => ⟨_, hdo i hi, fun _ => rfl, fun q => by cases q⟩⟩ (unhideR HO).row (below_go (unhideR HBu) (unhideR HBw)))
        clear HFin' HK HO HBw HLu HTc HTn HTl hdo hln
        go_wp2
        go_ret2
        exact unhideR HR
      | true =>
        have hdv := divide_any (unhideR HO) hln (by omega)
        have HDo := hideR hdo
        have HBw' := HBw
        clear HO HBw HK HLu HTc HTn HTl hdo
        go_wp2_with fail
        refine hdv.mono ?_
        rintro e w8 ⟨rfl, Y, hY, hYo, hYb⟩
        have HR := hideR (unhideR HFin' Y g w8 ⟨hY.len.trans hln, fun i hi => ⟨_, unhideR HDo i hi, (fun q => by cases q), fun _ => hY.done i hi⟩⟩ hYo.row (below_go (unhideR HBu) ((unhideR HBw').trans (by rw [unhideR HG]; exact hYb))))
        clear HFin' hdv hY hYo hYb HDo HBw' hln
        go_wp2
        go_ret2
        exact unhideR HR
end Go.Proofs.YtngdemhhcablmakDoor
