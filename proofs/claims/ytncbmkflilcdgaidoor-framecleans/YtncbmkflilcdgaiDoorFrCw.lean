/-
  The law FrameCleans: its walk, out of the program's calls by contracts.
-/
import Derived.Test.YtncbmkflilcdgaiDoorFrLw0
import Derived.Test.YtncbmkflilcdgaiDoorFrCl
import Derived.Test.YtncbmkflilcdgaiDoorFrSm
import Derived.Test.YtncbmkflilcdgaiDoorLoose10
import Derived.Deep.CutRange
namespace Go.Proofs.YtncbmkflilcdgaiDoor
open Go Go.RowKit

def CleanOK (a : Nat → Addr) : Prop := ∀ {w : World} {ap ad af : Option Addr} {cp cd cf : Nat} {p d f : Pic} (full : Int), Sents w a → ICame w ap p.L → ICame w ad d.L → ICame w af f.L → p.L.length ≤ 700 → d.L.length ≤ 700 → f.L.length ≤ 700 →
  Calls Tryd.prog 6 #[.agg #[.int .i64 d.wide, .int .i64 d.high, .slice ad d.L.length cd, .int .i64 f.wide, .int .i64 f.high, .slice af f.L.length cf, .int .i64 full], .agg #[.int .i64 p.wide, .int .i64 p.high, .slice ap p.L.length cp]] w fun e w' => ∃ (X Y : List Int) (ax ay : Option Addr) (cx cy : Nat) (er : Value) (Wd Hg : Int), e = .returned (.tuple #[.agg #[.int .i64 Wd, .int .i64 Hg, .slice ax X.length cx], .slice ay Y.length cy, er]) ∧ ErrIs a (cleanE p d f full) er ∧
    (cleanE p d f full = 0 → X = cleanV p d f ∧ Y = fullV p full ∧ Wd = p.wide ∧ Hg = p.high) ∧ (cleanE p d f full ≠ 0 → X = [] ∧ Y = []) ∧ ITyped w' ax X ∧ ITyped w' ay Y ∧ Below w.heap.size w w'
/-- what is left behind the program's Clean, x in its block. -/
structure Cl (a : Nat → Addr) (p d f : Pic) (full : Int) (u w : World) (g : Nat) (ay : Option Addr) (m cy : Nat) (er : Value) : Prop where
  ex : ∃ (X Y : List Int) (ax : Option Addr) (cx : Nat) (Wd Hg : Int), m = Y.length ∧ ErrIs a (cleanE p d f full) er ∧ (cleanE p d f full = 0 → X = cleanV p d f ∧ Y = fullV p full ∧ Wd = p.wide ∧ Hg = p.high) ∧ (cleanE p d f full ≠ 0 → X = [] ∧ Y = []) ∧ ICame w ax X ∧ ICame w ay Y ∧
    w.heap[g]? = some (.cells #[.int .i64 Wd, .int .i64 Hg, .slice ax X.length cx] 27 (0, 0)) ∧ Below u.heap.size u w
set_option maxRecDepth 100000 in
set_option maxHeartbeats 6400000 in
theorem cleans_walk {a : Nat → Addr} (hF : FrOne a) (hK : CleanOK a) (full : Int) {vp vd vf : Value} {qp qd qf : Option Pic} (w : World) (hS : Sents w a) (h1 : PicArg w vp qp) (h2 : PicArg w vd qd) (h3 : PicArg w vf qf) :
    Calls Tryd.prog 3 #[vp, vd, vf, .int .i64 full] w fun e w' => e = .returned (.bool true) ∧ Below w.heap.size w w' := by
  have HS := hideR hS
  have H1 := hideR h1
  have H2 := hideR h2
  have H3 := hideR h3
  have hfr := framed_any hF w hS
  clear hS h1 h2 h3
  go_enter Tryd.func3, Tryd.ntmps3
  go_wp2_with fail
  refine hfr.mono ?_
  rintro e w1 ⟨rfl, k1⟩
  have HW := hideR k1
  replace H1 := hideR ((unhideR H1).below k1)
  replace H2 := hideR ((unhideR H2).below k1)
  replace H3 := hideR ((unhideR H3).below k1)
  have s1 := small_any (unhideR H1)
  have s2 := small_any (unhideR H2)
  have s3 := small_any (unhideR H3)
  clear k1 hfr
  go_wp2_with fail
  refine s1.mono ?_
  rintro e u1 ⟨q1, rfl, z1, rfl⟩
  go_wp2_with fail
  refine s2.mono ?_
  rintro e u2 ⟨q2, rfl, z2, rfl⟩
  go_wp2_with fail
  refine s3.mono ?_
  rintro e u3 ⟨q3, rfl, z3, rfl⟩
  clear s1 s2 s3
  by_cases hq : q1 = true ∧ q2 = true ∧ q3 = true
  case neg =>
    clear z1 z2 z3
    cases q1 <;> cases q2 <;> cases q3
    case true.true.true => exact absurd ⟨rfl, rfl, rfl⟩ hq
    all_goals
      clear hq
      go_wp2
      go_ret
      exact ⟨rfl, unhideR HW⟩
  case pos =>
    obtain ⟨rfl, rfl, rfl⟩ := hq
    obtain ⟨p, rfl, n1⟩ := z1 rfl
    obtain ⟨d, rfl, n2⟩ := z2 rfl
    obtain ⟨f, rfl, n3⟩ := z3 rfl
    clear z1 z2 z3
    obtain ⟨bp, op, cp, ap, rfl, kp, lp⟩ := picArg_is (unhideR H1)
    obtain ⟨bd, od, cd, ad, rfl, kd, ld⟩ := picArg_is (unhideR H2)
    obtain ⟨bf, of, cf, af, rfl, kf, lf⟩ := picArg_is (unhideR H3)
    have HP := hideR kp
    have HD := hideR kd
    have HFl := hideR kf
    have hcl := fun u (hu : Below w1.heap.size w1 u) => hK (cp := cp) (cd := cd) (cf := cf) full ((unhideR HS).below (below_go (unhideR HW) hu) (Nat.le_refl _)) (kp.below hu).row (kd.below hu).row (kf.below hu).row n1 n2 n3
    clear kp kd kf H1 H2 H3
    go_wp2_with fail
    go_cut [13, 14, 15] from 44 to 59 (fun s13 s14 s15 wx => ∃ (g : Nat) (ay : Option Addr) (m cy : Nat), s13 = .pointer (some ⟨g, 0, none⟩) ∧ s14 = .slice ay m cy ∧ HeldR (Cl a p d f full w1 wx g ay m cy s15))
    case' first =>
      refine wp_region_box 7 16 _ (.cells #[.int .i64 0, .int .i64 0, .slice none 0 0] 27) #[true, true, true, true, true, true, true, true, true, true, true, false, false, false, false, false, true, false, false, false] #[true, true, true, true, true, true, true, true, true, true, true, false, false, false, false, false, false, false, false, false] [.lets (· = .pointer (some ⟨bd, od, none⟩)),
        .lets (· = .pointer (some ⟨bd, od, none⟩)),
        .lets (· = .agg #[.int .i64 d.wide, .int .i64 d.high, .slice ad d.L.length cd]),
        .lets (· = .pointer (some ⟨bf, of, none⟩)),
        .lets (· = .pointer (some ⟨bf, of, none⟩)),
        .lets (· = .agg #[.int .i64 f.wide, .int .i64 f.high, .slice af f.L.length cf]),
        .lets (· = .int .i64 full),
        .lets (· = .agg #[.int .i64 d.wide, .int .i64 d.high, .slice ad d.L.length cd, .int .i64 f.wide, .int .i64 f.high, .slice af f.L.length cf, .int .i64 full]),
        .lets (· = .pointer (some ⟨bp, op, none⟩)),
        .lets (· = .pointer (some ⟨bp, op, none⟩)),
        .lets (· = .agg #[.int .i64 p.wide, .int .i64 p.high, .slice ap p.L.length cp])] (by kernel_rfl) (by kernel_rfl) rfl rfl (by simp) (fun a => ⟨rfl, fun w => ?new⟩) (by kernel_rfl) ?lets (by kernel_rfl) rfl (by kernel_rfl) (by kernel_rfl) ?A ?B
      case new =>
        go_simp
        first
          | exact ⟨rfl, rfl⟩
          | rfl
      case lets =>
        intro j hj
        rcases j with _ | _ | _ | _ | _ | _ | _ | _ | _ | _ | _ | j
        all_goals first
          | exact ⟨_, rfl⟩
          | (simp at hj; omega)
      case' A =>
        intro g fg
        unfold ptr
        go_simp
        refine lexX_step (fun K hK => ⟨by kernel_rfl, ⟨_, rfl⟩, fun v hv => ?_, fun v hv => ?_⟩)
        · go_simp
          exact mUpon_b
        subst hv
        go_simp
        refine hK _ ?_
        clear hK K
        refine lexX_step (fun K hK => ⟨by kernel_rfl, ⟨_, rfl⟩, fun v hv => ?_, fun v hv => ?_⟩)
        · go_simp
          exact mUpon_b
        subst hv
        go_simp
        refine hK _ ?_
        clear hK K
        refine lexX_step (fun K hK => ⟨by kernel_rfl, ⟨_, rfl⟩, fun v hv => ?_, fun v hv => ?_⟩)
        · obtain ⟨_, c0, c1, c2, _⟩ := (unhideR HD).below hv
          go_simp
          exact mUpon_b
        subst hv
        go_simp
        refine hK _ ?_
        clear hK K
        refine lexX_step (fun K hK => ⟨by kernel_rfl, ⟨_, rfl⟩, fun v hv => ?_, fun v hv => ?_⟩)
        · go_simp
          exact mUpon_b
        subst hv
        go_simp
        refine hK _ ?_
        clear hK K
        refine lexX_step (fun K hK => ⟨by kernel_rfl, ⟨_, rfl⟩, fun v hv => ?_, fun v hv => ?_⟩)
        · go_simp
          exact mUpon_b
        subst hv
        go_simp
        refine hK _ ?_
        clear hK K
        refine lexX_step (fun K hK => ⟨by kernel_rfl, ⟨_, rfl⟩, fun v hv => ?_, fun v hv => ?_⟩)
        · obtain ⟨_, c0, c1, c2, _⟩ := (unhideR HFl).below hv
          go_simp
          exact mUpon_b
        subst hv
        go_simp
        refine hK _ ?_
        clear hK K
        refine lexX_step (fun K hK => ⟨by kernel_rfl, ⟨_, rfl⟩, fun v hv => ?_, fun v hv => ?_⟩)
        · go_simp
          exact mUpon_b
        subst hv
        go_simp
        refine hK _ ?_
        clear hK K
        refine lexX_step (fun K hK => ⟨by kernel_rfl, ⟨_, rfl⟩, fun v hv => ?_, fun v hv => ?_⟩)
        · go_simp
          exact mUpon_b
        subst hv
        go_simp
        refine hK _ ?_
        clear hK K
        refine lexX_step (fun K hK => ⟨by kernel_rfl, ⟨_, rfl⟩, fun v hv => ?_, fun v hv => ?_⟩)
        · go_simp
          exact mUpon_b
        subst hv
        go_simp
        refine hK _ ?_
        clear hK K
        refine lexX_step (fun K hK => ⟨by kernel_rfl, ⟨_, rfl⟩, fun v hv => ?_, fun v hv => ?_⟩)
        · go_simp
          exact mUpon_b
        subst hv
        go_simp
        refine hK _ ?_
        clear hK K
        refine lexX_step (fun K hK => ⟨by kernel_rfl, ⟨_, rfl⟩, fun v hv => ?_, fun v hv => ?_⟩)
        · obtain ⟨_, c0, c1, c2, _⟩ := (unhideR HP).below hv
          go_simp
          exact mUpon_b
        subst hv
        go_simp
        refine hK _ ?_
        clear hK K
        refine lexX_end (fun v hv => ?_)
        refine wpAny_step (i := 11) (by kernel_rfl) rfl (by kernel_rfl) (fun K hK => ?_)
        unfold Oper.wp
        go_simp
        refine (hcl v hv.low).mono ?_
        rintro e wz ⟨X, Y, ax, ay, cx, cy, er, Wd, Hg, rfl, her, h0, h1, hIx, hIy, kz⟩
        go_simp
        refine hK _ _ ?_
        clear hK K
        refine wpAny_step (i := 12) (by kernel_rfl) rfl (by kernel_rfl) (fun K hK => ?_)
        unfold Oper.wp
        go_simp
        refine hK _ _ ?_
        clear hK K
        refine wpAny_take (i := 13) (v := .agg #[.int .i64 Wd, .int .i64 Hg, .slice ax X.length cx]) rfl (by kernel_rfl) (by kernel_rfl) (by kernel_rfl) (fun _ _ _ h => h) (Or.inl ⟨by rfl, fun u => ?_⟩) ?_
        · go_simp
          try rfl
        go_simp
        refine wpAny_take (i := 14) (v := .slice ay Y.length cy) rfl (by kernel_rfl) (by kernel_rfl) (by kernel_rfl) (fun _ _ _ h => h) (Or.inl ⟨by rfl, fun u => ?_⟩) ?_
        · go_simp
          try rfl
        go_simp
        refine wpAny_take (i := 15) (v := er) rfl (by kernel_rfl) (by kernel_rfl) (by kernel_rfl) (fun _ _ _ h => h) (Or.inl ⟨by rfl, fun u => ?_⟩) ?_
        · go_simp
          try rfl
        go_simp
        have hz0 : (wz).heap[g]? = some (.cells #[.int .i64 0, .int .i64 0, .slice none 0 0] 27 (0, 0)) := keepB (hv.held g _ (by unfold Hd.put; rw [if_pos rfl])) kz
        obtain ⟨y0, y1, y2⟩ := pic_three hz0
        obtain ⟨y3, y4, y5⟩ := pic_open hz0
        have hIx' : ITyped (wz) ax X := hIx
        have hIy' : ITyped (wz) ay Y := hIy
        have hgx := hIx'.ne hz0 (by decide)
        have hgy := hIy'.ne hz0 (by decide)
        have HC : HeldR (Cl a p d f full w1 ((((wz).setCell ⟨g, 0, none⟩ (.int .i64 Wd)).setCell ⟨g, 1, none⟩ (.int .i64 Hg)).setCell ⟨g, 2, none⟩ (.slice ax X.length cx)) g ay Y.length cy er) := ⟨X, Y, ax, cx, Wd, Hg, rfl, her, h0, h1, ((hIx'.row.other hgx).other hgx).other hgx, ((hIy'.row.other hgy).other hgy).other hgy, set3 hz0, below_three (below_go hv.low kz) fg.ge _ _ _⟩
        clear her h0 h1 hIx hIy hIx' hIy' hgx hgy
        refine wpAny_step (i := 17) (by kernel_rfl) rfl (by kernel_rfl) (fun K hK => ?_)
        unfold Oper.wp
        go_simp
        refine hK _ _ ?_
        clear hK K
        refine wpAny_step (i := 18) (by kernel_rfl) rfl (by kernel_rfl) (fun K hK => ?_)
        unfold Oper.wp
        go_simp
        refine hK _ _ ?_
        clear hK K
        refine wpAny_step (i := 19) (by kernel_rfl) rfl (by kernel_rfl) (fun K hK => ?_)
        unfold Oper.wp
        go_simp
        refine hK _ _ ?_
        clear hK K
        refine wpAny_end (by kernel_rfl) ?_
        go_wp2_with fail
        go_meet
        exact ⟨g, ay, Y.length, cy, rfl, rfl, HC⟩
      case' B =>
        refine lexX_step (fun K hK => ⟨by kernel_rfl, ⟨_, rfl⟩, fun v hv => ?_, fun v hv => ?_⟩)
        · go_simp
          exact mUpon_b
        subst hv
        go_simp
        refine hK _ ?_
        clear hK K
        refine lexX_step (fun K hK => ⟨by kernel_rfl, ⟨_, rfl⟩, fun v hv => ?_, fun v hv => ?_⟩)
        · go_simp
          exact mUpon_b
        subst hv
        go_simp
        refine hK _ ?_
        clear hK K
        refine lexX_step (fun K hK => ⟨by kernel_rfl, ⟨_, rfl⟩, fun v hv => ?_, fun v hv => ?_⟩)
        · obtain ⟨_, c0, c1, c2, _⟩ := (unhideR HD).below hv
          go_simp
          exact mUpon_b
        subst hv
        go_simp
        refine hK _ ?_
        clear hK K
        refine lexX_step (fun K hK => ⟨by kernel_rfl, ⟨_, rfl⟩, fun v hv => ?_, fun v hv => ?_⟩)
        · go_simp
          exact mUpon_b
        subst hv
        go_simp
        refine hK _ ?_
        clear hK K
        refine lexX_step (fun K hK => ⟨by kernel_rfl, ⟨_, rfl⟩, fun v hv => ?_, fun v hv => ?_⟩)
        · go_simp
          exact mUpon_b
        subst hv
        go_simp
        refine hK _ ?_
        clear hK K
        refine lexX_step (fun K hK => ⟨by kernel_rfl, ⟨_, rfl⟩, fun v hv => ?_, fun v hv => ?_⟩)
        · obtain ⟨_, c0, c1, c2, _⟩ := (unhideR HFl).below hv
          go_simp
          exact mUpon_b
        subst hv
        go_simp
        refine hK _ ?_
        clear hK K
        refine lexX_step (fun K hK => ⟨by kernel_rfl, ⟨_, rfl⟩, fun v hv => ?_, fun v hv => ?_⟩)
        · go_simp
          exact mUpon_b
        subst hv
        go_simp
        refine hK _ ?_
        clear hK K
        refine lexX_step (fun K hK => ⟨by kernel_rfl, ⟨_, rfl⟩, fun v hv => ?_, fun v hv => ?_⟩)
        · go_simp
          exact mUpon_b
        subst hv
        go_simp
        refine hK _ ?_
        clear hK K
        refine lexX_step (fun K hK => ⟨by kernel_rfl, ⟨_, rfl⟩, fun v hv => ?_, fun v hv => ?_⟩)
        · go_simp
          exact mUpon_b
        subst hv
        go_simp
        refine hK _ ?_
        clear hK K
        refine lexX_step (fun K hK => ⟨by kernel_rfl, ⟨_, rfl⟩, fun v hv => ?_, fun v hv => ?_⟩)
        · go_simp
          exact mUpon_b
        subst hv
        go_simp
        refine hK _ ?_
        clear hK K
        refine lexX_step (fun K hK => ⟨by kernel_rfl, ⟨_, rfl⟩, fun v hv => ?_, fun v hv => ?_⟩)
        · obtain ⟨_, c0, c1, c2, _⟩ := (unhideR HP).below hv
          go_simp
          exact mUpon_b
        subst hv
        go_simp
        refine hK _ ?_
        clear hK K
        refine lexX_end (fun v hv => ?_)
        refine wpAny_two (i := 11) (j := 16) (by kernel_rfl) rfl rfl (by kernel_rfl) (by kernel_rfl) (fun K hK => ?ba) (fun K hK => ?bb)
        case' ba =>
          unfold Oper.wp
          go_simp
          refine (hcl v hv.low).mono ?_
          rintro e wz ⟨X, Y, ax, ay, cx, cy, er, Wd, Hg, rfl, her, h0, h1, hIx, hIy, kz⟩
          go_simp
          refine hK _ _ ?_
          clear hK K
          refine wpAny_take (i := 12) (v := .tuple #[.agg #[.int .i64 Wd, .int .i64 Hg, .slice ax X.length cx], .slice ay Y.length cy, er]) rfl (by kernel_rfl) (by kernel_rfl) (by kernel_rfl) (fun _ _ _ h => h) (Or.inl ⟨by rfl, fun u => ?_⟩) ?_
          · go_simp
            try rfl
          go_simp
          refine wpAny_take (i := 13) (v := .agg #[.int .i64 Wd, .int .i64 Hg, .slice ax X.length cx]) rfl (by kernel_rfl) (by kernel_rfl) (by kernel_rfl) (fun _ _ _ h => h) (Or.inl ⟨by rfl, fun u => ?_⟩) ?_
          · go_simp
            try rfl
          go_simp
          refine wpAny_take (i := 14) (v := .slice ay Y.length cy) rfl (by kernel_rfl) (by kernel_rfl) (by kernel_rfl) (fun _ _ _ h => h) (Or.inl ⟨by rfl, fun u => ?_⟩) ?_
          · go_simp
            try rfl
          go_simp
          refine wpAny_take (i := 15) (v := er) rfl (by kernel_rfl) (by kernel_rfl) (by kernel_rfl) (fun _ _ _ h => h) (Or.inl ⟨by rfl, fun u => ?_⟩) ?_
          · go_simp
            try rfl
          go_simp
          have HC : HeldR (Cl a p d f full w1 (wz.alloc (.cells #[.int .i64 Wd, .int .i64 Hg, .slice ax X.length cx] 27)) wz.heap.size ay Y.length cy er) := ⟨X, Y, ax, cx, Wd, Hg, rfl, her, h0, h1, (hIx.below (below_a wz _)).row, (hIy.below (below_a wz _)).row, alloc_last wz _, below_go (below_go hv.low kz) (below_a wz _)⟩
          clear her h0 h1 hIx hIy
          refine wpAny_step (i := 16) (by kernel_rfl) rfl (by kernel_rfl) (fun K hK => ?_)
          unfold Oper.wp
          go_simp
          refine hK _ _ ?_
          clear hK K
          refine wpAny_step (i := 17) (by kernel_rfl) rfl (by kernel_rfl) (fun K hK => ?_)
          unfold Oper.wp
          go_simp
          refine hK _ _ ?_
          clear hK K
          refine wpAny_step (i := 18) (by kernel_rfl) rfl (by kernel_rfl) (fun K hK => ?_)
          unfold Oper.wp
          go_simp
          refine hK _ _ ?_
          clear hK K
          refine wpAny_step (i := 19) (by kernel_rfl) rfl (by kernel_rfl) (fun K hK => ?_)
          unfold Oper.wp
          go_simp
          refine hK _ _ ?_
          clear hK K
          refine wpAny_end (by kernel_rfl) ?_
          go_wp2_with fail
          go_meet
          exact ⟨wz.heap.size, ay, Y.length, cy, rfl, rfl, HC⟩
        case' bb =>
          unfold Oper.wp
          go_simp
          refine hK _ _ ?_
          clear hK K
          refine wpAny_step (i := 11) (by kernel_rfl) rfl (by kernel_rfl) (fun K hK => ?_)
          unfold Oper.wp
          go_simp
          refine (hcl (v.alloc (.cells #[.int .i64 0, .int .i64 0, .slice none 0 0] 27)) (below_go hv.low (below_a v _))).mono ?_
          rintro e wz ⟨X, Y, ax, ay, cx, cy, er, Wd, Hg, rfl, her, h0, h1, hIx, hIy, kz⟩
          go_simp
          refine hK _ _ ?_
          clear hK K
          refine wpAny_step (i := 12) (by kernel_rfl) rfl (by kernel_rfl) (fun K hK => ?_)
          unfold Oper.wp
          go_simp
          refine hK _ _ ?_
          clear hK K
          refine wpAny_take (i := 13) (v := .agg #[.int .i64 Wd, .int .i64 Hg, .slice ax X.length cx]) rfl (by kernel_rfl) (by kernel_rfl) (by kernel_rfl) (fun _ _ _ h => h) (Or.inl ⟨by rfl, fun u => ?_⟩) ?_
          · go_simp
            try rfl
          go_simp
          refine wpAny_take (i := 14) (v := .slice ay Y.length cy) rfl (by kernel_rfl) (by kernel_rfl) (by kernel_rfl) (fun _ _ _ h => h) (Or.inl ⟨by rfl, fun u => ?_⟩) ?_
          · go_simp
            try rfl
          go_simp
          refine wpAny_take (i := 15) (v := er) rfl (by kernel_rfl) (by kernel_rfl) (by kernel_rfl) (fun _ _ _ h => h) (Or.inl ⟨by rfl, fun u => ?_⟩) ?_
          · go_simp
            try rfl
          go_simp
          have hz0 : (wz).heap[v.heap.size]? = some (.cells #[.int .i64 0, .int .i64 0, .slice none 0 0] 27 (0, 0)) := keepB (alloc_last v _) kz
          obtain ⟨y0, y1, y2⟩ := pic_three hz0
          obtain ⟨y3, y4, y5⟩ := pic_open hz0
          have hIx' : ITyped (wz) ax X := hIx
          have hIy' : ITyped (wz) ay Y := hIy
          have hgx := hIx'.ne hz0 (by decide)
          have hgy := hIy'.ne hz0 (by decide)
          have HC : HeldR (Cl a p d f full w1 ((((wz).setCell ⟨v.heap.size, 0, none⟩ (.int .i64 Wd)).setCell ⟨v.heap.size, 1, none⟩ (.int .i64 Hg)).setCell ⟨v.heap.size, 2, none⟩ (.slice ax X.length cx)) v.heap.size ay Y.length cy er) := ⟨X, Y, ax, cx, Wd, Hg, rfl, her, h0, h1, ((hIx'.row.other hgx).other hgx).other hgx, ((hIy'.row.other hgy).other hgy).other hgy, set3 hz0, below_three (below_go (below_go hv.low (below_a v _)) kz) hv.low.size _ _ _⟩
          clear her h0 h1 hIx hIy hIx' hIy' hgx hgy
          refine wpAny_step (i := 17) (by kernel_rfl) rfl (by kernel_rfl) (fun K hK => ?_)
          unfold Oper.wp
          go_simp
          refine hK _ _ ?_
          clear hK K
          refine wpAny_step (i := 18) (by kernel_rfl) rfl (by kernel_rfl) (fun K hK => ?_)
          unfold Oper.wp
          go_simp
          refine hK _ _ ?_
          clear hK K
          refine wpAny_step (i := 19) (by kernel_rfl) rfl (by kernel_rfl) (fun K hK => ?_)
          unfold Oper.wp
          go_simp
          refine hK _ _ ?_
          clear hK K
          refine wpAny_end (by kernel_rfl) ?_
          go_wp2_with fail
          go_meet
          exact ⟨v.heap.size, ay, Y.length, cy, rfl, rfl, HC⟩
    obtain ⟨g, ay, m, cy, rfl, rfl, HC⟩ := hcut
    obtain ⟨X, Y, ax, cx, Wd, Hg, rfl, her, h0, h1, hIx, hIy, hblk, kz⟩ := (unhideR HC).ex
    replace HW := hideR (below_go (unhideR HW) kz)
    replace HP := hideR ((unhideR HP).below kz)
    replace HD := hideR ((unhideR HD).below kz)
    replace HFl := hideR ((unhideR HFl).below kz)
    have hcn := cleaned_any full (unhideR HP) (unhideR HD) (unhideR HFl) lp ld lf
    have HB := hideR hblk
    clear HC kz hblk hcl
    go_wp2_with fail
    refine hcn.mono ?_
    rintro e w5 ⟨X2, Y2, ax2, ay2, cx2, cy2, rfl, g0, g1, hI1, hI2, k5⟩
    obtain rfl : X = X2 := by
      by_cases q : cleanE p d f full = 0
      · rw [(h0 q).1, (g0 q).1]
      · rw [(h1 q).1, (g1 q).1]
    obtain rfl : Y = Y2 := by
      by_cases q : cleanE p d f full = 0
      · rw [(h0 q).2.1, (g0 q).2]
      · rw [(h1 q).2, (g1 q).2]
    have HWH : HeldR (cleanE p d f full = 0 → Wd = p.wide ∧ Hg = p.high) := fun q => (h0 q).2.2
    have lX : X.length ≤ 700 := by
      by_cases q : cleanE p d f full = 0
      · rw [(h0 q).1]
        simp [cleanV]
        omega
      · rw [(h1 q).1]
        simp
    have lY : Y.length ≤ 700 := by
      by_cases q : cleanE p d f full = 0
      · rw [(h0 q).2.1]
        have := fullK_length p full p.L.length
        have e : fullV p full = fullK p full p.L.length := rfl
        rw [e]
        omega
      · rw [(h1 q).2]
        simp
    have her0 : cleanE p d f full = 0 ∨ 0 < cleanE p d f full := by
      rcases her with ⟨q, _⟩ | ⟨k, _, q, _⟩
      · exact .inl q
      · exact .inr (by omega)
    generalize cleanE p d f full = E at *
    replace HW := hideR (below_go (unhideR HW) k5)
    replace HP := hideR ((unhideR HP).below k5)
    replace HB := hideR (keepB (unhideR HB) k5)
    have HX1 := hideR (hIx.below k5)
    have HY1 := hideR (hIy.below k5)
    have HX2 := hideR hI1
    have HY2 := hideR hI2
    have hcd := coded_err ((unhideR HS).below (unhideR HW) (Nat.le_refl _)) her
    clear h0 h1 g0 g1 hIx hIy hI1 hI2 k5 hcn her HD HFl
    go_wp2_with fail
    refine hcd.mono ?_
    rintro e w6 ⟨rfl, k6⟩
    replace HW := hideR (below_go (unhideR HW) k6)
    replace HP := hideR ((unhideR HP).below k6)
    replace HB := hideR (keepB (unhideR HB) k6)
    have hs1 := sameInts_any (c1 := cx) (c2 := cx2) ((unhideR HX1).below k6) ((unhideR HX2).below k6) (by omega)
    replace HY1 := hideR ((unhideR HY1).below k6)
    replace HY2 := hideR ((unhideR HY2).below k6)
    obtain ⟨y0, y1, y2⟩ := pic_three (unhideR HB)
    clear k6 hcd HX1 HX2
    go_wp2_with fail
    refine hs1.mono ?_
    rintro e w7 ⟨rfl, k7⟩
    replace HW := hideR (below_go (unhideR HW) k7)
    replace HP := hideR ((unhideR HP).below k7)
    replace HB := hideR (keepB (unhideR HB) k7)
    have hs2 := sameInts_any (c1 := cy) (c2 := cy2) ((unhideR HY1).below k7) ((unhideR HY2).below k7) (by omega)
    clear k7 hs1 y0 y1 y2 HY1 HY2
    go_wp2_with fail
    refine hs2.mono ?_
    rintro e w8 ⟨rfl, k8⟩
    replace HW := hideR (below_go (unhideR HW) k8)
    replace HP := hideR ((unhideR HP).below k8)
    replace HB := hideR (keepB (unhideR HB) k8)
    obtain ⟨y0, y1, y2⟩ := pic_three (unhideR HB)
    obtain ⟨_, c0, c1, _, _⟩ := unhideR HP
    clear k8 hs2
    go_wp2_with fail
    rcases her0 with hE | hE
    · obtain ⟨e1, e2⟩ := unhideR HWH hE
      subst hE
      rw [← e1] at c0
      rw [← e2] at c1
      clear e1 e2
      have t1 : (Wd == Wd) = true := by simp
      have t2 : (Hg == Hg) = true := by simp
      refine wp_region_lets [(· = .bool true),
        (· = .bool true),
        (· = .bool true),
        (· = .bool true),
        (· = .bool true),
        (· = .bool true),
        (· = .bool true),
        (· = .bool true),
        (· = .int .i64 0),
        (· = .bool false),
        (· = .bool false),
        (· = .pointer (some ⟨g, 0, none⟩)),
        (· = .int .i64 Wd),
        (· = .pointer (some ⟨bp, op, none⟩)),
        (· = .pointer (some ⟨bp, op, none⟩)),
        (· = .pointer (some ⟨bp, op, none⟩)),
        (· = .int .i64 Wd),
        (· = .bool true),
        (· = .bool true),
        (· = .pointer (some ⟨g, 1, none⟩)),
        (· = .int .i64 Hg),
        (· = .pointer (some ⟨bp, op, none⟩)),
        (· = .pointer (some ⟨bp, op, none⟩)),
        (· = .pointer (some ⟨bp, op + 1, none⟩)),
        (· = .int .i64 Hg),
        (· = .bool true),
        (· = .bool true),
        (· = .bool true),
        (· = .bool true),
        (· = .bool true)] (by kernel_rfl) (by kernel_rfl) ?_
      refine lexL_step (fun K hK => ⟨by kernel_rfl, ⟨_, rfl⟩, fun n => ?_, fun v hv => ?_⟩)
      · go_simp
        exact lUpon_one
      subst hv
      go_simp
      refine hK _ ?_
      clear hK K
      refine lexL_step (fun K hK => ⟨by kernel_rfl, ⟨_, rfl⟩, fun n => ?_, fun v hv => ?_⟩)
      · go_simp
        exact lUpon_one
      subst hv
      go_simp
      refine hK _ ?_
      clear hK K
      refine lexL_step (fun K hK => ⟨by kernel_rfl, ⟨_, rfl⟩, fun n => ?_, fun v hv => ?_⟩)
      · go_simp
        exact lUpon_one
      subst hv
      go_simp
      refine hK _ ?_
      clear hK K
      refine lexL_step (fun K hK => ⟨by kernel_rfl, ⟨_, rfl⟩, fun n => ?_, fun v hv => ?_⟩)
      · go_simp
        exact lUpon_one
      subst hv
      go_simp
      refine hK _ ?_
      clear hK K
      refine lexL_step (fun K hK => ⟨by kernel_rfl, ⟨_, rfl⟩, fun n => ?_, fun v hv => ?_⟩)
      · go_simp
        exact lUpon_one
      subst hv
      go_simp
      refine hK _ ?_
      clear hK K
      refine lexL_step (fun K hK => ⟨by kernel_rfl, ⟨_, rfl⟩, fun n => ?_, fun v hv => ?_⟩)
      · go_simp
        exact lUpon_one
      subst hv
      go_simp
      refine hK _ ?_
      clear hK K
      refine lexL_step (fun K hK => ⟨by kernel_rfl, ⟨_, rfl⟩, fun n => ?_, fun v hv => ?_⟩)
      · go_simp
        exact lUpon_one
      subst hv
      go_simp
      refine hK _ ?_
      clear hK K
      refine lexL_step (fun K hK => ⟨by kernel_rfl, ⟨_, rfl⟩, fun n => ?_, fun v hv => ?_⟩)
      · go_simp
        exact lUpon_one
      subst hv
      go_simp
      refine hK _ ?_
      clear hK K
      refine lexL_step (fun K hK => ⟨by kernel_rfl, ⟨_, rfl⟩, fun n => ?_, fun v hv => ?_⟩)
      · go_simp
        exact lUpon_one
      subst hv
      go_simp
      refine hK _ ?_
      clear hK K
      refine lexL_step (fun K hK => ⟨by kernel_rfl, ⟨_, rfl⟩, fun n => ?_, fun v hv => ?_⟩)
      · go_simp
        exact lUpon_one
      subst hv
      go_simp
      refine hK _ ?_
      clear hK K
      refine lexL_step (fun K hK => ⟨by kernel_rfl, ⟨_, rfl⟩, fun n => ?_, fun v hv => ?_⟩)
      · go_simp
        exact lUpon_one
      subst hv
      go_simp
      refine hK _ ?_
      clear hK K
      refine lexL_step (fun K hK => ⟨by kernel_rfl, ⟨_, rfl⟩, fun n => ?_, fun v hv => ?_⟩)
      · go_simp
        exact lUpon_one
      subst hv
      go_simp
      refine hK _ ?_
      clear hK K
      refine lexL_step (fun K hK => ⟨by kernel_rfl, ⟨_, rfl⟩, fun n => ?_, fun v hv => ?_⟩)
      · go_simp
        exact lUpon_one
      subst hv
      go_simp
      refine hK _ ?_
      clear hK K
      refine lexL_step (fun K hK => ⟨by kernel_rfl, ⟨_, rfl⟩, fun n => ?_, fun v hv => ?_⟩)
      · go_simp
        exact lUpon_one
      subst hv
      go_simp
      refine hK _ ?_
      clear hK K
      refine lexL_step (fun K hK => ⟨by kernel_rfl, ⟨_, rfl⟩, fun n => ?_, fun v hv => ?_⟩)
      · go_simp
        exact lUpon_one
      subst hv
      go_simp
      refine hK _ ?_
      clear hK K
      refine lexL_step (fun K hK => ⟨by kernel_rfl, ⟨_, rfl⟩, fun n => ?_, fun v hv => ?_⟩)
      · go_simp
        exact lUpon_one
      subst hv
      go_simp
      refine hK _ ?_
      clear hK K
      refine lexL_step (fun K hK => ⟨by kernel_rfl, ⟨_, rfl⟩, fun n => ?_, fun v hv => ?_⟩)
      · go_simp
        exact lUpon_one
      subst hv
      go_simp
      refine hK _ ?_
      clear hK K
      refine lexL_step (fun K hK => ⟨by kernel_rfl, ⟨_, rfl⟩, fun n => ?_, fun v hv => ?_⟩)
      · go_simp
        exact lUpon_one
      subst hv
      go_simp
      refine hK _ ?_
      clear hK K
      refine lexL_step (fun K hK => ⟨by kernel_rfl, ⟨_, rfl⟩, fun n => ?_, fun v hv => ?_⟩)
      · go_simp
        exact lUpon_one
      subst hv
      go_simp
      refine hK _ ?_
      clear hK K
      refine lexL_step (fun K hK => ⟨by kernel_rfl, ⟨_, rfl⟩, fun n => ?_, fun v hv => ?_⟩)
      · go_simp
        exact lUpon_one
      subst hv
      go_simp
      refine hK _ ?_
      clear hK K
      refine lexL_step (fun K hK => ⟨by kernel_rfl, ⟨_, rfl⟩, fun n => ?_, fun v hv => ?_⟩)
      · go_simp
        exact lUpon_one
      subst hv
      go_simp
      refine hK _ ?_
      clear hK K
      refine lexL_step (fun K hK => ⟨by kernel_rfl, ⟨_, rfl⟩, fun n => ?_, fun v hv => ?_⟩)
      · go_simp
        exact lUpon_one
      subst hv
      go_simp
      refine hK _ ?_
      clear hK K
      refine lexL_step (fun K hK => ⟨by kernel_rfl, ⟨_, rfl⟩, fun n => ?_, fun v hv => ?_⟩)
      · go_simp
        exact lUpon_one
      subst hv
      go_simp
      refine hK _ ?_
      clear hK K
      refine lexL_step (fun K hK => ⟨by kernel_rfl, ⟨_, rfl⟩, fun n => ?_, fun v hv => ?_⟩)
      · go_simp
        exact lUpon_one
      subst hv
      go_simp
      refine hK _ ?_
      clear hK K
      refine lexL_step (fun K hK => ⟨by kernel_rfl, ⟨_, rfl⟩, fun n => ?_, fun v hv => ?_⟩)
      · go_simp
        exact lUpon_one
      subst hv
      go_simp
      refine hK _ ?_
      clear hK K
      refine lexL_step (fun K hK => ⟨by kernel_rfl, ⟨_, rfl⟩, fun n => ?_, fun v hv => ?_⟩)
      · go_simp
        exact lUpon_one
      subst hv
      go_simp
      refine hK _ ?_
      clear hK K
      refine lexL_step (fun K hK => ⟨by kernel_rfl, ⟨_, rfl⟩, fun n => ?_, fun v hv => ?_⟩)
      · go_simp
        exact lUpon_one
      subst hv
      go_simp
      refine hK _ ?_
      clear hK K
      refine lexL_step (fun K hK => ⟨by kernel_rfl, ⟨_, rfl⟩, fun n => ?_, fun v hv => ?_⟩)
      · go_simp
        exact lUpon_one
      subst hv
      go_simp
      refine hK _ ?_
      clear hK K
      refine lexL_step (fun K hK => ⟨by kernel_rfl, ⟨_, rfl⟩, fun n => ?_, fun v hv => ?_⟩)
      · go_simp
        exact lUpon_one
      subst hv
      go_simp
      refine hK _ ?_
      clear hK K
      refine lexL_step (fun K hK => ⟨by kernel_rfl, ⟨_, rfl⟩, fun n => ?_, fun v hv => ?_⟩)
      · go_simp
        exact lUpon_one
      subst hv
      go_simp
      refine hK _ ?_
      clear hK K
      refine lexL_end ?_
      intro n9
      have hb := drawn_below w8 n9
      replace HW := hideR (below_go (unhideR HW) hb)
      clear hb
      go_wp2
      go_ret
      exact ⟨rfl, unhideR HW⟩
    · have t1 : decide (0 < E) = true := decide_eq_true hE
      refine wp_region_lets [(· = .bool true),
        (· = .bool true),
        (· = .bool true),
        (· = .bool true),
        (· = .bool true),
        (· = .bool true),
        (· = .bool true),
        (· = .bool true),
        (· = .int .i64 E),
        (· = .bool true),
        (· = .bool true),
        (· = undef),
        (· = undef),
        (· = undef),
        (· = undef),
        (· = undef),
        (· = undef),
        (· = undef),
        (· = undef),
        (· = undef),
        (· = undef),
        (· = undef),
        (· = undef),
        (· = undef),
        (· = undef),
        (· = undef),
        (· = undef),
        (· = .bool true),
        (· = .bool true),
        (· = .bool true)] (by kernel_rfl) (by kernel_rfl) ?_
      refine lexL_step (fun K hK => ⟨by kernel_rfl, ⟨_, rfl⟩, fun n => ?_, fun v hv => ?_⟩)
      · go_simp
        exact lUpon_one
      subst hv
      go_simp
      refine hK _ ?_
      clear hK K
      refine lexL_step (fun K hK => ⟨by kernel_rfl, ⟨_, rfl⟩, fun n => ?_, fun v hv => ?_⟩)
      · go_simp
        exact lUpon_one
      subst hv
      go_simp
      refine hK _ ?_
      clear hK K
      refine lexL_step (fun K hK => ⟨by kernel_rfl, ⟨_, rfl⟩, fun n => ?_, fun v hv => ?_⟩)
      · go_simp
        exact lUpon_one
      subst hv
      go_simp
      refine hK _ ?_
      clear hK K
      refine lexL_step (fun K hK => ⟨by kernel_rfl, ⟨_, rfl⟩, fun n => ?_, fun v hv => ?_⟩)
      · go_simp
        exact lUpon_one
      subst hv
      go_simp
      refine hK _ ?_
      clear hK K
      refine lexL_step (fun K hK => ⟨by kernel_rfl, ⟨_, rfl⟩, fun n => ?_, fun v hv => ?_⟩)
      · go_simp
        exact lUpon_one
      subst hv
      go_simp
      refine hK _ ?_
      clear hK K
      refine lexL_step (fun K hK => ⟨by kernel_rfl, ⟨_, rfl⟩, fun n => ?_, fun v hv => ?_⟩)
      · go_simp
        exact lUpon_one
      subst hv
      go_simp
      refine hK _ ?_
      clear hK K
      refine lexL_step (fun K hK => ⟨by kernel_rfl, ⟨_, rfl⟩, fun n => ?_, fun v hv => ?_⟩)
      · go_simp
        exact lUpon_one
      subst hv
      go_simp
      refine hK _ ?_
      clear hK K
      refine lexL_step (fun K hK => ⟨by kernel_rfl, ⟨_, rfl⟩, fun n => ?_, fun v hv => ?_⟩)
      · go_simp
        exact lUpon_one
      subst hv
      go_simp
      refine hK _ ?_
      clear hK K
      refine lexL_step (fun K hK => ⟨by kernel_rfl, ⟨_, rfl⟩, fun n => ?_, fun v hv => ?_⟩)
      · go_simp
        exact lUpon_one
      subst hv
      go_simp
      refine hK _ ?_
      clear hK K
      refine lexL_step (fun K hK => ⟨by kernel_rfl, ⟨_, rfl⟩, fun n => ?_, fun v hv => ?_⟩)
      · go_simp
        exact lUpon_one
      subst hv
      go_simp
      refine hK _ ?_
      clear hK K
      refine lexL_step (fun K hK => ⟨by kernel_rfl, ⟨_, rfl⟩, fun n => ?_, fun v hv => ?_⟩)
      · go_simp
        exact lUpon_one
      subst hv
      go_simp
      refine hK _ ?_
      clear hK K
      refine lexL_skip (fun K hK => ⟨by kernel_rfl, ?_⟩)
      go_simp
      refine hK _ ?_
      clear hK K
      refine lexL_skip (fun K hK => ⟨by kernel_rfl, ?_⟩)
      go_simp
      refine hK _ ?_
      clear hK K
      refine lexL_skip (fun K hK => ⟨by kernel_rfl, ?_⟩)
      go_simp
      refine hK _ ?_
      clear hK K
      refine lexL_skip (fun K hK => ⟨by kernel_rfl, ?_⟩)
      go_simp
      refine hK _ ?_
      clear hK K
      refine lexL_skip (fun K hK => ⟨by kernel_rfl, ?_⟩)
      go_simp
      refine hK _ ?_
      clear hK K
      refine lexL_skip (fun K hK => ⟨by kernel_rfl, ?_⟩)
      go_simp
      refine hK _ ?_
      clear hK K
      refine lexL_skip (fun K hK => ⟨by kernel_rfl, ?_⟩)
      go_simp
      refine hK _ ?_
      clear hK K
      refine lexL_skip (fun K hK => ⟨by kernel_rfl, ?_⟩)
      go_simp
      refine hK _ ?_
      clear hK K
      refine lexL_skip (fun K hK => ⟨by kernel_rfl, ?_⟩)
      go_simp
      refine hK _ ?_
      clear hK K
      refine lexL_skip (fun K hK => ⟨by kernel_rfl, ?_⟩)
      go_simp
      refine hK _ ?_
      clear hK K
      refine lexL_skip (fun K hK => ⟨by kernel_rfl, ?_⟩)
      go_simp
      refine hK _ ?_
      clear hK K
      refine lexL_skip (fun K hK => ⟨by kernel_rfl, ?_⟩)
      go_simp
      refine hK _ ?_
      clear hK K
      refine lexL_skip (fun K hK => ⟨by kernel_rfl, ?_⟩)
      go_simp
      refine hK _ ?_
      clear hK K
      refine lexL_skip (fun K hK => ⟨by kernel_rfl, ?_⟩)
      go_simp
      refine hK _ ?_
      clear hK K
      refine lexL_skip (fun K hK => ⟨by kernel_rfl, ?_⟩)
      go_simp
      refine hK _ ?_
      clear hK K
      refine lexL_skip (fun K hK => ⟨by kernel_rfl, ?_⟩)
      go_simp
      refine hK _ ?_
      clear hK K
      refine lexL_step (fun K hK => ⟨by kernel_rfl, ⟨_, rfl⟩, fun n => ?_, fun v hv => ?_⟩)
      · go_simp
        exact lUpon_one
      subst hv
      go_simp
      refine hK _ ?_
      clear hK K
      refine lexL_step (fun K hK => ⟨by kernel_rfl, ⟨_, rfl⟩, fun n => ?_, fun v hv => ?_⟩)
      · go_simp
        exact lUpon_one
      subst hv
      go_simp
      refine hK _ ?_
      clear hK K
      refine lexL_step (fun K hK => ⟨by kernel_rfl, ⟨_, rfl⟩, fun n => ?_, fun v hv => ?_⟩)
      · go_simp
        exact lUpon_one
      subst hv
      go_simp
      refine hK _ ?_
      clear hK K
      refine lexL_end ?_
      intro n9
      have hb := drawn_below w8 n9
      replace HW := hideR (below_go (unhideR HW) hb)
      clear hb
      go_wp2
      go_ret
      exact ⟨rfl, unhideR HW⟩
end Go.Proofs.YtncbmkflilcdgaiDoor
