/-
  The law MountHears: its walk, out of the program's mount and sender by contracts.
-/
import Derived.Test.YteoappoijihomahDoorMtW0
import Derived.Test.YteoappoijihomahDoorLoose7
import Derived.Test.YteoappoijihomahDoorMtH0
import Derived.Test.YteoappoijihomahDoorLoose8
import Derived.Deep.CutRange
namespace Go.Proofs.YteoappoijihomahDoor
open Go Go.RowKit

theorem Chg.cell {g : Nat} {w v : World} (h : Chg g w v) {p : Addr} (hp : p.block < w.heap.size) (hn : p.block ≠ g) : v.cell? p = w.cell? p := by
  unfold World.cell?
  rw [h.block p.block hp hn]
theorem set4 {w : World} {b : Nat} {y0 y1 y2 y3 x0 x1 x2 x3 : Value} {t : TypeId} (h : w.heap[b]? = some (.cells #[y0, y1, y2, y3] t (0, 0))) :
    ((((w.setCell ⟨b, 0, none⟩ x0).setCell ⟨b, 1, none⟩ x1).setCell ⟨b, 2, none⟩ x2).setCell ⟨b, 3, none⟩ x3).heap[b]? = some (.cells #[x0, x1, x2, x3] t (0, 0)) := by
  rw [heap_setCell_same _ _ _ _ _ _ (heap_setCell_same _ _ _ _ _ _ (heap_setCell_same _ _ _ _ _ _ (heap_setCell_same _ _ _ _ _ _ h)))]
  simp
theorem set5 {w : World} {b : Nat} {y0 y1 y2 y3 y4 x0 x1 x2 x3 x4 : Value} {t : TypeId} (h : w.heap[b]? = some (.cells #[y0, y1, y2, y3, y4] t (0, 0))) :
    (((((w.setCell ⟨b, 0, none⟩ x0).setCell ⟨b, 1, none⟩ x1).setCell ⟨b, 2, none⟩ x2).setCell ⟨b, 3, none⟩ x3).setCell ⟨b, 4, none⟩ x4).heap[b]? = some (.cells #[x0, x1, x2, x3, x4] t (0, 0)) := by
  rw [heap_setCell_same _ _ _ _ _ _ (heap_setCell_same _ _ _ _ _ _ (heap_setCell_same _ _ _ _ _ _ (heap_setCell_same _ _ _ _ _ _ (heap_setCell_same _ _ _ _ _ _ h))))]
  simp
theorem four_open {w : World} {b : Nat} {x0 x1 x2 x3 : Value} {ty : TypeId} (h : w.heap[b]? = some (.cells #[x0, x1, x2, x3] ty)) : w.frozen? ⟨b, 0, none⟩ = false ∧ w.frozen? ⟨b, 1, none⟩ = false ∧ w.frozen? ⟨b, 2, none⟩ = false ∧ w.frozen? ⟨b, 3, none⟩ = false :=
  ⟨(cells_at h 0 (by simp)).2, (cells_at h 1 (by simp)).2, (cells_at h 2 (by simp)).2, (cells_at h 3 (by simp)).2⟩
set_option maxRecDepth 100000 in
set_option maxHeartbeats 6400000 in
theorem hears_walk {a : Nat → Addr} {Rep : World → Nat → Mt → Prop} (hP : MtProg (fun w => Sents w a) a Rep) {RepS : World → Nat → Snd → Prop} (hN : SnProg RepS) (x y : Lim) {ad1 ad2 : Option Addr} {cap1 cap2 : Nat} {K : List Int} {Lo : List Bool} (w : World) (hS : Sents w a) (hK : ICame w ad1 K) (hL : BCame w ad2 Lo) (hl1 : K.length * 8 ≤ 140737488355328) (hl2 : Lo.length * 1 ≤ 140737488355328) :
    Calls Tryd.prog 7 #[x.val, y.val, .slice ad1 K.length cap1, .slice ad2 Lo.length cap2] w fun e w' => e = .returned (.bool true) ∧ Below w.heap.size w w' := by
  have HS := hideR hS
  have HKi := hideR hK
  have HLo := hideR hL
  have hm := mounted_any hP ((w.alloc (.cells #[.int .i64 x.lo, .int .i64 x.hi, .int .i64 x.fast, .int .i64 x.home] 53)).alloc (.cells #[.int .i64 y.lo, .int .i64 y.hi, .int .i64 y.fast, .int .i64 y.home] 53)) (hS.below (below_al2 w _ _) (Nat.le_refl _))
  unfold Lim.val
  clear hS hK hL
  by_cases hbig : 40 < K.length ∨ 400 < Lo.length
  · have hbig2 : 40 < K.length ∨ (K.length ≤ 40 ∧ 400 < Lo.length) := by omega
    clear hbig
    rcases hbig2 with hb1 | ⟨hb1, hb2⟩
    all_goals
      go_enter Tryd.func7, Tryd.ntmps7
      go_wp2_with fail
      refine hm.mono ?_
      rintro e w1 ⟨rfl, k1⟩
      obtain ⟨_, _, k2⟩ := two_blocks k1
      have HW := hideR k2
      clear k1 k2 hm
      go_wp2
      go_ret
      exact ⟨rfl, unhideR HW⟩
  · obtain ⟨hb1, hb2⟩ : K.length ≤ 40 ∧ Lo.length ≤ 400 := by omega
    clear hbig
    go_enter Tryd.func7, Tryd.ntmps7
    go_wp2_with fail
    refine hm.mono ?_
    rintro e w1 ⟨rfl, k1⟩
    obtain ⟨hA, hB, k2⟩ := two_blocks k1
    have HA := hideR hA
    have HB := hideR hB
    have HW := hideR k2
    clear k1 k2 hm hA hB
    go_wp2_with fail
    go_cut [10, 11] from 46 to 53 (fun s10 s11 wx => HeldR (wx.heap[w.heap.size]? = some (.cells #[.int .i64 x.lo, .int .i64 x.hi, .int .i64 x.fast, .int .i64 x.home] 53)) ∧ HeldR (wx.heap[w.heap.size + 1]? = some (.cells #[.int .i64 y.lo, .int .i64 y.hi, .int .i64 y.fast, .int .i64 y.home] 53)) ∧ HeldR (Below w.heap.size w wx) ∧
      ((newE x y 1073741824 = 0 ∧ ∃ g, s10 = .pointer (some ⟨g, 0, none⟩) ∧ s11 = .nilIface ∧ w.heap.size ≤ g ∧ HeldR (Rep wx g (newV x y 1073741824))) ∨
       (newE x y 1073741824 ≠ 0 ∧ ∃ k : Nat, s10 = .pointer none ∧ s11 = .iface 205 (.pointer (some (a k))) ∧ newE x y 1073741824 = (k : Int) + 1)))
    case' first =>
      refine wp_region_made 5 #[true, true, true, true, false, false, false, false, false, false] [.lets (· = .agg #[.int .i64 x.lo, .int .i64 x.hi, .int .i64 x.fast, .int .i64 x.home]),
        .lets (· = .agg #[.int .i64 x.lo, .int .i64 x.hi, .int .i64 x.fast, .int .i64 x.home]),
        .lets (· = .agg #[.int .i64 y.lo, .int .i64 y.hi, .int .i64 y.fast, .int .i64 y.home]),
        .lets (· = .agg #[.int .i64 y.lo, .int .i64 y.hi, .int .i64 y.fast, .int .i64 y.home])] [] [] (by kernel_rfl) (by kernel_rfl) rfl ?kinds (by kernel_rfl) (by kernel_rfl) (by kernel_rfl) ?_
      case kinds =>
        constructor
        · intro i h
          rcases i with _ | _ | _ | _ | i <;> simp [Kx.isMade] at h
        · intro i h
          rcases i with _ | _ | _ | _ | i <;> simp [Kx.isUse] at h
      refine lexX_step (fun K hK => ⟨by kernel_rfl, ⟨_, rfl⟩, fun v hv => ?_, fun v hv => ?_⟩)
      · obtain ⟨e0, e1, e2, e3⟩ := four_cells (keepB (unhideR HA) hv)
        go_simp
        exact mUpon_b
      subst hv
      go_simp
      refine hK _ ?_
      clear hK K
      refine lexX_step (fun K hK => ⟨by kernel_rfl, ⟨_, rfl⟩, fun v hv => ?_, fun v hv => ?_⟩)
      · go_simp
        refine (limits_any x _).mono ?_
        rintro e w9 ⟨rfl, k⟩
        exact ⟨_, rfl, rfl, k⟩
      subst hv
      go_simp
      refine hK _ ?_
      clear hK K
      refine lexX_step (fun K hK => ⟨by kernel_rfl, ⟨_, rfl⟩, fun v hv => ?_, fun v hv => ?_⟩)
      · obtain ⟨e0, e1, e2, e3⟩ := four_cells (keepB (unhideR HB) hv)
        go_simp
        exact mUpon_b
      subst hv
      go_simp
      refine hK _ ?_
      clear hK K
      refine lexX_step (fun K hK => ⟨by kernel_rfl, ⟨_, rfl⟩, fun v hv => ?_, fun v hv => ?_⟩)
      · go_simp
        refine (limits_any y _).mono ?_
        rintro e w9 ⟨rfl, k⟩
        exact ⟨_, rfl, rfl, k⟩
      subst hv
      go_simp
      refine hK _ ?_
      clear hK K
      refine lexX_end (fun v5 hv => ?_)
      replace HA := hideR (keepB (unhideR HA) hv.low)
      replace HB := hideR (keepB (unhideR HB) hv.low)
      replace HW := hideR (below_go (unhideR HW) hv.low)
      clear hv
      have hnew := hP.new x y 1073741824 v5 ((unhideR HS).below (unhideR HW) (Nat.le_refl _))
      unfold Lim.val at hnew
      refine wpAny_step (i := 4) (by kernel_rfl) rfl (by kernel_rfl) (fun K hK => ?_)
      unfold Oper.wp
      go_simp
      refine hnew.mono ?_
      rintro e w2 ⟨k2, ⟨h0, g, rfl, hg, hR⟩ | ⟨h0, er, her, rfl⟩⟩
      all_goals
        replace HA := hideR (keepB (unhideR HA) k2)
        replace HB := hideR (keepB (unhideR HB) k2)
      · replace hg : w.heap.size ≤ g := Nat.le_trans (unhideR HW).size hg
        have HP := hideR hR
        replace HW := hideR (below_go (unhideR HW) k2)
        clear hnew hR k2
        go_simp
        refine hK _ _ ?_
        clear hK K
        refine wpAny_step (i := 5) (by kernel_rfl) rfl (by kernel_rfl) (fun K hK => ?_)
        unfold Oper.wp
        go_simp
        refine hK _ _ ?_
        clear hK K
        refine wpAny_two (i := 6) (j := 7) (by kernel_rfl) rfl rfl (by kernel_rfl) (by kernel_rfl) (fun K hK => ?oa) (fun K hK => ?ob)
        case' oa =>
          unfold Oper.wp
          go_simp
          refine hK _ _ ?_
          clear hK K
          refine wpAny_two (i := 7) (j := 8) (by kernel_rfl) rfl rfl (by kernel_rfl) (by kernel_rfl) (fun K hK => ?oc) (fun K hK => ?od)
        case' oc =>
          unfold Oper.wp
          go_simp
          refine hK _ _ ?_
          clear hK K
          refine wpAny_step (i := 8) (by kernel_rfl) rfl (by kernel_rfl) (fun K hK => ?_)
          unfold Oper.wp
          go_simp
          refine hK _ _ ?_
          clear hK K
          refine wpAny_step (i := 9) (by kernel_rfl) rfl (by kernel_rfl) (fun K hK => ?_)
          unfold Oper.wp
          go_simp
          refine hK _ _ ?_
          clear hK K
          refine wpAny_end (by kernel_rfl) ?_
        case' od =>
          unfold Oper.wp
          go_simp
          refine hK _ _ ?_
          clear hK K
          refine wpAny_step (i := 7) (by kernel_rfl) rfl (by kernel_rfl) (fun K hK => ?_)
          unfold Oper.wp
          go_simp
          refine hK _ _ ?_
          clear hK K
          refine wpAny_step (i := 9) (by kernel_rfl) rfl (by kernel_rfl) (fun K hK => ?_)
          unfold Oper.wp
          go_simp
          refine hK _ _ ?_
          clear hK K
          refine wpAny_end (by kernel_rfl) ?_
        case' ob =>
          unfold Oper.wp
          go_simp
          refine hK _ _ ?_
          clear hK K
          refine wpAny_step (i := 6) (by kernel_rfl) rfl (by kernel_rfl) (fun K hK => ?_)
          unfold Oper.wp
          go_simp
          refine hK _ _ ?_
          clear hK K
          refine wpAny_step (i := 8) (by kernel_rfl) rfl (by kernel_rfl) (fun K hK => ?_)
          unfold Oper.wp
          go_simp
          refine hK _ _ ?_
          clear hK K
          refine wpAny_step (i := 9) (by kernel_rfl) rfl (by kernel_rfl) (fun K hK => ?_)
          unfold Oper.wp
          go_simp
          refine hK _ _ ?_
          clear hK K
          refine wpAny_end (by kernel_rfl) ?_
        all_goals
          go_wp2_with fail
          go_meet
          exact ⟨HA, HB, HW, .inl ⟨h0, g, rfl, rfl, hg, HP⟩⟩
      · replace HW := hideR (below_go (unhideR HW) k2)
        obtain ⟨k, _, hE, rfl⟩ : ∃ k : Nat, k < 10 ∧ newE x y 1073741824 = (k : Int) + 1 ∧ er = .iface 205 (.pointer (some (a k))) := by
          rcases her with ⟨k, _⟩ | h
          · exact absurd k h0
          · exact h
        clear hnew k2 her
        go_simp
        refine hK _ _ ?_
        clear hK K
        refine wpAny_step (i := 5) (by kernel_rfl) rfl (by kernel_rfl) (fun K hK => ?_)
        unfold Oper.wp
        go_simp
        refine hK _ _ ?_
        clear hK K
        refine wpAny_two (i := 6) (j := 7) (by kernel_rfl) rfl rfl (by kernel_rfl) (by kernel_rfl) (fun K hK => ?pa) (fun K hK => ?pb)
        case' pa =>
          unfold Oper.wp
          go_simp
          refine hK _ _ ?_
          clear hK K
          refine wpAny_two (i := 7) (j := 8) (by kernel_rfl) rfl rfl (by kernel_rfl) (by kernel_rfl) (fun K hK => ?pc) (fun K hK => ?pd)
        case' pc =>
          unfold Oper.wp
          go_simp
          refine hK _ _ ?_
          clear hK K
          refine wpAny_step (i := 8) (by kernel_rfl) rfl (by kernel_rfl) (fun K hK => ?_)
          unfold Oper.wp
          go_simp
          refine hK _ _ ?_
          clear hK K
          refine wpAny_step (i := 9) (by kernel_rfl) rfl (by kernel_rfl) (fun K hK => ?_)
          unfold Oper.wp
          go_simp
          refine hK _ _ ?_
          clear hK K
          refine wpAny_end (by kernel_rfl) ?_
        case' pd =>
          unfold Oper.wp
          go_simp
          refine hK _ _ ?_
          clear hK K
          refine wpAny_step (i := 7) (by kernel_rfl) rfl (by kernel_rfl) (fun K hK => ?_)
          unfold Oper.wp
          go_simp
          refine hK _ _ ?_
          clear hK K
          refine wpAny_step (i := 9) (by kernel_rfl) rfl (by kernel_rfl) (fun K hK => ?_)
          unfold Oper.wp
          go_simp
          refine hK _ _ ?_
          clear hK K
          refine wpAny_end (by kernel_rfl) ?_
        case' pb =>
          unfold Oper.wp
          go_simp
          refine hK _ _ ?_
          clear hK K
          refine wpAny_step (i := 6) (by kernel_rfl) rfl (by kernel_rfl) (fun K hK => ?_)
          unfold Oper.wp
          go_simp
          refine hK _ _ ?_
          clear hK K
          refine wpAny_step (i := 8) (by kernel_rfl) rfl (by kernel_rfl) (fun K hK => ?_)
          unfold Oper.wp
          go_simp
          refine hK _ _ ?_
          clear hK K
          refine wpAny_step (i := 9) (by kernel_rfl) rfl (by kernel_rfl) (fun K hK => ?_)
          unfold Oper.wp
          go_simp
          refine hK _ _ ?_
          clear hK K
          refine wpAny_end (by kernel_rfl) ?_
        all_goals
          go_wp2_with fail
          go_meet
          exact ⟨HA, HB, HW, .inr ⟨h0, k, rfl, rfl, hE⟩⟩
    clear HA HB HW
    obtain ⟨HA, HB, HW, ⟨h0, g, rfl, rfl, hg, HP⟩ | ⟨h0, k, rfl, rfl, hE⟩⟩ := hcut
    · obtain ⟨e0, e1, e2, e3⟩ := four_cells (unhideR HA)
      obtain ⟨q0, q1, q2, q3⟩ := four_cells (unhideR HB)
      go_wp2_with fail
      refine (mountOf_any x y 1073741824 _).mono ?_
      rintro e w3 ⟨p, rfl, hq1, hq2, k3⟩
      rw [h0]
      obtain ⟨r, rfl, hr, hRef⟩ := hq2 h0
      have hgr : g ≠ r := by have := hP.low (unhideR HP); omega
      have hwr : w.heap.size ≤ r := Nat.le_trans (unhideR HW).size hr
      have HR := hideR hRef
      replace HP := hideR (hP.go (unhideR HP) k3)
      replace HW := hideR (below_go (unhideR HW) k3)
      clear hq1 hq2 k3 hr hRef e0 e1 e2 e3 q0 q1 q2 q3 HA HB
      have HF0 := hideR (new_fine h0)
      have HQ0 : HeldR ((newV x y 1073741824).quiet ≤ ((0 : Nat) : Int)) := Int.le_refl _
      have HT0 : HeldR ((newV x y 1073741824).taken = true → (newV x y 1073741824).num ≤ ((0 : Nat) : Int)) := fun k => by cases k
      generalize newV x y 1073741824 = m0 at *
      clear h0
      go_wp2_with fail
      refine (hN.new _).mono ?_
      rintro e w4 ⟨s, sn, rfl, hs, hRs, hn0, hn1, k4⟩
      have hgs : g ≠ s := by have := hP.low (unhideR HP); omega
      have hrs : r ≠ s := by have := ltB (unhideR HR).blk; omega
      have hws : w.heap.size ≤ s := Nat.le_trans (unhideR HW).size hs
      have HN := hideR hRs
      replace HP := hideR (hP.go (unhideR HP) k4)
      replace HR := hideR ((unhideR HR).keep k4)
      replace HW := hideR (below_go (unhideR HW) k4)
      have HSn : HeldR (sn.last.num = ((0 : Nat) : Int) ∧ sn.waits = false) := ⟨hn0, hn1⟩
      have hag := hN.again (unhideR HN)
      rw [hn1] at hag
      clear hs hRs k4 hn0 hn1
      go_wp2_with fail
      refine hag.mono ?_
      rintro e w5 ⟨c5, rfl, _, k5⟩
      have k6 := below_go k5 (below_a w5 (.cells #[.int .i64 c5.num, .string c5.s, .int .i64 c5.a, .int .i64 c5.b] 74))
      replace HP := hideR (hP.go (unhideR HP) k6)
      replace HR := hideR ((unhideR HR).keep k6)
      replace HN := hideR (hN.go (unhideR HN) k6)
      replace HW := hideR (below_go (unhideR HW) k6)
      clear k5 k6 hag
      go_wp2_with fail
      generalize w5.alloc (.cells #[.int .i64 c5.num, .string c5.s, .int .i64 c5.a, .int .i64 c5.b] 74) = W5 at *
      go_loopw [16, 17, 18] (fun sv nv iv wl => ∃ (i n : Nat) (m : Mt) (sn : Snd), i ≤ K.length ∧ n ≤ Lo.length + 1 + 2 * i ∧ sv = .bool false ∧ nv = .int .i64 (n : Nat) ∧ iv = .int .i64 (i : Nat) ∧ HeldR (Fine m) ∧ HeldR (m.quiet ≤ (i : Int)) ∧ HeldR (m.taken = true → m.num ≤ (i : Int)) ∧ HeldR (sn.last.num = (i : Int) ∧ sn.waits = false) ∧ HeldR (Rep wl g m) ∧ HeldR (Ref wl r m) ∧ HeldR (RepS wl s sn) ∧ HeldR (Below w.heap.size w wl)) (fun _ _ iv _ => K.length + 1 - (intOf iv).toNat)
      case atStart => exact ⟨0, 0, m0, sn, by omega, by omega, rfl, rfl, rfl, HF0, HQ0, HT0, HSn, HP, HR, HN, HW⟩
      case round =>
        clear HF0 HQ0 HT0 HSn HP HR HN HW
        obtain ⟨i, n, m, sn, hi, hn, rfl, rfl, rfl, HF, HQ, HT, HSn, HP, HR, HN, HW⟩ := hrel
        by_cases hlt : i < K.length
        · obtain ⟨bk, ok, rfl, hbk, ck⟩ := ((unhideR HKi).below (unhideR HW)).at_ i hlt
          generalize K.getD i 0 = z at ck
          go_upto_if 86 with fail
          go_cut [19] from 76 to 238 (fun s19 wx => wr = wx ∧ ∃ KS : ByteArray, s19 = .string KS)
          case' first =>
            by_cases hz : z < 0
            all_goals
              go_wp2_with fail
              go_meet
              exact ⟨rfl, _, rfl⟩
          obtain ⟨rfl, KS, rfl⟩ := hcut
          have hbs : bk ≠ s := by
            obtain ⟨_, _, e, hb, _⟩ := (unhideR HKi).at_ i hlt
            cases e
            omega
          have hbr : bk ≠ r := by
            obtain ⟨_, _, e, hb, _⟩ := (unhideR HKi).at_ i hlt
            cases e
            omega
          have hbk0 := hbk
          have wi : IntKind.i64.wrap ((i : Int) + 1) = (i : Int) + 1 := iwrap (by omega) (by omega)
          have hask : ∀ u, RepS u s sn → Calls Tryd.prog 39 #[.pointer (some ⟨s, 0, none⟩), .string KS, .int .i64 z, .int .i64 z] u (fun e w' => e = .returned (.agg #[.int .i64 ((i : Int) + 1), .string KS, .int .i64 z, .int .i64 z]) ∧ RepS w' s ⟨⟨(i : Int) + 1, KS, z, z⟩, true⟩ ∧ Chg s u w') := fun u hu => by
            have h := hN.ask KS z z hu (by rw [(unhideR HSn).1]; omega) (by rw [(unhideR HSn).1]; omega)
            rw [(unhideR HSn).1] at h
            exact h
          clear HSn
          go_wp2_with fail
          refine C.wp_region_chg s (hN.low (unhideR HN)) (fun u => RepS u s sn) (fun _ _ h k => hN.go h k) (unhideR HN) 0 #[true, true, true, true, true, true, true, true, true, true, true, true, false] [.lets (· = .pointer (some ⟨s, 0, none⟩)),
            .lets (· = .string KS),
            .lets (· = .slice (some ⟨bk, ok, none⟩) K.length cap1),
            .lets (· = .int .i64 (i : Nat)),
            .lets (· = .pointer (some ⟨bk, ok + i, none⟩)),
            .lets (· = .int .i64 z),
            .lets (· = .slice (some ⟨bk, ok, none⟩) K.length cap1),
            .lets (· = .int .i64 (i : Nat)),
            .lets (· = .pointer (some ⟨bk, ok + i, none⟩)),
            .lets (· = .int .i64 z),
            .made (· = .agg #[.int .i64 ((i : Int) + 1), .string KS, .int .i64 z, .int .i64 z]) (fun _ u => RepS u s ⟨⟨(i : Int) + 1, KS, z, z⟩, true⟩),
            .new (.cells #[.int .i64 0, .string ByteArray.empty, .int .i64 0, .int .i64 0] 74)] 10 (by kernel_rfl) (by kernel_rfl) rfl ?kinds (by kernel_rfl) (by kernel_rfl) ?_
          case kinds =>
            intro j h
            rcases j with _ | _ | _ | _ | _ | _ | _ | _ | _ | _ | _ | _ | j <;> simp [C.Kx.isMade] at h ⊢
          refine C.lexX_step (fun K hK => ⟨by kernel_rfl, ⟨_, rfl⟩, fun v hv => ?_, fun v hv => ?_⟩)
          · go_simp
            exact mUpon_b
          subst hv
          go_simp
          refine hK _ ?_
          clear hK K
          refine C.lexX_step (fun K hK => ⟨by kernel_rfl, ⟨_, rfl⟩, fun v hv => ?_, fun v hv => ?_⟩)
          · go_simp
            exact mUpon_b
          subst hv
          go_simp
          refine hK _ ?_
          clear hK K
          refine C.lexX_step (fun K hK => ⟨by kernel_rfl, ⟨_, rfl⟩, fun v hv => ?_, fun v hv => ?_⟩)
          · go_simp
            exact mUpon_b
          subst hv
          go_simp
          refine hK _ ?_
          clear hK K
          refine C.lexX_step (fun K hK => ⟨by kernel_rfl, ⟨_, rfl⟩, fun v hv => ?_, fun v hv => ?_⟩)
          · go_simp
            exact mUpon_b
          subst hv
          go_simp
          refine hK _ ?_
          clear hK K
          refine C.lexX_step (fun K hK => ⟨by kernel_rfl, ⟨_, rfl⟩, fun v hv => ?_, fun v hv => ?_⟩)
          · go_simp
            exact mUpon_b
          subst hv
          go_simp
          refine hK _ ?_
          clear hK K
          refine C.lexX_step (fun K hK => ⟨by kernel_rfl, ⟨_, rfl⟩, fun v hv => ?_, fun v hv => ?_⟩)
          · have c := (hv.cell (p := ⟨bk, ok + i, none⟩) hbk hbs).trans ck
            go_simp
            exact mUpon_b
          subst hv
          go_simp
          refine hK _ ?_
          clear hK K
          refine C.lexX_step (fun K hK => ⟨by kernel_rfl, ⟨_, rfl⟩, fun v hv => ?_, fun v hv => ?_⟩)
          · go_simp
            exact mUpon_b
          subst hv
          go_simp
          refine hK _ ?_
          clear hK K
          refine C.lexX_step (fun K hK => ⟨by kernel_rfl, ⟨_, rfl⟩, fun v hv => ?_, fun v hv => ?_⟩)
          · go_simp
            exact mUpon_b
          subst hv
          go_simp
          refine hK _ ?_
          clear hK K
          refine C.lexX_step (fun K hK => ⟨by kernel_rfl, ⟨_, rfl⟩, fun v hv => ?_, fun v hv => ?_⟩)
          · go_simp
            exact mUpon_b
          subst hv
          go_simp
          refine hK _ ?_
          clear hK K
          refine C.lexX_step (fun K hK => ⟨by kernel_rfl, ⟨_, rfl⟩, fun v hv => ?_, fun v hv => ?_⟩)
          · have c := (hv.cell (p := ⟨bk, ok + i, none⟩) hbk hbs).trans ck
            go_simp
            exact mUpon_b
          subst hv
          go_simp
          refine hK _ ?_
          clear hK K
          refine C.lexX_made ⟨by kernel_rfl, ⟨_, rfl⟩, fun v => fun _ _ h k => hN.go h k, fun v hv hγ => ?_, fun v hv K hK => ?_⟩
          · go_simp
            refine (hask _ hγ).mono ?_
            rintro e w9 ⟨rfl, h9, k9⟩
            exact ⟨_, rfl, ⟨rfl, h9⟩, k9⟩
          subst hv
          go_simp
          refine hK _ ?_
          clear hK K
          refine C.lexX_new (fin0.some _) (fun b20 fb20 K hK => ⟨by kernel_rfl, fun v => ?_, ?_⟩)
          · go_simp
            first
              | exact ⟨rfl, rfl⟩
              | rfl
          unfold ptr
          go_simp
          refine hK _ ?_
          clear hK K
          refine C.lexX_end (fun v5 hv => ?_)
          have hz0 : v5.heap[b20]? = some (.cells #[.int .i64 0, .string ByteArray.empty, .int .i64 0, .int .i64 0] 74 (0, 0)) := hv.held b20 _ (by unfold Hd.put; rw [if_pos rfl])
          have hge := fb20.ge
          obtain ⟨y0, y1, y2, y3⟩ := four_open hz0
          obtain ⟨y4, y5, y6, y7⟩ := four_cells hz0
          refine wpAny_step (i := 12) (by kernel_rfl) rfl (by kernel_rfl) (fun K hK => ?_)
          unfold Oper.wp
          go_simp
          refine hK _ _ ?_
          clear hK K
          refine wpAny_end (by kernel_rfl) ?_
          clear y0 y1 y2 y3 y4 y5 y6 y7
          have kS : Chg b20 v5 ((((v5.setCell ⟨b20, 0, none⟩ (.int .i64 ((i : Int) + 1))).setCell ⟨b20, 1, none⟩ (.string KS)).setCell ⟨b20, 2, none⟩ (.int .i64 z)).setCell ⟨b20, 3, none⟩ (.int .i64 z)) := ((((Chg.refl _ _).putB hz0 (by decide) 0 _).putB hz0 (by decide) 1 _).putB hz0 (by decide) 2 _).putB hz0 (by decide) 3 _
          have HB20 := hideR (set4 (x0 := .int .i64 ((i : Int) + 1)) (x1 := .string KS) (x2 := .int .i64 z) (x3 := .int .i64 z) hz0)
          have hg20 : g ≠ b20 := by have := hP.low (unhideR HP); omega
          have hr20 : r ≠ b20 := by have := ltB (unhideR HR).blk; omega
          have hs20 : s ≠ b20 := by have := hN.low (unhideR HN); omega
          have hw20 : w.heap.size ≤ b20 := Nat.le_trans (unhideR HW).size hge
          replace hbk : bk < ((((v5.setCell ⟨b20, 0, none⟩ (.int .i64 ((i : Int) + 1))).setCell ⟨b20, 1, none⟩ (.string KS)).setCell ⟨b20, 2, none⟩ (.int .i64 z)).setCell ⟨b20, 3, none⟩ (.int .i64 z)).heap.size := Nat.lt_of_lt_of_le hbk (Nat.le_trans hv.low.size kS.size)
          have hb20 : bk ≠ b20 := by have := hbk0; omega
          replace ck := (kS.cell (p := ⟨bk, ok + i, none⟩) (Nat.lt_of_lt_of_le hbk0 hv.low.size) hb20).trans ((hv.low.cell (p := ⟨bk, ok + i, none⟩) hbk0 hbs).trans ck)
          replace HN := hideR (hN.keep hv.fact kS hs20)
          replace HP := hideR (hP.keep (hP.keep (unhideR HP) hv.low hgs) kS hg20)
          replace HR := hideR (((unhideR HR).chg hv.low hrs).chg kS hr20)
          replace HW := hideR (Chg.into (Chg.into (unhideR HW) hv.low hws rfl) kS hw20 rfl)
          clear hv hz0 kS hge hask fb20
          generalize (((v5.setCell ⟨b20, 0, none⟩ (.int .i64 ((i : Int) + 1))).setCell ⟨b20, 1, none⟩ (.string KS)).setCell ⟨b20, 2, none⟩ (.int .i64 z)).setCell ⟨b20, 3, none⟩ (.int .i64 z) = W7 at *
          obtain ⟨e0, e1, e2, e3⟩ := four_cells (unhideR HB20)
          have tN := bne_no ((i : Int) + 1)
          obtain ⟨m1, cd, hmc⟩ : ∃ m1 cd, takeV m ((⟨(i : Int) + 1, KS, z, z⟩ : CmdS)).cmd = (m1, cd) := ⟨_, _, rfl⟩
          have hrt : ∀ u, Ref u r m → Calls Tryd.prog 32 #[.pointer (some ⟨r, 0, none⟩), .agg #[.int .i64 ((i : Int) + 1), .string KS, .int .i64 z, .int .i64 z]] u (fun e w' => e = .returned (.agg #[.int .i64 ((i : Int) + 1), .int .i64 cd, .int .i64 m1.X, .int .i64 m1.Y, .int .i64 m1.st]) ∧ Ref w' r m1 ∧ Chg r u w') := fun u h1 => by
            have h := rtake_any h1 (⟨(i : Int) + 1, KS, z, z⟩ : CmdS) (unhideR HF)
            unfold TakePost at h
            rw [hmc] at h
            exact h
          have HMC := hideR hmc
          have HF1 : HeldR (Fine m1) := by
            have := (take_fine (unhideR HF) ((⟨(i : Int) + 1, KS, z, z⟩ : CmdS)).cmd).1
            rw [hmc] at this
            exact this
          have HQ1 : HeldR (m1.quiet ≤ (i : Int)) := by
            have h := take_quiet (unhideR HF) ((⟨(i : Int) + 1, KS, z, z⟩ : CmdS)).cmd
            rw [hmc] at h
            have := unhideR HQ
            unfold HeldR
            rcases h with h | h
            all_goals
              replace h : m1.quiet = _ := h
              omega
          have HT1 : HeldR (m1.taken = true ∧ m1.num = (i : Int) + 1 ∧ m1.code = cd) := by
            have h := take_fresh (m := m) (c := ((⟨(i : Int) + 1, KS, z, z⟩ : CmdS)).cmd) (fun q => by have := unhideR HT q; show m.num < (i : Int) + 1; omega)
            rw [hmc] at h
            exact h
          clear hmc
          go_wp2_with fail
          clear e0 e1 e2 e3
          refine C.wp_region_chg r (ltB (unhideR HR).blk) (fun u => Ref u r m) (fun _ _ h k => h.keep k) (unhideR HR) 0 #[true, true, true, true, true, true, true, true, true, true, true, true, true, true, true, false] [.lets (· = .pointer (some ⟨r, 0, none⟩)),
            .lets (· = .pointer (some ⟨b20, 0, none⟩)),
            .lets (· = .int .i64 ((i : Int) + 1)),
            .lets (· = .string KS),
            .lets (· = .slice (some ⟨bk, ok, none⟩) K.length cap1),
            .lets (· = .int .i64 (i : Nat)),
            .lets (· = .pointer (some ⟨bk, ok + i, none⟩)),
            .lets (· = .int .i64 z),
            .lets (· = .slice (some ⟨bk, ok, none⟩) K.length cap1),
            .lets (· = .int .i64 (i : Nat)),
            .lets (· = .pointer (some ⟨bk, ok + i, none⟩)),
            .lets (· = .int .i64 z),
            .lets (· = .agg #[.int .i64 ((i : Int) + 1), .string KS, .int .i64 z, .int .i64 z]),
            .made (· = .agg #[.int .i64 ((i : Int) + 1), .int .i64 cd, .int .i64 m1.X, .int .i64 m1.Y, .int .i64 m1.st]) (fun _ u => Ref u r m1),
            .new (.cells #[.int .i64 0, .int .i64 0, .int .i64 0, .int .i64 0, .int .i64 0] 77)] 13 (by kernel_rfl) (by kernel_rfl) rfl ?kinds (by kernel_rfl) (by kernel_rfl) ?_
          case kinds =>
            intro j h
            rcases j with _ | _ | _ | _ | _ | _ | _ | _ | _ | _ | _ | _ | _ | _ | _ | j <;> simp [C.Kx.isMade] at h ⊢
          refine C.lexX_step (fun K hK => ⟨by kernel_rfl, ⟨_, rfl⟩, fun v hv => ?_, fun v hv => ?_⟩)
          · go_simp
            exact mUpon_b
          subst hv
          go_simp
          refine hK _ ?_
          clear hK K
          refine C.lexX_step (fun K hK => ⟨by kernel_rfl, ⟨_, rfl⟩, fun v hv => ?_, fun v hv => ?_⟩)
          · go_simp
            exact mUpon_b
          subst hv
          go_simp
          refine hK _ ?_
          clear hK K
          refine C.lexX_step (fun K hK => ⟨by kernel_rfl, ⟨_, rfl⟩, fun v hv => ?_, fun v hv => ?_⟩)
          · have c := (four_cells (hv.blk (unhideR HB20) (Ne.symm hr20))).1
            go_simp
            exact mUpon_b
          subst hv
          go_simp
          refine hK _ ?_
          clear hK K
          refine C.lexX_step (fun K hK => ⟨by kernel_rfl, ⟨_, rfl⟩, fun v hv => ?_, fun v hv => ?_⟩)
          · go_simp
            exact mUpon_b
          subst hv
          go_simp
          refine hK _ ?_
          clear hK K
          refine C.lexX_step (fun K hK => ⟨by kernel_rfl, ⟨_, rfl⟩, fun v hv => ?_, fun v hv => ?_⟩)
          · go_simp
            exact mUpon_b
          subst hv
          go_simp
          refine hK _ ?_
          clear hK K
          refine C.lexX_step (fun K hK => ⟨by kernel_rfl, ⟨_, rfl⟩, fun v hv => ?_, fun v hv => ?_⟩)
          · go_simp
            exact mUpon_b
          subst hv
          go_simp
          refine hK _ ?_
          clear hK K
          refine C.lexX_step (fun K hK => ⟨by kernel_rfl, ⟨_, rfl⟩, fun v hv => ?_, fun v hv => ?_⟩)
          · go_simp
            exact mUpon_b
          subst hv
          go_simp
          refine hK _ ?_
          clear hK K
          refine C.lexX_step (fun K hK => ⟨by kernel_rfl, ⟨_, rfl⟩, fun v hv => ?_, fun v hv => ?_⟩)
          · have c := (hv.cell (p := ⟨bk, ok + i, none⟩) hbk hbr).trans ck
            go_simp
            exact mUpon_b
          subst hv
          go_simp
          refine hK _ ?_
          clear hK K
          refine C.lexX_step (fun K hK => ⟨by kernel_rfl, ⟨_, rfl⟩, fun v hv => ?_, fun v hv => ?_⟩)
          · go_simp
            exact mUpon_b
          subst hv
          go_simp
          refine hK _ ?_
          clear hK K
          refine C.lexX_step (fun K hK => ⟨by kernel_rfl, ⟨_, rfl⟩, fun v hv => ?_, fun v hv => ?_⟩)
          · go_simp
            exact mUpon_b
          subst hv
          go_simp
          refine hK _ ?_
          clear hK K
          refine C.lexX_step (fun K hK => ⟨by kernel_rfl, ⟨_, rfl⟩, fun v hv => ?_, fun v hv => ?_⟩)
          · go_simp
            exact mUpon_b
          subst hv
          go_simp
          refine hK _ ?_
          clear hK K
          refine C.lexX_step (fun K hK => ⟨by kernel_rfl, ⟨_, rfl⟩, fun v hv => ?_, fun v hv => ?_⟩)
          · have c := (hv.cell (p := ⟨bk, ok + i, none⟩) hbk hbr).trans ck
            go_simp
            exact mUpon_b
          subst hv
          go_simp
          refine hK _ ?_
          clear hK K
          refine C.lexX_step (fun K hK => ⟨by kernel_rfl, ⟨_, rfl⟩, fun v hv => ?_, fun v hv => ?_⟩)
          · go_simp
            exact mUpon_b
          subst hv
          go_simp
          refine hK _ ?_
          clear hK K
          refine C.lexX_made ⟨by kernel_rfl, ⟨_, rfl⟩, fun v => fun _ _ h k => h.keep k, fun v hv hγ => ?_, fun v hv K hK => ?_⟩
          · go_simp
            refine (hrt _ hγ).mono ?_
            rintro e w9 ⟨rfl, h9, k9⟩
            exact ⟨_, rfl, ⟨rfl, h9⟩, k9⟩
          subst hv
          go_simp
          refine hK _ ?_
          clear hK K
          refine C.lexX_new (fin0.some _) (fun b21 fb21 K hK => ⟨by kernel_rfl, fun v => ?_, ?_⟩)
          · go_simp
            first
              | exact ⟨rfl, rfl⟩
              | rfl
          unfold ptr
          go_simp
          refine hK _ ?_
          clear hK K
          refine C.lexX_end (fun v5 hv => ?_)
          have hz0 : v5.heap[b21]? = some (.cells #[.int .i64 0, .int .i64 0, .int .i64 0, .int .i64 0, .int .i64 0] 77 (0, 0)) := hv.held b21 _ (by unfold Hd.put; rw [if_pos rfl])
          have hge := fb21.ge
          obtain ⟨⟨y0, y1, y2, y3, y4⟩, y5, y6, y7, y8, y9⟩ := five_cells hz0
          refine wpAny_step (i := 15) (by kernel_rfl) rfl (by kernel_rfl) (fun K hK => ?_)
          unfold Oper.wp
          go_simp
          refine hK _ _ ?_
          clear hK K
          refine wpAny_end (by kernel_rfl) ?_
          clear y0 y1 y2 y3 y4 y5 y6 y7 y8 y9 ck hbk
          have kS : Chg b21 v5 (((((v5.setCell ⟨b21, 0, none⟩ (.int .i64 ((i : Int) + 1))).setCell ⟨b21, 1, none⟩ (.int .i64 cd)).setCell ⟨b21, 2, none⟩ (.int .i64 m1.X)).setCell ⟨b21, 3, none⟩ (.int .i64 m1.Y)).setCell ⟨b21, 4, none⟩ (.int .i64 m1.st)) := (((((Chg.refl _ _).putB hz0 (by decide) 0 _).putB hz0 (by decide) 1 _).putB hz0 (by decide) 2 _).putB hz0 (by decide) 3 _).putB hz0 (by decide) 4 _
          have HB21 := hideR (set5 (x0 := .int .i64 ((i : Int) + 1)) (x1 := .int .i64 cd) (x2 := .int .i64 m1.X) (x3 := .int .i64 m1.Y) (x4 := .int .i64 m1.st) hz0)
          have hg21 : g ≠ b21 := by have := hP.low (unhideR HP); omega
          have hr21 : r ≠ b21 := by have := ltB (unhideR HR).blk; omega
          have hs21 : s ≠ b21 := by have := hN.low (unhideR HN); omega
          have h2021 : b20 ≠ b21 := by have := ltB (unhideR HB20); omega
          have hw21 : w.heap.size ≤ b21 := Nat.le_trans (unhideR HW).size hge
          replace HN := hideR (hN.keep (hN.keep (unhideR HN) hv.low (Ne.symm hrs)) kS hs21)
          replace HP := hideR (hP.keep (hP.keep (unhideR HP) hv.low hgr) kS hg21)
          replace HR := hideR (hv.fact.chg kS hr21)
          replace HB20 := hideR (kS.blk (hv.low.blk (unhideR HB20) (Ne.symm hr20)) h2021)
          replace HW := hideR (Chg.into (Chg.into (unhideR HW) hv.low hwr rfl) kS hw21 rfl)
          clear hv hz0 kS hge hrt fb21
          generalize ((((v5.setCell ⟨b21, 0, none⟩ (.int .i64 ((i : Int) + 1))).setCell ⟨b21, 1, none⟩ (.int .i64 cd)).setCell ⟨b21, 2, none⟩ (.int .i64 m1.X)).setCell ⟨b21, 3, none⟩ (.int .i64 m1.Y)).setCell ⟨b21, 4, none⟩ (.int .i64 m1.st) = W8 at *
          go_wp2_with fail
          go_loopw [17, 22] (fun nv hv wl => ∃ (k : Nat) (hd : Bool) (mm : Mt), (hd = false → k ≤ Lo.length + 1 + 2 * i) ∧ k ≤ Lo.length + 3 + 2 * i ∧ nv = .int .i64 (k : Nat) ∧ hv = .bool hd ∧ HeldR (Fine mm) ∧ HeldR (takeV mm ((⟨(i : Int) + 1, KS, z, z⟩ : CmdS)).cmd = (m1, cd)) ∧ HeldR (hd = true → mm = m1) ∧ HeldR (Rep wl g mm) ∧ HeldR (Ref wl r m1) ∧ HeldR (RepS wl s ⟨(⟨(i : Int) + 1, KS, z, z⟩ : CmdS), !hd⟩) ∧ HeldR (wl.heap[b20]? = some (.cells #[.int .i64 ((i : Int) + 1), .string KS, .int .i64 z, .int .i64 z] 74)) ∧ HeldR (wl.heap[b21]? = some (.cells #[.int .i64 ((i : Int) + 1), .int .i64 cd, .int .i64 m1.X, .int .i64 m1.Y, .int .i64 m1.st] 77)) ∧ HeldR (Below w.heap.size w wl)) (fun nv _ _ => Lo.length + 4 + 2 * i - (intOf nv).toNat)
          case atStart => exact ⟨n, false, m, fun _ => hn, by omega, rfl, rfl, HF, HMC, hideR (fun e => by cases e), HP, HR, HN, HB20, HB21, HW⟩
          case round =>
            clear HF HMC HP HR HN HB20 HB21 HW hn HQ HT
            obtain ⟨k, hd, mm, hk1, hk2, rfl, rfl, HF, HMC, HMM, HP, HR, HN, HB20, HB21, HW⟩ := hrel
            cases hd
            · have hk3 := hk1 rfl
              clear hk1 hk2 HMM
              replace HN : HeldR (RepS wr s ⟨(⟨(i : Int) + 1, KS, z, z⟩ : CmdS), true⟩) := HN
              have hag := hN.again (unhideR HN)
              go_wp2_with fail
              refine hag.mono ?_
              rintro e w9 ⟨c9, rfl, hc9, k9⟩
              obtain rfl : c9 = (⟨(i : Int) + 1, KS, z, z⟩ : CmdS) := hc9 (by first | rfl | trivial)
              have k10 := below_go k9 (below_a w9 (.cells #[.int .i64 ((i : Int) + 1), .string KS, .int .i64 z, .int .i64 z] 74))
              replace HP := hideR (hP.go (unhideR HP) k10)
              replace HR := hideR ((unhideR HR).keep k10)
              replace HN := hideR (hN.go (unhideR HN) k10)
              replace HB20 := hideR (keepB (unhideR HB20) k10)
              replace HB21 := hideR (keepB (unhideR HB21) k10)
              replace HW := hideR (below_go (unhideR HW) k10)
              have HB23 := hideR (alloc_last w9 (.cells #[.int .i64 ((i : Int) + 1), .string KS, .int .i64 z, .int .i64 z] 74))
              clear hc9 k9 k10 hag
              obtain ⟨d0, d1, d2, d3⟩ := four_cells (unhideR HB20)
              go_upto_region 28 with fail
              clear d0 d1 d2 d3
              generalize w9.alloc (.cells #[.int .i64 ((i : Int) + 1), .string KS, .int .i64 z, .int .i64 z] 74) = W9 at *
              go_cut [25] from 126 to 203 (fun s25 wx => W9 = wx ∧ ∃ th : Bool, s25 = .bool th ∧ (th = false → k < Lo.length))
              case' first =>
                by_cases hkl : k < Lo.length
                · obtain ⟨bl, ol, rfl, hbl, cl⟩ := ((unhideR HLo).below (unhideR HW)).at_ k hkl
                  generalize Lo.getD k false = bq at cl
                  go_wp2_with fail
                  go_meet
                  exact ⟨rfl, _, rfl, fun _ => hkl⟩
                · go_wp2_with fail
                  go_meet
                  exact ⟨rfl, true, rfl, fun e => by cases e⟩
              obtain ⟨rfl, th, rfl, hth⟩ := hcut
              go_upto_region 29 with fail
              go_cut [26] from 126 to 203 (fun s26 wx => W9 = wx ∧ ∃ bb : Bool, s26 = .bool bb ∧ (bb = false → k + 1 < Lo.length))
              case' first =>
                by_cases hkl : k + 1 < Lo.length
                · obtain ⟨bl, ol, rfl, hbl, cl⟩ := ((unhideR HLo).below (unhideR HW)).at_ (k + 1) hkl
                  generalize Lo.getD (k + 1) false = bq at cl
                  go_wp2_with fail
                  go_meet
                  exact ⟨rfl, _, rfl, fun _ => hkl⟩
                · go_wp2_with fail
                  go_meet
                  exact ⟨rfl, true, rfl, fun e => by cases e⟩
              obtain ⟨rfl, bb, rfl, hbb⟩ := hcut
              have wk2 : IntKind.i64.wrap ((k : Int) + 2) = ((k + 2 : Nat) : Int) := by
                rw [show (k : Int) + 2 = ((k + 2 : Nat) : Int) by omega]
                exact iwrap (by omega) (by omega)
              cases th
              · go_wp2_with fail
                exact ⟨⟨k + 2, false, mm, fun _ => by have := hth rfl; omega, by omega, by go_num, rfl, HF, HMC, hideR (fun e => by cases e), HP, HR, HN, HB20, HB21, HW⟩, by simp [intOf]; omega⟩
              · have htk : ∀ u, Rep u g mm → Sents u a → Calls Tryd.prog 30 #[.pointer (some ⟨g, 0, none⟩), .agg #[.int .i64 ((i : Int) + 1), .string KS, .int .i64 z, .int .i64 z]] u (fun e w' => ∃ er, ErrIs a cd er ∧ e = .returned (.agg #[.int .i64 ((i : Int) + 1), er, .int .i64 m1.X, .int .i64 m1.Y, .int .i64 m1.st]) ∧ Rep w' g m1 ∧ Chg g u w') := fun u h1 h2 => by
                  have h := hP.take (⟨(i : Int) + 1, KS, z, z⟩ : CmdS) h1 (unhideR HF) h2
                  rw [unhideR HMC] at h
                  exact h
                have hk := htk _ (unhideR HP) ((unhideR HS).below (unhideR HW) (Nat.le_refl _))
                obtain ⟨d0, d1, d2, d3⟩ := four_cells (unhideR HB23)
                clear htk HF HMC
                go_wp2_with fail
                refine hk.mono ?_
                rintro e w10 ⟨er, her, rfl, h10, k10⟩
                clear d0 d1 d2 d3 hk
                have kA := below_a w10 (.cells #[.int .i64 ((i : Int) + 1), er, .int .i64 m1.X, .int .i64 m1.Y, .int .i64 m1.st] 72)
                replace HP := hideR (hP.go h10 kA)
                replace HR := hideR (((unhideR HR).chg k10 (Ne.symm hgr)).keep kA)
                have HN0 := HN
                replace HN := hideR (hN.go (hN.keep (unhideR HN) k10 (Ne.symm hgs)) kA)
                replace HB20 := hideR (keepB (k10.blk (unhideR HB20) (Ne.symm hg20)) kA)
                replace HB21 := hideR (keepB (k10.blk (unhideR HB21) (Ne.symm hg21)) kA)
                replace HW := hideR (below_go (Chg.into (unhideR HW) k10 hg rfl) kA)
                have HB27 := hideR (alloc_last w10 (.cells #[.int .i64 ((i : Int) + 1), er, .int .i64 m1.X, .int .i64 m1.Y, .int .i64 m1.st] 72))
                have hst := fun (u : World) (ad : Addr) (md : Mode) => run_store Tryd.prog u ad er md (err_one her)
                have hcd := coded_err ((unhideR HS).below (unhideR HW) (Nat.le_refl _)) her
                have her1 := hideR (err_one her)
                have hs27 : s ≠ w10.heap.size := by have := hN.low (hN.keep (unhideR HN0) k10 (Ne.symm hgs)); omega
                have hg27 : g ≠ w10.heap.size := by have := hP.low h10; omega
                have HMC1 : HeldR (takeV m1 ((⟨(i : Int) + 1, KS, z, z⟩ : CmdS)).cmd = (m1, cd)) := by
                  unfold HeldR
                  rw [take_again (unhideR HT1).1 (show m1.num = (i : Int) + 1 from (unhideR HT1).2.1), (unhideR HT1).2.2]
                have hh1 : ∀ u, RepS u s ⟨(⟨(i : Int) + 1, KS, z, z⟩ : CmdS), true⟩ → Calls Tryd.prog 40 #[.pointer (some ⟨s, 0, none⟩), .agg #[.int .i64 ((i : Int) + 1), er, .int .i64 m1.X, .int .i64 m1.Y, .int .i64 m1.st]] u (fun e w' => e = .returned (.bool true) ∧ RepS w' s ⟨(⟨(i : Int) + 1, KS, z, z⟩ : CmdS), false⟩ ∧ Chg s u w') := fun u hu => by
                  have h := hN.hear ((i : Int) + 1) m1.X m1.Y m1.st er (unhideR her1) hu
                  simpa using h
                have hh2 : ∀ u, RepS u s ⟨(⟨(i : Int) + 1, KS, z, z⟩ : CmdS), false⟩ → Calls Tryd.prog 40 #[.pointer (some ⟨s, 0, none⟩), .agg #[.int .i64 ((i : Int) + 1), er, .int .i64 m1.X, .int .i64 m1.Y, .int .i64 m1.st]] u (fun e w' => e = .returned (.bool false) ∧ RepS w' s ⟨(⟨(i : Int) + 1, KS, z, z⟩ : CmdS), false⟩ ∧ Chg s u w') := fun u hu => by
                  have h := hN.hear ((i : Int) + 1) m1.X m1.Y m1.st er (unhideR her1) hu
                  simpa using h
                clear h10 k10 kA her HB23 HN0
                obtain ⟨⟨_, y1, _, _, _⟩, _⟩ := five_cells (unhideR HB21)
                obtain ⟨⟨_, z1, _, _, _⟩, _⟩ := five_cells (unhideR HB27)
                go_wp2_with fail
                clear y1 z1 hst
                generalize w10.alloc (.cells #[.int .i64 ((i : Int) + 1), er, .int .i64 m1.X, .int .i64 m1.Y, .int .i64 m1.st] 72) = W10 at *
                refine hcd.mono ?_
                rintro e w11 ⟨rfl, k11⟩
                replace HP := hideR (hP.go (unhideR HP) k11)
                replace HR := hideR ((unhideR HR).keep k11)
                replace HN := hideR (hN.go (unhideR HN) k11)
                replace HB20 := hideR (keepB (unhideR HB20) k11)
                replace HB21 := hideR (keepB (unhideR HB21) k11)
                replace HW := hideR (below_go (unhideR HW) k11)
                replace HB27 := hideR (keepB (unhideR HB27) k11)
                clear k11 hcd
                have tS := bne_no m1.st
                obtain ⟨⟨y0, y1, y2, y3, y4⟩, _⟩ := five_cells (unhideR HB21)
                obtain ⟨⟨z0, z1, z2, z3, z4⟩, _⟩ := five_cells (unhideR HB27)
                obtain ⟨e0, e1, e2, e3⟩ := four_cells (unhideR HB20)
                cases bb
                · go_wp2_with fail
                  exact ⟨⟨k + 2, false, m1, fun _ => by have := hbb (by first | rfl | trivial); omega, by omega, by go_num, rfl, HF1, HMC1, hideR (fun e => by cases e), HP, HR, HN, HB20, HB21, HW⟩, by simp [intOf]; omega⟩
                · have h1 := hh1 _ (unhideR HN)
                  go_wp2_with fail
                  refine h1.mono ?_
                  rintro e w12 ⟨rfl, h12, k12⟩
                  clear y0 y1 y2 y3 y4 z0 z1 z2 z3 z4 e0 e1 e2 e3 h1 hh1
                  replace HN := hideR h12
                  replace HP := hideR (hP.keep (unhideR HP) k12 hgs)
                  replace HR := hideR ((unhideR HR).chg k12 hrs)
                  replace HB20 := hideR (k12.blk (unhideR HB20) (Ne.symm hs20))
                  replace HB21 := hideR (k12.blk (unhideR HB21) (Ne.symm hs21))
                  replace HB27 := hideR (k12.blk (unhideR HB27) (Ne.symm hs27))
                  replace HW := hideR (Chg.into (unhideR HW) k12 hws rfl)
                  clear h12 k12
                  obtain ⟨⟨z0, z1, z2, z3, z4⟩, _⟩ := five_cells (unhideR HB27)
                  have h2 := hh2 _ (unhideR HN)
                  go_wp2_with fail
                  refine h2.mono ?_
                  rintro e w13 ⟨rfl, h13, k13⟩
                  clear z0 z1 z2 z3 z4 h2 hh2
                  replace HN := hideR h13
                  replace HP := hideR (hP.keep (unhideR HP) k13 hgs)
                  replace HR := hideR ((unhideR HR).chg k13 hrs)
                  replace HB20 := hideR (k13.blk (unhideR HB20) (Ne.symm hs20))
                  replace HB21 := hideR (k13.blk (unhideR HB21) (Ne.symm hs21))
                  replace HB27 := hideR (k13.blk (unhideR HB27) (Ne.symm hs27))
                  replace HW := hideR (Chg.into (unhideR HW) k13 hws rfl)
                  clear h13 k13
                  go_wp2_with fail
                  clear hbb hth
                  have hkz : k + 2 ≤ Lo.length + 3 + 2 * i := by clear hs27 hg27; omega
                  exact ⟨⟨k + 2, true, m1, (fun e => Bool.noConfusion e), hkz, by go_num, rfl, HF1, HMC1, hideR (fun _ => rfl), HP, HR, HN, HB20, HB21, HW⟩, by simp [intOf]; omega⟩
            · have hmm := unhideR HMM rfl
              rw [hmm] at HP
              clear hmm HMM hk1 HMC HF
              replace HN : HeldR (RepS wr s ⟨(⟨(i : Int) + 1, KS, z, z⟩ : CmdS), false⟩) := HN
              have hag := hN.again (unhideR HN)
              go_wp2_with fail
              refine hag.mono ?_
              rintro e w9 ⟨c9, rfl, _, k9⟩
              replace HP := hideR (hP.go (unhideR HP) k9)
              replace HR := hideR ((unhideR HR).keep k9)
              replace HN := hideR (hN.go (unhideR HN) k9)
              replace HB20 := hideR (keepB (unhideR HB20) k9)
              replace HB21 := hideR (keepB (unhideR HB21) k9)
              replace HW := hideR (below_go (unhideR HW) k9)
              have hqi : m1.quiet ≤ 1000000 := by have := unhideR HQ1; omega
              have ht := hP.tick (unhideR HP) (unhideR HF1) hqi ((unhideR HS).below (unhideR HW) (Nat.le_refl _))
              clear k9 hag HB20 HB21
              go_wp2_with fail
              refine ht.mono ?_
              rintro e w10 ⟨rfl, h10, k10⟩
              have ht2 := rtick_any ((unhideR HR).chg k10 (Ne.symm hgr)) (unhideR HF1) hqi
              replace HN := hideR (hN.keep (unhideR HN) k10 (Ne.symm hgs))
              replace HW := hideR (Chg.into (unhideR HW) k10 hg rfl)
              clear k10 ht HP HR
              go_wp2_with fail
              refine ht2.mono ?_
              rintro e w11 ⟨rfl, h11, k11⟩
              have HP := hideR (hP.keep h10 k11 hgr)
              have HR := hideR h11
              replace HN := hideR (hN.keep (unhideR HN) k11 (Ne.symm hrs))
              replace HW := hideR (Chg.into (unhideR HW) k11 hwr rfl)
              have hF2 := tick_fine (unhideR HF1)
              have HF2 := hideR hF2.1
              have HQ2 : HeldR ((tickV m1).quiet ≤ ((i + 1 : Nat) : Int)) := by
                unfold HeldR
                rw [hF2.2.2.2.2.2.2]
                have := unhideR HQ1
                omega
              have HT2 : HeldR ((tickV m1).taken = true → (tickV m1).num ≤ ((i + 1 : Nat) : Int)) := fun _ => by
                rw [(tick_keeps m1).2, (unhideR HT1).2.1]
                omega
              clear h10 h11 k11 ht2 HF1 HQ1 HT1 hF2 hqi
              generalize tickV m1 = m2 at *
              have tX := bne_no m2.X
              have tY := bne_no m2.Y
              have tS := bne_no m2.st
              go_wp2_with fail
              refine wp_region_made 0 #[true, true, true, true, true, true, true, true, true, true, true, true, true, true, true, true, true, true, true, true, true, true, false] [.lets (· = .int .i64 m2.X),
                .lets (· = .pointer (some ⟨r, 0, none⟩)),
                .lets (· = .pointer (some ⟨r, 0, none⟩)),
                .lets (· = .pointer (some ⟨r, 8, none⟩)),
                .lets (· = .int .i64 m2.X),
                .lets (· = .bool false),
                .lets (· = .bool false),
                .lets (· = .int .i64 m2.Y),
                .lets (· = .pointer (some ⟨r, 0, none⟩)),
                .lets (· = .pointer (some ⟨r, 0, none⟩)),
                .lets (· = .pointer (some ⟨r, 9, none⟩)),
                .lets (· = .int .i64 m2.Y),
                .lets (· = .bool false),
                .lets (· = .bool false),
                .lets (· = .bool false),
                .lets (· = .pointer (some ⟨g, 0, none⟩)),
                .lets (· = .int .i64 m2.st),
                .lets (· = .pointer (some ⟨r, 0, none⟩)),
                .lets (· = .pointer (some ⟨r, 0, none⟩)),
                .lets (· = .pointer (some ⟨r, 12, none⟩)),
                .lets (· = .int .i64 m2.st),
                .lets (· = .bool false)] [] [] (by kernel_rfl) (by kernel_rfl) rfl ?kinds (by kernel_rfl) (by kernel_rfl) (by kernel_rfl) ?_
              case kinds =>
                constructor
                · intro i h
                  rcases i with _ | _ | _ | _ | _ | _ | _ | _ | _ | _ | _ | _ | _ | _ | _ | _ | _ | _ | _ | _ | _ | _ | i <;> simp [Kx.isMade] at h
                · intro i h
                  rcases i with _ | _ | _ | _ | _ | _ | _ | _ | _ | _ | _ | _ | _ | _ | _ | _ | _ | _ | _ | _ | _ | _ | i <;> simp [Kx.isUse] at h
              refine lexX_step (fun K hK => ⟨by kernel_rfl, ⟨_, rfl⟩, fun v hv => ?_, fun v hv => ?_⟩)
              · go_simp
                exact mUpon_b
              subst hv
              go_simp
              refine hK _ ?_
              clear hK K
              refine lexX_step (fun K hK => ⟨by kernel_rfl, ⟨_, rfl⟩, fun v hv => ?_, fun v hv => ?_⟩)
              · go_simp
                exact mUpon_b
              subst hv
              go_simp
              refine hK _ ?_
              clear hK K
              refine lexX_step (fun K hK => ⟨by kernel_rfl, ⟨_, rfl⟩, fun v hv => ?_, fun v hv => ?_⟩)
              · go_simp
                exact mUpon_b
              subst hv
              go_simp
              refine hK _ ?_
              clear hK K
              refine lexX_step (fun K hK => ⟨by kernel_rfl, ⟨_, rfl⟩, fun v hv => ?_, fun v hv => ?_⟩)
              · go_simp
                exact mUpon_b
              subst hv
              go_simp
              refine hK _ ?_
              clear hK K
              refine lexX_step (fun K hK => ⟨by kernel_rfl, ⟨_, rfl⟩, fun v hv => ?_, fun v hv => ?_⟩)
              · have c : v.cell? ⟨r, 8, none⟩ = some (.int .i64 m2.X) := (((unhideR HR).keep hv).cell 8 (by decide)).1
                go_simp
                exact mUpon_b
              subst hv
              go_simp
              refine hK _ ?_
              clear hK K
              refine lexX_step (fun K hK => ⟨by kernel_rfl, ⟨_, rfl⟩, fun v hv => ?_, fun v hv => ?_⟩)
              · go_simp
                exact mUpon_b
              subst hv
              go_simp
              refine hK _ ?_
              clear hK K
              refine lexX_step (fun K hK => ⟨by kernel_rfl, ⟨_, rfl⟩, fun v hv => ?_, fun v hv => ?_⟩)
              · go_simp
                exact mUpon_b
              subst hv
              go_simp
              refine hK _ ?_
              clear hK K
              refine lexX_step (fun K hK => ⟨by kernel_rfl, ⟨_, rfl⟩, fun v hv => ?_, fun v hv => ?_⟩)
              · go_simp
                exact mUpon_b
              subst hv
              go_simp
              refine hK _ ?_
              clear hK K
              refine lexX_step (fun K hK => ⟨by kernel_rfl, ⟨_, rfl⟩, fun v hv => ?_, fun v hv => ?_⟩)
              · go_simp
                exact mUpon_b
              subst hv
              go_simp
              refine hK _ ?_
              clear hK K
              refine lexX_step (fun K hK => ⟨by kernel_rfl, ⟨_, rfl⟩, fun v hv => ?_, fun v hv => ?_⟩)
              · go_simp
                exact mUpon_b
              subst hv
              go_simp
              refine hK _ ?_
              clear hK K
              refine lexX_step (fun K hK => ⟨by kernel_rfl, ⟨_, rfl⟩, fun v hv => ?_, fun v hv => ?_⟩)
              · go_simp
                exact mUpon_b
              subst hv
              go_simp
              refine hK _ ?_
              clear hK K
              refine lexX_step (fun K hK => ⟨by kernel_rfl, ⟨_, rfl⟩, fun v hv => ?_, fun v hv => ?_⟩)
              · have c : v.cell? ⟨r, 9, none⟩ = some (.int .i64 m2.Y) := (((unhideR HR).keep hv).cell 9 (by decide)).1
                go_simp
                exact mUpon_b
              subst hv
              go_simp
              refine hK _ ?_
              clear hK K
              refine lexX_step (fun K hK => ⟨by kernel_rfl, ⟨_, rfl⟩, fun v hv => ?_, fun v hv => ?_⟩)
              · go_simp
                exact mUpon_b
              subst hv
              go_simp
              refine hK _ ?_
              clear hK K
              refine lexX_step (fun K hK => ⟨by kernel_rfl, ⟨_, rfl⟩, fun v hv => ?_, fun v hv => ?_⟩)
              · go_simp
                exact mUpon_b
              subst hv
              go_simp
              refine hK _ ?_
              clear hK K
              refine lexX_step (fun K hK => ⟨by kernel_rfl, ⟨_, rfl⟩, fun v hv => ?_, fun v hv => ?_⟩)
              · go_simp
                exact mUpon_b
              subst hv
              go_simp
              refine hK _ ?_
              clear hK K
              refine lexX_step (fun K hK => ⟨by kernel_rfl, ⟨_, rfl⟩, fun v hv => ?_, fun v hv => ?_⟩)
              · go_simp
                exact mUpon_b
              subst hv
              go_simp
              refine hK _ ?_
              clear hK K
              refine lexX_step (fun K hK => ⟨by kernel_rfl, ⟨_, rfl⟩, fun v hv => ?_, fun v hv => ?_⟩)
              · go_simp
                refine (hP.state (hP.go (unhideR HP) hv)).mono ?_
                rintro e w9 ⟨rfl, k⟩
                exact ⟨_, rfl, rfl, k⟩
              subst hv
              go_simp
              refine hK _ ?_
              clear hK K
              refine lexX_step (fun K hK => ⟨by kernel_rfl, ⟨_, rfl⟩, fun v hv => ?_, fun v hv => ?_⟩)
              · go_simp
                exact mUpon_b
              subst hv
              go_simp
              refine hK _ ?_
              clear hK K
              refine lexX_step (fun K hK => ⟨by kernel_rfl, ⟨_, rfl⟩, fun v hv => ?_, fun v hv => ?_⟩)
              · go_simp
                exact mUpon_b
              subst hv
              go_simp
              refine hK _ ?_
              clear hK K
              refine lexX_step (fun K hK => ⟨by kernel_rfl, ⟨_, rfl⟩, fun v hv => ?_, fun v hv => ?_⟩)
              · go_simp
                exact mUpon_b
              subst hv
              go_simp
              refine hK _ ?_
              clear hK K
              refine lexX_step (fun K hK => ⟨by kernel_rfl, ⟨_, rfl⟩, fun v hv => ?_, fun v hv => ?_⟩)
              · have c : v.cell? ⟨r, 12, none⟩ = some (.int .i64 m2.st) := (((unhideR HR).keep hv).cell 12 (by decide)).1
                go_simp
                exact mUpon_b
              subst hv
              go_simp
              refine hK _ ?_
              clear hK K
              refine lexX_step (fun K hK => ⟨by kernel_rfl, ⟨_, rfl⟩, fun v hv => ?_, fun v hv => ?_⟩)
              · go_simp
                exact mUpon_b
              subst hv
              go_simp
              refine hK _ ?_
              clear hK K
              refine lexX_end (fun v9 hv => ?_)
              replace HP := hideR (hP.go (unhideR HP) hv.low)
              replace HR := hideR ((unhideR HR).keep hv.low)
              replace HN := hideR (hN.go (unhideR HN) hv.low)
              replace HW := hideR (below_go (unhideR HW) hv.low)
              clear hv
              refine wpAny_step (i := 22) (by kernel_rfl) rfl (by kernel_rfl) (fun K hK => ?_)
              unfold Oper.wp
              go_simp
              refine hK _ _ ?_
              clear hK K
              refine wpAny_end (by kernel_rfl) ?_
              go_wp2
              exact ⟨⟨i + 1, k, m2, ⟨(⟨(i : Int) + 1, KS, z, z⟩ : CmdS), false⟩, by omega, by omega, rfl, rfl, by go_num, HF2, HQ2, HT2, hideR ⟨by show (i : Int) + 1 = ((i + 1 : Nat) : Int); omega, rfl⟩, HP, HR, HN, HW⟩, by simp [intOf]; omega⟩
        · go_wp2
          go_ret
          exact ⟨rfl, unhideR HW⟩
    · obtain ⟨e0, e1, e2, e3⟩ := four_cells (unhideR HA)
      obtain ⟨q0, q1, q2, q3⟩ := four_cells (unhideR HB)
      go_wp2_with fail
      refine (mountOf_any x y 1073741824 _).mono ?_
      rintro e w3 ⟨p, rfl, hq1, hq2, k3⟩
      obtain rfl := hq1 h0
      replace HW := hideR (below_go (unhideR HW) k3)
      rw [hE]
      have hpos' : decide (0 < (k : Int) + 1) = true := decide_eq_true (by omega)
      clear hq1 hq2 k3 e0 e1 e2 e3 q0 q1 q2 q3 h0 hE
      go_wp2
      go_ret
      exact ⟨rfl, unhideR HW⟩
end Go.Proofs.YteoappoijihomahDoor
