/-
  The program's kick and drift, by contracts.
-/
import Derived.Test.YtdngkmobkbiflagDoorDMv1
namespace Go.Proofs.YtdngkmobkbiflagDoor
open Go Go.RowKit

set_option maxRecDepth 100000 in
set_option maxHeartbeats 800000 in
theorem kickP_nil (cap : Nat) (s : Int) (w : World) : Calls Tryd.prog 35 #[.slice none 0 cap, .int .i64 s] w fun e w' => e = .returned (.tuple #[]) ∧ w' = w := by
  go_enter Tryd.func35, Tryd.ntmps35
  go_wp2
  go_loop [9] (fun iv => iv = .int .i64 0) (fun _ => 0)
  case atStart => rfl
  case round =>
    subst hrel
    go_wp2
    simp [bodyPost, results, go_sem]
set_option maxRecDepth 100000 in
set_option maxHeartbeats 800000 in
theorem driftP_nil (cap : Nat) (s : Int) (w : World) : Calls Tryd.prog 36 #[.slice none 0 cap, .int .i64 s] w fun e w' => e = .returned (.tuple #[]) ∧ w' = w := by
  go_enter Tryd.func36, Tryd.ntmps36
  go_wp2
  go_loop [7] (fun iv => iv = .int .i64 0) (fun _ => 0)
  case atStart => rfl
  case round =>
    subst hrel
    go_wp2
    simp [bodyPost, results, go_sem]
set_option maxRecDepth 100000 in
set_option maxHeartbeats 3200000 in
theorem kickP_row (g cap : Nat) (L : List Bd) (s : Int) (w : World) (hF : FOwn w g L.length (fun j => L.getD j bd0)) (hl : L.length ≤ 12) (hm : mss L = true) (ha : ∀ j, j < L.length → (L.getD j bd0).at_.In 3458764513822638080) (hsp : ∀ j, j < L.length → (L.getD j bd0).sp.In 3458764513821589504) (hs : s = 1 ∨ s = -1) :
    Calls Tryd.prog 35 #[.slice (some ⟨g, 0, none⟩) L.length cap, .int .i64 s] w fun e w' => e = .returned (.tuple #[]) ∧ FOwn w' g L.length (fun j => (kick s L).getD j bd0) ∧ Chg g w w' := by
  have HF : HeldR (FOwn w g L.length (kq L s 0 0)) := hF.congr (fun j _ => (kq_start L s j).symm)
  have HM := hideR (mss_all hm)
  have HA := hideR ha
  have HS := hideR hsp
  have hs1 : -1 ≤ s ∧ s ≤ 1 := by omega
  have HSG := hideR hs
  clear hF hm ha hsp hs
  go_enter Tryd.func35, Tryd.ntmps35
  go_wp2
  go_loopw [9] (fun iv wl => ∃ i : Nat, i ≤ L.length ∧ iv = .int .i64 (i : Nat) ∧ HeldR (FOwn wl g L.length (kq L s i 0)) ∧ HeldR (Chg g w wl)) (fun iv _ => L.length + 1 - (intOf iv).toNat)
  case atStart => exact ⟨0, by omega, rfl, HF, hideR (Chg.refl _ _)⟩
  case round =>
    clear HF
    obtain ⟨i, hi', rfl, HF, HW⟩ := hrel
    by_cases hlt : i < L.length
    · go_wp2
      go_loopw [14] (fun kv wl => ∃ k : Nat, k ≤ L.length ∧ kv = .int .i64 (k : Nat) ∧ HeldR (FOwn wl g L.length (kq L s i k)) ∧ HeldR (Chg g w wl)) (fun kv _ => L.length + 1 - (intOf kv).toNat)
      case atStart => exact ⟨0, by omega, rfl, HF, HW⟩
      case round =>
        clear HF HW
        obtain ⟨k, hk', rfl, HF, HW⟩ := hrel
        by_cases hkl : k < L.length
        · have hai := unhideR HA i hlt
          have hak := unhideR HA k hkl
          have hmk := unhideR HM k
          have m1 := sgn_size (unhideR HSG) hmk.1 hmk.2
          have f1 : (kq L s i (k + 1) i).sp = (kq L s i k i).sp.add (Cl.mul (s * (kq L s i k k).m) (pullV ((kq L s i k k).at_.sub (kq L s i k i).at_))) := kq_sp
          have z1 := kq_size (unhideR HSG) (unhideR HM) (a := i) (j := k + 1) (k := i) hl (by omega) (unhideR HS i hlt)
          rw [f1] at z1
          have pz := pullV_size ((kq L s i k k).at_.sub (kq L s i k i).at_)
          have M1 := more_ok (k := s * (kq L s i k k).m) m1.1 m1.2 pz z1
          have hbet := fun u => between_any (kq L s i k i) (kq L s i k k) u hai hak
          have hpull := fun u => pull_any ((kq L s i k k).at_.sub (kq L s i k i).at_) u
          have hgain := fun u => gain_any _ _ _ u M1
          have hgl := (unhideR HF).lt
          have HFI : HeldR (BAt wr g (i * 7) (kq L s i k i)) := (unhideR HF).at_ i hlt
          have hfk : BAt wr g (k * 7) (kq L s i k k) := (unhideR HF).at_ k hkl
          have hw1 : IntKind.i64.wrap (s * (kq L s i k k).m) = s * (kq L s i k k).m := iwrap (by have := m1.1; show -_ ≤ s * (L.getD k bd0).m; omega) (by have := m1.2; show s * (L.getD k bd0).m ≤ _; omega)
          clear hai hak hmk m1 z1 pz M1
          have HNX := hideR (fun j => kq_next f1 j)
          clear f1
          generalize hFi : kq L s i k i = Fi at *
          have HFI0 := hideR hFi
          clear hFi
          generalize kq L s i k k = Fk at *
          generalize pullV (Fk.at_.sub Fi.at_) = P at *
          obtain ⟨c0, c1, c2, c3, c4, c5, c6⟩ := hfk
          go_wp2_with fail
          have HK : HeldR (BAt (wr.alloc (.cells #[.int .i64 Fk.at_.x, .int .i64 Fk.at_.y, .int .i64 Fk.at_.z, .int .i64 Fk.sp.x, .int .i64 Fk.sp.y, .int .i64 Fk.sp.z, .int .i64 Fk.m] 40)) wr.heap.size 0 Fk) := bat_blk (alloc_last wr _)
          replace HFI := hideR ((unhideR HFI).below (below_a wr (.cells #[.int .i64 Fk.at_.x, .int .i64 Fk.at_.y, .int .i64 Fk.at_.z, .int .i64 Fk.sp.x, .int .i64 Fk.sp.y, .int .i64 Fk.sp.z, .int .i64 Fk.m] 40)) hgl)
          replace HF := hideR ((unhideR HF).below (below_a wr (.cells #[.int .i64 Fk.at_.x, .int .i64 Fk.at_.y, .int .i64 Fk.at_.z, .int .i64 Fk.sp.x, .int .i64 Fk.sp.y, .int .i64 Fk.sp.z, .int .i64 Fk.m] 40)) hgl)
          replace HW := hideR ((unhideR HW).go (below_a wr (.cells #[.int .i64 Fk.at_.x, .int .i64 Fk.at_.y, .int .i64 Fk.at_.z, .int .i64 Fk.sp.x, .int .i64 Fk.sp.y, .int .i64 Fk.sp.z, .int .i64 Fk.m] 40)))
          have hol : wr.heap.size < (wr.alloc (.cells #[.int .i64 Fk.at_.x, .int .i64 Fk.at_.y, .int .i64 Fk.at_.z, .int .i64 Fk.sp.x, .int .i64 Fk.sp.y, .int .i64 Fk.sp.z, .int .i64 Fk.m] 40)).heap.size := by simp
          replace hgl := (unhideR HF).lt
          clear c0 c1 c2 c3 c4 c5 c6
          generalize wr.alloc (.cells #[.int .i64 Fk.at_.x, .int .i64 Fk.at_.y, .int .i64 Fk.at_.z, .int .i64 Fk.sp.x, .int .i64 Fk.sp.y, .int .i64 Fk.sp.z, .int .i64 Fk.m] 40) = W at *
          generalize wr.heap.size = o at *
          refine wp_region_made 0 #[true, true, true, true, true, true, true, true, true, true, true, true, true, true, true, true, true, true, true, true, true, false] [.lets (· = .slice (some ⟨g, 0, none⟩) L.length cap),
            .lets (· = .int .i64 (i : Nat)),
            .lets (· = .slice (some ⟨g, 0, none⟩) L.length cap),
            .lets (· = .int .i64 (i : Nat)),
            .lets (· = .pointer (some ⟨g, i * 7, none⟩)),
            .lets (· = .pointer (some ⟨g, i * 7 + 3, none⟩)),
            .lets (· = .agg #[.int .i64 Fi.sp.x, .int .i64 Fi.sp.y, .int .i64 Fi.sp.z]),
            .lets (· = .int .i64 s),
            .lets (· = .pointer (some ⟨o, 6, none⟩)),
            .lets (· = .int .i64 Fk.m),
            .lets (· = .int .i64 (s * Fk.m)),
            .lets (· = .slice (some ⟨g, 0, none⟩) L.length cap),
            .lets (· = .int .i64 (i : Nat)),
            .lets (· = .pointer (some ⟨g, i * 7, none⟩)),
            .lets (· = .agg #[.int .i64 Fi.at_.x, .int .i64 Fi.at_.y, .int .i64 Fi.at_.z, .int .i64 Fi.sp.x, .int .i64 Fi.sp.y, .int .i64 Fi.sp.z, .int .i64 Fi.m]),
            .lets (· = .agg #[.int .i64 Fk.at_.x, .int .i64 Fk.at_.y, .int .i64 Fk.at_.z, .int .i64 Fk.sp.x, .int .i64 Fk.sp.y, .int .i64 Fk.sp.z, .int .i64 Fk.m]),
            .lets (· = (Fk.at_.sub Fi.at_).val),
            .lets (· = P.val),
            .lets (· = (Fi.sp.add (Cl.mul (s * Fk.m) P)).val),
            .lets (· = .pointer (some ⟨g, i * 7, none⟩)),
            .lets (· = .pointer (some ⟨g, i * 7 + 3, none⟩))] [] [] (by kernel_rfl) (by kernel_rfl) rfl ?kinds (by kernel_rfl) (by kernel_rfl) (by kernel_rfl) ?_
          case kinds =>
            constructor
            · intro i h
              rcases i with _ | _ | _ | _ | _ | _ | _ | _ | _ | _ | _ | _ | _ | _ | _ | _ | _ | _ | _ | _ | _ | i <;> simp [Kx.isMade] at h
            · intro i h
              rcases i with _ | _ | _ | _ | _ | _ | _ | _ | _ | _ | _ | _ | _ | _ | _ | _ | _ | _ | _ | _ | _ | i <;> simp [Kx.isUse] at h
          refine lexX_step (fun K hK => ⟨by kernel_rfl, ⟨_, rfl⟩, fun v hv => ?_, fun v hv => ?_⟩)
          · go_simp
            exact mUpon_b
          subst hv
          go_simp
          refine hK _ ?_
          clear hK K
          refine lexX_step (fun K hK => ⟨by kernel_rfl, ⟨_, rfl⟩, fun v hv => ?_, fun v hv => ?_⟩)
          · go_simp
            exact mUpon_b
          subst hv
          go_simp
          refine hK _ ?_
          clear hK K
          refine lexX_step (fun K hK => ⟨by kernel_rfl, ⟨_, rfl⟩, fun v hv => ?_, fun v hv => ?_⟩)
          · go_simp
            exact mUpon_b
          subst hv
          go_simp
          refine hK _ ?_
          clear hK K
          refine lexX_step (fun K hK => ⟨by kernel_rfl, ⟨_, rfl⟩, fun v hv => ?_, fun v hv => ?_⟩)
          · go_simp
            exact mUpon_b
          subst hv
          go_simp
          refine hK _ ?_
          clear hK K
          refine lexX_step (fun K hK => ⟨by kernel_rfl, ⟨_, rfl⟩, fun v hv => ?_, fun v hv => ?_⟩)
          · go_simp
            exact mUpon_b
          subst hv
          go_simp
          refine hK _ ?_
          clear hK K
          refine lexX_step (fun K hK => ⟨by kernel_rfl, ⟨_, rfl⟩, fun v hv => ?_, fun v hv => ?_⟩)
          · go_simp
            exact mUpon_b
          subst hv
          go_simp
          refine hK _ ?_
          clear hK K
          refine lexX_step (fun K hK => ⟨by kernel_rfl, ⟨_, rfl⟩, fun v hv => ?_, fun v hv => ?_⟩)
          · obtain ⟨c0, c1, c2, c3, c4, c5, c6⟩ := (unhideR HFI).below hv hgl
            go_simp
            exact mUpon_b
          subst hv
          go_simp
          refine hK _ ?_
          clear hK K
          refine lexX_step (fun K hK => ⟨by kernel_rfl, ⟨_, rfl⟩, fun v hv => ?_, fun v hv => ?_⟩)
          · go_simp
            exact mUpon_b
          subst hv
          go_simp
          refine hK _ ?_
          clear hK K
          refine lexX_step (fun K hK => ⟨by kernel_rfl, ⟨_, rfl⟩, fun v hv => ?_, fun v hv => ?_⟩)
          · go_simp
            exact mUpon_b
          subst hv
          go_simp
          refine hK _ ?_
          clear hK K
          refine lexX_step (fun K hK => ⟨by kernel_rfl, ⟨_, rfl⟩, fun v hv => ?_, fun v hv => ?_⟩)
          · obtain ⟨c0, c1, c2, c3, c4, c5, c6⟩ := (unhideR HK).below hv hol
            go_simp
            exact mUpon_b
          subst hv
          go_simp
          refine hK _ ?_
          clear hK K
          refine lexX_step (fun K hK => ⟨by kernel_rfl, ⟨_, rfl⟩, fun v hv => ?_, fun v hv => ?_⟩)
          · go_simp
            exact mUpon_b
          subst hv
          go_simp
          refine hK _ ?_
          clear hK K
          refine lexX_step (fun K hK => ⟨by kernel_rfl, ⟨_, rfl⟩, fun v hv => ?_, fun v hv => ?_⟩)
          · go_simp
            exact mUpon_b
          subst hv
          go_simp
          refine hK _ ?_
          clear hK K
          refine lexX_step (fun K hK => ⟨by kernel_rfl, ⟨_, rfl⟩, fun v hv => ?_, fun v hv => ?_⟩)
          · go_simp
            exact mUpon_b
          subst hv
          go_simp
          refine hK _ ?_
          clear hK K
          refine lexX_step (fun K hK => ⟨by kernel_rfl, ⟨_, rfl⟩, fun v hv => ?_, fun v hv => ?_⟩)
          · go_simp
            exact mUpon_b
          subst hv
          go_simp
          refine hK _ ?_
          clear hK K
          refine lexX_step (fun K hK => ⟨by kernel_rfl, ⟨_, rfl⟩, fun v hv => ?_, fun v hv => ?_⟩)
          · obtain ⟨c0, c1, c2, c3, c4, c5, c6⟩ := (unhideR HFI).below hv hgl
            go_simp
            exact mUpon_b
          subst hv
          go_simp
          refine hK _ ?_
          clear hK K
          refine lexX_step (fun K hK => ⟨by kernel_rfl, ⟨_, rfl⟩, fun v hv => ?_, fun v hv => ?_⟩)
          · obtain ⟨c0, c1, c2, c3, c4, c5, c6⟩ := (unhideR HK).below hv hol
            go_simp
            exact mUpon_b
          subst hv
          go_simp
          refine hK _ ?_
          clear hK K
          refine lexX_step (fun K hK => ⟨by kernel_rfl, ⟨_, rfl⟩, fun v hv => ?_, fun v hv => ?_⟩)
          · go_simp
            refine (hbet _).mono ?_
            rintro e w9 ⟨rfl, k⟩
            exact ⟨_, rfl, rfl, k⟩
          subst hv
          unfold Cl.val
          go_simp
          refine hK _ ?_
          clear hK K
          refine lexX_step (fun K hK => ⟨by kernel_rfl, ⟨_, rfl⟩, fun v hv => ?_, fun v hv => ?_⟩)
          · go_simp
            refine (hpull _).mono ?_
            rintro e w9 ⟨rfl, k⟩
            exact ⟨_, rfl, rfl, k⟩
          subst hv
          unfold Cl.val
          go_simp
          refine hK _ ?_
          clear hK K
          refine lexX_step (fun K hK => ⟨by kernel_rfl, ⟨_, rfl⟩, fun v hv => ?_, fun v hv => ?_⟩)
          · go_simp
            refine (hgain _).mono ?_
            rintro e w9 ⟨rfl, k⟩
            exact ⟨_, rfl, rfl, k⟩
          subst hv
          unfold Cl.val
          go_simp
          refine hK _ ?_
          clear hK K
          refine lexX_step (fun K hK => ⟨by kernel_rfl, ⟨_, rfl⟩, fun v hv => ?_, fun v hv => ?_⟩)
          · go_simp
            exact mUpon_b
          subst hv
          go_simp
          refine hK _ ?_
          clear hK K
          refine lexX_step (fun K hK => ⟨by kernel_rfl, ⟨_, rfl⟩, fun v hv => ?_, fun v hv => ?_⟩)
          · go_simp
            exact mUpon_b
          subst hv
          go_simp
          refine hK _ ?_
          clear hK K
          refine lexX_end (fun v hv => ?_)
          have hF := (unhideR HF).below hv.low hgl
          have hat := hF.at_ i hlt
          have c3 := hat.sx
          have c4 := hat.sy
          have c5 := hat.sz
          have f3 := hF.free (i * 7 + 3)
          have f4 := hF.free (i * 7 + 3 + 1)
          have f5 := hF.free (i * 7 + 3 + 2)
          have hW := (unhideR HW).go hv.low
          clear hv hat
          refine wpAny_step (i := 21) (by kernel_rfl) rfl (by kernel_rfl) (fun K hK => ?_)
          unfold Oper.wp
          go_simp
          refine hK _ _ ?_
          clear hK K
          refine wpAny_end (by kernel_rfl) ?_
          have HF3 : HeldR (FOwn (((v.setCell ⟨g, i * 7 + 3, none⟩ (.int .i64 (Fi.sp.add (Cl.mul (s * Fk.m) P)).x)).setCell ⟨g, i * 7 + 3 + 1, none⟩ (.int .i64 (Fi.sp.add (Cl.mul (s * Fk.m) P)).y)).setCell ⟨g, i * 7 + 3 + 2, none⟩ (.int .i64 (Fi.sp.add (Cl.mul (s * Fk.m) P)).z)) g L.length (kq L s i (k + 1))) := (hF.setSp hlt (Fi.sp.add (Cl.mul (s * Fk.m) P))).congr (fun j _ => by
            show updB (kq L s i k) i { kq L s i k i with sp := (Fi.sp.add (Cl.mul (s * Fk.m) P)) } j = _
            rw [unhideR HFI0]
            exact unhideR HNX j)
          have HW3 : HeldR (Chg g w (((v.setCell ⟨g, i * 7 + 3, none⟩ (.int .i64 (Fi.sp.add (Cl.mul (s * Fk.m) P)).x)).setCell ⟨g, i * 7 + 3 + 1, none⟩ (.int .i64 (Fi.sp.add (Cl.mul (s * Fk.m) P)).y)).setCell ⟨g, i * 7 + 3 + 2, none⟩ (.int .i64 (Fi.sp.add (Cl.mul (s * Fk.m) P)).z))) := hW.set (Fi.sp.add (Cl.mul (s * Fk.m) P))
          clear hF hW c3 c4 c5 f3 f4 f5 HF HW
          generalize ((v.setCell ⟨g, i * 7 + 3, none⟩ (.int .i64 (Fi.sp.add (Cl.mul (s * Fk.m) P)).x)).setCell ⟨g, i * 7 + 3 + 1, none⟩ (.int .i64 (Fi.sp.add (Cl.mul (s * Fk.m) P)).y)).setCell ⟨g, i * 7 + 3 + 2, none⟩ (.int .i64 (Fi.sp.add (Cl.mul (s * Fk.m) P)).z) = W11 at *
          go_wp2
          exact ⟨⟨k + 1, by omega, by go_num, HF3, HW3⟩, by simp [intOf]; omega⟩
        · obtain rfl : k = L.length := by omega
          have HF2 : HeldR (FOwn wr g L.length (kq L s (i + 1) 0)) := (unhideR HF).congr (fun j hj => kq_row L s i j)
          go_wp2
          exact ⟨⟨i + 1, by omega, by go_num, HF2, HW⟩, by simp [intOf]; omega⟩
    · obtain rfl : i = L.length := by omega
      have HE : HeldR (FOwn wr g L.length (fun j => (kick s L).getD j bd0)) := (unhideR HF).congr (fun j hj => kq_end hj)
      go_wp2
      simp [bodyPost, results, go_sem]
      exact ⟨unhideR HE, unhideR HW⟩
theorem drift_ok {p q : Cl} {s : Int} (hs : s = 1 ∨ s = -1) (hp : p.In 1048576) (hq : q.In 3458764513821589504) : MoreOk p s q := by
  obtain ⟨a1, a2, a3, a4, a5, a6⟩ := hp
  obtain ⟨b1, b2, b3, b4, b5, b6⟩ := hq
  rcases hs with rfl | rfl
  all_goals exact ⟨by omega, by omega, by omega, by omega, by omega, by omega⟩
set_option maxRecDepth 100000 in
set_option maxHeartbeats 3200000 in
theorem driftP_row (g cap : Nat) (L : List Bd) (s : Int) (w : World) (hF : FOwn w g L.length (fun j => L.getD j bd0)) (hl : L.length ≤ 12) (ha : ∀ j, j < L.length → (L.getD j bd0).at_.In 1048576) (hsp : ∀ j, j < L.length → (L.getD j bd0).sp.In 3458764513821589504) (hs : s = 1 ∨ s = -1) :
    Calls Tryd.prog 36 #[.slice (some ⟨g, 0, none⟩) L.length cap, .int .i64 s] w fun e w' => e = .returned (.tuple #[]) ∧ FOwn w' g L.length (fun j => (drift s L).getD j bd0) ∧ Chg g w w' := by
  have HF : HeldR (FOwn w g L.length (dq L s 0)) := hF.congr (fun j _ => (dq_start L s j).symm)
  have HA := hideR ha
  have HS := hideR hsp
  have HSG := hideR hs
  clear hF ha hsp hs
  go_enter Tryd.func36, Tryd.ntmps36
  go_wp2
  go_loopw [7] (fun iv wl => ∃ i : Nat, i ≤ L.length ∧ iv = .int .i64 (i : Nat) ∧ HeldR (FOwn wl g L.length (dq L s i)) ∧ HeldR (Chg g w wl)) (fun iv _ => L.length + 1 - (intOf iv).toNat)
  case atStart => exact ⟨0, by omega, rfl, HF, hideR (Chg.refl _ _)⟩
  case round =>
    clear HF
    obtain ⟨i, hi', rfl, HF, HW⟩ := hrel
    by_cases hlt : i < L.length
    · have M1 := drift_ok (unhideR HSG) (unhideR HA i hlt) (unhideR HS i hlt)
      have hgain := fun u => gain_any _ _ _ u M1
      have hgl := (unhideR HF).lt
      have HFI : HeldR (BAt wr g (i * 7) (L.getD i bd0)) := (dq_here L s i) ▸ (unhideR HF).at_ i hlt
      have HNX : HeldR (∀ j, updB (dq L s i) i { dq L s i i with at_ := (L.getD i bd0).at_.add (Cl.mul s (L.getD i bd0).sp) } j = dq L s (i + 1) j) := fun j => by
        rw [dq_here]
        exact dq_next L s i j
      clear M1
      generalize L.getD i bd0 = Fi at *
      go_wp2_with fail
      refine wp_region_made 0 #[true, true, true, true, true, true, true, true, true, true, true, true, true, true, true, true, false] [.lets (· = .slice (some ⟨g, 0, none⟩) L.length cap),
        .lets (· = .int .i64 (i : Nat)),
        .lets (· = .slice (some ⟨g, 0, none⟩) L.length cap),
        .lets (· = .int .i64 (i : Nat)),
        .lets (· = .pointer (some ⟨g, i * 7, none⟩)),
        .lets (· = .pointer (some ⟨g, i * 7, none⟩)),
        .lets (· = .agg #[.int .i64 Fi.at_.x, .int .i64 Fi.at_.y, .int .i64 Fi.at_.z]),
        .lets (· = .int .i64 s),
        .lets (· = .slice (some ⟨g, 0, none⟩) L.length cap),
        .lets (· = .int .i64 (i : Nat)),
        .lets (· = .pointer (some ⟨g, i * 7, none⟩)),
        .lets (· = .pointer (some ⟨g, i * 7 + 3, none⟩)),
        .lets (· = .agg #[.int .i64 Fi.sp.x, .int .i64 Fi.sp.y, .int .i64 Fi.sp.z]),
        .lets (· = (Fi.at_.add (Cl.mul s Fi.sp)).val),
        .lets (· = .pointer (some ⟨g, i * 7, none⟩)),
        .lets (· = .pointer (some ⟨g, i * 7, none⟩))] [] [] (by kernel_rfl) (by kernel_rfl) rfl ?kinds (by kernel_rfl) (by kernel_rfl) (by kernel_rfl) ?_
      case kinds =>
        constructor
        · intro i h
          rcases i with _ | _ | _ | _ | _ | _ | _ | _ | _ | _ | _ | _ | _ | _ | _ | _ | i <;> simp [Kx.isMade] at h
        · intro i h
          rcases i with _ | _ | _ | _ | _ | _ | _ | _ | _ | _ | _ | _ | _ | _ | _ | _ | i <;> simp [Kx.isUse] at h
      refine lexX_step (fun K hK => ⟨by kernel_rfl, ⟨_, rfl⟩, fun v hv => ?_, fun v hv => ?_⟩)
      · go_simp
        exact mUpon_b
      subst hv
      go_simp
      refine hK _ ?_
      clear hK K
      refine lexX_step (fun K hK => ⟨by kernel_rfl, ⟨_, rfl⟩, fun v hv => ?_, fun v hv => ?_⟩)
      · go_simp
        exact mUpon_b
      subst hv
      go_simp
      refine hK _ ?_
      clear hK K
      refine lexX_step (fun K hK => ⟨by kernel_rfl, ⟨_, rfl⟩, fun v hv => ?_, fun v hv => ?_⟩)
      · go_simp
        exact mUpon_b
      subst hv
      go_simp
      refine hK _ ?_
      clear hK K
      refine lexX_step (fun K hK => ⟨by kernel_rfl, ⟨_, rfl⟩, fun v hv => ?_, fun v hv => ?_⟩)
      · go_simp
        exact mUpon_b
      subst hv
      go_simp
      refine hK _ ?_
      clear hK K
      refine lexX_step (fun K hK => ⟨by kernel_rfl, ⟨_, rfl⟩, fun v hv => ?_, fun v hv => ?_⟩)
      · go_simp
        exact mUpon_b
      subst hv
      go_simp
      refine hK _ ?_
      clear hK K
      refine lexX_step (fun K hK => ⟨by kernel_rfl, ⟨_, rfl⟩, fun v hv => ?_, fun v hv => ?_⟩)
      · go_simp
        exact mUpon_b
      subst hv
      go_simp
      refine hK _ ?_
      clear hK K
      refine lexX_step (fun K hK => ⟨by kernel_rfl, ⟨_, rfl⟩, fun v hv => ?_, fun v hv => ?_⟩)
      · obtain ⟨c0, c1, c2, c3, c4, c5, c6⟩ := (unhideR HFI).below hv hgl
        go_simp
        exact mUpon_b
      subst hv
      go_simp
      refine hK _ ?_
      clear hK K
      refine lexX_step (fun K hK => ⟨by kernel_rfl, ⟨_, rfl⟩, fun v hv => ?_, fun v hv => ?_⟩)
      · go_simp
        exact mUpon_b
      subst hv
      go_simp
      refine hK _ ?_
      clear hK K
      refine lexX_step (fun K hK => ⟨by kernel_rfl, ⟨_, rfl⟩, fun v hv => ?_, fun v hv => ?_⟩)
      · go_simp
        exact mUpon_b
      subst hv
      go_simp
      refine hK _ ?_
      clear hK K
      refine lexX_step (fun K hK => ⟨by kernel_rfl, ⟨_, rfl⟩, fun v hv => ?_, fun v hv => ?_⟩)
      · go_simp
        exact mUpon_b
      subst hv
      go_simp
      refine hK _ ?_
      clear hK K
      refine lexX_step (fun K hK => ⟨by kernel_rfl, ⟨_, rfl⟩, fun v hv => ?_, fun v hv => ?_⟩)
      · go_simp
        exact mUpon_b
      subst hv
      go_simp
      refine hK _ ?_
      clear hK K
      refine lexX_step (fun K hK => ⟨by kernel_rfl, ⟨_, rfl⟩, fun v hv => ?_, fun v hv => ?_⟩)
      · go_simp
        exact mUpon_b
      subst hv
      go_simp
      refine hK _ ?_
      clear hK K
      refine lexX_step (fun K hK => ⟨by kernel_rfl, ⟨_, rfl⟩, fun v hv => ?_, fun v hv => ?_⟩)
      · obtain ⟨c0, c1, c2, c3, c4, c5, c6⟩ := (unhideR HFI).below hv hgl
        go_simp
        exact mUpon_b
      subst hv
      go_simp
      refine hK _ ?_
      clear hK K
      refine lexX_step (fun K hK => ⟨by kernel_rfl, ⟨_, rfl⟩, fun v hv => ?_, fun v hv => ?_⟩)
      · go_simp
        refine (hgain _).mono ?_
        rintro e w9 ⟨rfl, k⟩
        exact ⟨_, rfl, rfl, k⟩
      subst hv
      unfold Cl.val
      go_simp
      refine hK _ ?_
      clear hK K
      refine lexX_step (fun K hK => ⟨by kernel_rfl, ⟨_, rfl⟩, fun v hv => ?_, fun v hv => ?_⟩)
      · go_simp
        exact mUpon_b
      subst hv
      go_simp
      refine hK _ ?_
      clear hK K
      refine lexX_step (fun K hK => ⟨by kernel_rfl, ⟨_, rfl⟩, fun v hv => ?_, fun v hv => ?_⟩)
      · go_simp
        exact mUpon_b
      subst hv
      go_simp
      refine hK _ ?_
      clear hK K
      refine lexX_end (fun v hv => ?_)
      have hF := (unhideR HF).below hv.low hgl
      have hat := hF.at_ i hlt
      have c3 := hat.ax
      have c4 := hat.ay
      have c5 := hat.az
      have f3 := hF.free (i * 7)
      have f4 := hF.free (i * 7 + 1)
      have f5 := hF.free (i * 7 + 2)
      have hW := (unhideR HW).go hv.low
      clear hv hat
      refine wpAny_step (i := 16) (by kernel_rfl) rfl (by kernel_rfl) (fun K hK => ?_)
      unfold Oper.wp
      go_simp
      refine hK _ _ ?_
      clear hK K
      refine wpAny_end (by kernel_rfl) ?_
      have HF3 : HeldR (FOwn (((v.setCell ⟨g, i * 7, none⟩ (.int .i64 (Fi.at_.add (Cl.mul s Fi.sp)).x)).setCell ⟨g, i * 7 + 1, none⟩ (.int .i64 (Fi.at_.add (Cl.mul s Fi.sp)).y)).setCell ⟨g, i * 7 + 2, none⟩ (.int .i64 (Fi.at_.add (Cl.mul s Fi.sp)).z)) g L.length (dq L s (i + 1))) := (hF.setAt hlt (Fi.at_.add (Cl.mul s Fi.sp))).congr (fun j _ => unhideR HNX j)
      have HW3 : HeldR (Chg g w (((v.setCell ⟨g, i * 7, none⟩ (.int .i64 (Fi.at_.add (Cl.mul s Fi.sp)).x)).setCell ⟨g, i * 7 + 1, none⟩ (.int .i64 (Fi.at_.add (Cl.mul s Fi.sp)).y)).setCell ⟨g, i * 7 + 2, none⟩ (.int .i64 (Fi.at_.add (Cl.mul s Fi.sp)).z))) := hW.set (Fi.at_.add (Cl.mul s Fi.sp))
      clear hF hW c3 c4 c5 f3 f4 f5 HF HW
      generalize ((v.setCell ⟨g, i * 7, none⟩ (.int .i64 (Fi.at_.add (Cl.mul s Fi.sp)).x)).setCell ⟨g, i * 7 + 1, none⟩ (.int .i64 (Fi.at_.add (Cl.mul s Fi.sp)).y)).setCell ⟨g, i * 7 + 2, none⟩ (.int .i64 (Fi.at_.add (Cl.mul s Fi.sp)).z) = W11 at *
      go_wp2
      exact ⟨⟨i + 1, by omega, by go_num, HF3, HW3⟩, by simp [intOf]; omega⟩
    · obtain rfl : i = L.length := by omega
      have HE : HeldR (FOwn wr g L.length (fun j => (drift s L).getD j bd0)) := (unhideR HF).congr (fun j hj => dq_end hj)
      go_wp2
      simp [bodyPost, results, go_sem]
      exact ⟨unhideR HE, unhideR HW⟩
end Go.Proofs.YtdngkmobkbiflagDoor
