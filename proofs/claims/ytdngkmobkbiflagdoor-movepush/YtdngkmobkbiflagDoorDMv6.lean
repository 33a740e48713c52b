/-
  The program's Push and Middle, by contracts.
-/
import Derived.Test.YtdngkmobkbiflagDoorDMv5
import Derived.Test.YtdngkmobkbiflagDoorMvPush
namespace Go.Proofs.YtdngkmobkbiflagDoor
open Go Go.RowKit

set_option maxRecDepth 100000 in
set_option maxHeartbeats 800000 in
theorem valid_good {v : Value} {L : List Bd} {w : World} (h : BSl w v L) (hG : Good L) : Calls Tryd.prog 13 #[v] w fun e w' => e = .returned .nilIface ∧ Below w.heap.size w w' := by
  obtain ⟨ad, cap, rfl, hr⟩ := h.cut
  have h12 := hG.l
  have HM := hideR (mss_all hG.m)
  have HR := hideR hr
  have hT : (ats L && sps L) = true := by rw [hG.a, hG.s]; rfl
  have HT := hideR hT
  clear hr h hG hT
  go_enter Tryd.func13, Tryd.ntmps13
  go_wp2
  go_loopw [11] (fun kv wl => ∃ k : Nat, k ≤ L.length ∧ kv = .int .i64 (k : Nat) ∧ HeldR (Below w.heap.size w wl)) (fun kv _ => L.length + 1 - (intOf kv).toNat)
  case atStart => exact ⟨0, by omega, rfl, hideR (Below.refl _ _)⟩
  case round =>
    obtain ⟨k, hk, rfl, HW⟩ := hrel
    by_cases hlt : k < L.length
    · obtain ⟨b, off, rfl, hb, hat⟩ := ((unhideR HR).below (unhideR HW)).at_ k hlt
      obtain ⟨c0, c1, c2, c3, c4, c5, c6⟩ := hat
      obtain ⟨hm1, hm2⟩ := unhideR HM k
      generalize L.getD k bd0 = s at *
      have HW2 := fun o => hideR (below_go (unhideR HW) (below_a _ o))
      clear HW
      go_wp2
      exact ⟨⟨k + 1, by omega, by go_num, HW2 _⟩, by simp [intOf]; omega⟩
    · obtain rfl : k = L.length := by omega
      have hlim := inLimits_any ad cap L wr ((unhideR HR).below (unhideR HW)) (by omega)
      rw [unhideR HT] at hlim
      go_wp2_with fail
      refine hlim.mono ?_
      rintro e w1 ⟨rfl, k1⟩
      replace HW := hideR (below_go (unhideR HW) k1)
      clear k1 hlim
      go_wp2
      go_ret
      exact ⟨rfl, unhideR HW⟩
theorem mid_more {L : List Bd} (h : Good L) {k : Nat} (hk : k < L.length) : MoreOk (middleK L k) (L.getD k bd0).m (L.getD k bd0).at_ := by
  have q := middleK_size h k
  have s := good_at h k
  have m := mss_all h.m k
  have hl := h.l
  have a1 := prod36 m.1 m.2 s.x1 s.x2
  have a2 := prod36 m.1 m.2 s.y1 s.y2
  have a3 := prod36 m.1 m.2 s.z1 s.z2
  obtain ⟨q1, q2, q3, q4, q5, q6⟩ := q
  exact ⟨by omega, by omega, by omega, by omega, by omega, by omega⟩
set_option maxHeartbeats 800000 in
theorem pushFn_any (s : Bd) (w : World) : Calls Tryd.prog 30 #[.agg #[.int .i64 s.at_.x, .int .i64 s.at_.y, .int .i64 s.at_.z, .int .i64 s.sp.x, .int .i64 s.sp.y, .int .i64 s.sp.z, .int .i64 s.m]] w fun e w' => e = .returned s.sp.val ∧ Below w.heap.size w w' := by
  go_enter Tryd.func30, Tryd.ntmps30
  go_wp2
  simp [bodyPost, results, Tryd.results30, go_sem]
  exact ⟨rfl, below_al2 w _ _⟩
set_option maxHeartbeats 800000 in
theorem middleFn_any (s : Bd) (w : World) : Calls Tryd.prog 31 #[.agg #[.int .i64 s.at_.x, .int .i64 s.at_.y, .int .i64 s.at_.z, .int .i64 s.sp.x, .int .i64 s.sp.y, .int .i64 s.sp.z, .int .i64 s.m]] w fun e w' => e = .returned s.at_.val ∧ Below w.heap.size w w' := by
  go_enter Tryd.func31, Tryd.ntmps31
  go_wp2
  simp [bodyPost, results, Tryd.results31, go_sem]
  exact ⟨rfl, below_al2 w _ _⟩
set_option maxRecDepth 100000 in
set_option maxHeartbeats 1600000 in
theorem weighed_push {v : Value} {L : List Bd} {w : World} (h : BSl w v L) (hG : Good L) : Calls Tryd.prog 29 #[v, .func (.func 30) #[] #[]] w fun e w' => e = .returned (pushK L L.length).val ∧ Below w.heap.size w w' := by
  have hv := fun u (hu : BSl u v L) => valid_good hu hG
  have HSl := hideR h
  obtain ⟨ad, cap, rfl, hr⟩ := h.cut
  have HR := hideR hr
  have h12 := hG.l
  have HG := hideR hG
  clear hr h hG
  go_enter Tryd.func29, Tryd.ntmps29
  go_wp2_with fail
  refine (hv _ ((unhideR HSl).below (below_al2 w _ _))).mono ?_
  rintro e w1 ⟨rfl, k1⟩
  obtain ⟨b0, b1, k2⟩ := two_blocks k1
  have HRes := hideR b0
  have HB : HeldR (CBox w1 (w.heap.size + 1) (pushK L 0)) := ⟨b1⟩
  have HW := hideR k2
  clear k1 k2 b0 b1 HSl hv
  go_wp2
  go_loopw [15] (fun kv wl => ∃ k : Nat, k ≤ L.length ∧ kv = .int .i64 (k : Nat) ∧ HeldR (wl.heap[w.heap.size]? = some (.cells #[.int .i64 0, .int .i64 0, .int .i64 0] 38)) ∧ HeldR (CBox wl (w.heap.size + 1) (pushK L k)) ∧ HeldR (Below w.heap.size w wl)) (fun kv _ => L.length + 1 - (intOf kv).toNat)
  case atStart => exact ⟨0, by omega, rfl, HRes, HB, HW⟩
  case round =>
    clear HRes HB HW
    obtain ⟨k, hk, rfl, HRes, HB, HW⟩ := hrel
    by_cases hlt : k < L.length
    · obtain ⟨b, off, rfl, hb, hat⟩ := ((unhideR HR).below (unhideR HW)).at_ k hlt
      obtain ⟨c0, c1, c2, c3, c4, c5, c6⟩ := hat
      have M1 := push_more (unhideR HG) hlt
      have hgain := fun u => gain_any _ _ _ u M1
      have HNX : HeldR (pushK L (k + 1) = (pushK L k).add (Cl.mul (L.getD k bd0).m (L.getD k bd0).sp)) := rfl
      have hfn := fun u => pushFn_any (L.getD k bd0) u
      clear M1
      generalize pushK L k = S at *
      generalize L.getD k bd0 = s at *
      go_wp2_with fail
      have HK : HeldR (BAt (wr.alloc (.cells #[.int .i64 s.at_.x, .int .i64 s.at_.y, .int .i64 s.at_.z, .int .i64 s.sp.x, .int .i64 s.sp.y, .int .i64 s.sp.z, .int .i64 s.m] 40)) wr.heap.size 0 s) := bat_blk (alloc_last wr _)
      replace HRes := hideR (keepB (unhideR HRes) (below_a wr (.cells #[.int .i64 s.at_.x, .int .i64 s.at_.y, .int .i64 s.at_.z, .int .i64 s.sp.x, .int .i64 s.sp.y, .int .i64 s.sp.z, .int .i64 s.m] 40)))
      replace HB := hideR ((unhideR HB).go (below_a wr (.cells #[.int .i64 s.at_.x, .int .i64 s.at_.y, .int .i64 s.at_.z, .int .i64 s.sp.x, .int .i64 s.sp.y, .int .i64 s.sp.z, .int .i64 s.m] 40)))
      replace HW := hideR (below_go (unhideR HW) (below_a wr (.cells #[.int .i64 s.at_.x, .int .i64 s.at_.y, .int .i64 s.at_.z, .int .i64 s.sp.x, .int .i64 s.sp.y, .int .i64 s.sp.z, .int .i64 s.m] 40)))
      have hol : wr.heap.size < (wr.alloc (.cells #[.int .i64 s.at_.x, .int .i64 s.at_.y, .int .i64 s.at_.z, .int .i64 s.sp.x, .int .i64 s.sp.y, .int .i64 s.sp.z, .int .i64 s.m] 40)).heap.size := by simp
      clear c0 c1 c2 c3 c4 c5 c6 hb
      generalize wr.alloc (.cells #[.int .i64 s.at_.x, .int .i64 s.at_.y, .int .i64 s.at_.z, .int .i64 s.sp.x, .int .i64 s.sp.y, .int .i64 s.sp.z, .int .i64 s.m] 40) = W at *
      generalize wr.heap.size = o at *
      refine wp_region_made 0 #[true, true, true, true, true, true, true, false] [.lets (· = .agg #[.int .i64 S.x, .int .i64 S.y, .int .i64 S.z]),
        .lets (· = .pointer (some ⟨o, 6, none⟩)),
        .lets (· = .int .i64 s.m),
        .lets (· = .func (.func 30) #[] #[]),
        .lets (· = .agg #[.int .i64 s.at_.x, .int .i64 s.at_.y, .int .i64 s.at_.z, .int .i64 s.sp.x, .int .i64 s.sp.y, .int .i64 s.sp.z, .int .i64 s.m]),
        .lets (· = s.sp.val),
        .lets (· = (S.add (Cl.mul s.m s.sp)).val)] [] [] (by kernel_rfl) (by kernel_rfl) rfl ?kinds (by kernel_rfl) (by kernel_rfl) (by kernel_rfl) ?_
      case kinds =>
        constructor
        · intro i h
          rcases i with _ | _ | _ | _ | _ | _ | _ | i <;> simp [Kx.isMade] at h
        · intro i h
          rcases i with _ | _ | _ | _ | _ | _ | _ | i <;> simp [Kx.isUse] at h
      refine lexX_step (fun K hK => ⟨by kernel_rfl, ⟨_, rfl⟩, fun v hv => ?_, fun v hv => ?_⟩)
      · obtain ⟨⟨c0, c1, c2⟩, _⟩ := cell_at ((unhideR HB).go hv).at_
        go_simp
        exact mUpon_b
      subst hv
      go_simp
      refine hK _ ?_
      clear hK K
      refine lexX_step (fun K hK => ⟨by kernel_rfl, ⟨_, rfl⟩, fun v hv => ?_, fun v hv => ?_⟩)
      · go_simp
        exact mUpon_b
      subst hv
      go_simp
      refine hK _ ?_
      clear hK K
      refine lexX_step (fun K hK => ⟨by kernel_rfl, ⟨_, rfl⟩, fun v hv => ?_, fun v hv => ?_⟩)
      · obtain ⟨c0, c1, c2, c3, c4, c5, c6⟩ := (unhideR HK).below hv hol
        go_simp
        exact mUpon_b
      subst hv
      go_simp
      refine hK _ ?_
      clear hK K
      refine lexX_step (fun K hK => ⟨by kernel_rfl, ⟨_, rfl⟩, fun v hv => ?_, fun v hv => ?_⟩)
      · go_simp
        exact mUpon_b
      subst hv
      go_simp
      refine hK _ ?_
      clear hK K
      refine lexX_step (fun K hK => ⟨by kernel_rfl, ⟨_, rfl⟩, fun v hv => ?_, fun v hv => ?_⟩)
      · obtain ⟨c0, c1, c2, c3, c4, c5, c6⟩ := (unhideR HK).below hv hol
        go_simp
        exact mUpon_b
      subst hv
      go_simp
      refine hK _ ?_
      clear hK K
      refine lexX_step (fun K hK => ⟨by kernel_rfl, ⟨_, rfl⟩, fun v hv => ?_, fun v hv => ?_⟩)
      · go_simp
        refine (hfn _).mono ?_
        rintro e w9 ⟨rfl, k⟩
        exact ⟨_, rfl, rfl, k⟩
      subst hv
      unfold Cl.val
      go_simp
      refine hK _ ?_
      clear hK K
      refine lexX_step (fun K hK => ⟨by kernel_rfl, ⟨_, rfl⟩, fun v hv => ?_, fun v hv => ?_⟩)
      · go_simp
        refine (hgain _).mono ?_
        rintro e w9 ⟨rfl, k⟩
        exact ⟨_, rfl, rfl, k⟩
      subst hv
      unfold Cl.val
      go_simp
      refine hK _ ?_
      clear hK K
      refine lexX_end (fun v hv => ?_)
      have hB := (unhideR HB).go hv.low
      obtain ⟨⟨c0, c1, c2⟩, f0, f1, f2⟩ := cell_at hB.at_
      have hW := below_go (unhideR HW) hv.low
      have hR2 := keepB (unhideR HRes) hv.low
      clear hv
      refine wpAny_step (i := 7) (by kernel_rfl) rfl (by kernel_rfl) (fun K hK => ?_)
      unfold Oper.wp
      go_simp
      refine hK _ _ ?_
      clear hK K
      refine wpAny_end (by kernel_rfl) ?_
      have HB3 : HeldR (CBox (((v.setCell ⟨w.heap.size + 1, 0, none⟩ (.int .i64 (S.add (Cl.mul s.m s.sp)).x)).setCell ⟨w.heap.size + 1, 1, none⟩ (.int .i64 (S.add (Cl.mul s.m s.sp)).y)).setCell ⟨w.heap.size + 1, 2, none⟩ (.int .i64 (S.add (Cl.mul s.m s.sp)).z)) (w.heap.size + 1) (pushK L (k + 1))) := (unhideR HNX) ▸ hB.set (S.add (Cl.mul s.m s.sp))
      have HW3 : HeldR (Below w.heap.size w (((v.setCell ⟨w.heap.size + 1, 0, none⟩ (.int .i64 (S.add (Cl.mul s.m s.sp)).x)).setCell ⟨w.heap.size + 1, 1, none⟩ (.int .i64 (S.add (Cl.mul s.m s.sp)).y)).setCell ⟨w.heap.size + 1, 2, none⟩ (.int .i64 (S.add (Cl.mul s.m s.sp)).z))) := below_three hW (Nat.le_succ _) _ _ _
      have HR3 : HeldR ((((v.setCell ⟨w.heap.size + 1, 0, none⟩ (.int .i64 (S.add (Cl.mul s.m s.sp)).x)).setCell ⟨w.heap.size + 1, 1, none⟩ (.int .i64 (S.add (Cl.mul s.m s.sp)).y)).setCell ⟨w.heap.size + 1, 2, none⟩ (.int .i64 (S.add (Cl.mul s.m s.sp)).z)).heap[w.heap.size]? = some (.cells #[.int .i64 0, .int .i64 0, .int .i64 0] 38)) := (set3_other (by omega)).trans hR2
      clear hB hW hR2 c0 c1 c2 f0 f1 f2 HB HW HRes
      generalize ((v.setCell ⟨w.heap.size + 1, 0, none⟩ (.int .i64 (S.add (Cl.mul s.m s.sp)).x)).setCell ⟨w.heap.size + 1, 1, none⟩ (.int .i64 (S.add (Cl.mul s.m s.sp)).y)).setCell ⟨w.heap.size + 1, 2, none⟩ (.int .i64 (S.add (Cl.mul s.m s.sp)).z) = W11 at *
      go_wp2
      exact ⟨⟨k + 1, by omega, by go_num, HR3, HB3, HW3⟩, by simp [intOf]; omega⟩
    · obtain rfl : k = L.length := by omega
      obtain ⟨⟨c0, c1, c2⟩, _⟩ := cell_at (unhideR HB).at_
      obtain ⟨⟨d0, d1, d2⟩, f0, f1, f2⟩ := cell_at (unhideR HRes)
      generalize hS : pushK L L.length = S at *
      have HS2 := hideR hS
      clear HRes HB hS
      go_wp2
      simp [bodyPost, results, Tryd.results29, go_sem, d0, d1, d2]
      rw [unhideR HS2]
      exact ⟨rfl, below_three (unhideR HW) (Nat.le_refl _) _ _ _⟩
set_option maxRecDepth 100000 in
set_option maxHeartbeats 1600000 in
theorem weighed_middle {v : Value} {L : List Bd} {w : World} (h : BSl w v L) (hG : Good L) : Calls Tryd.prog 29 #[v, .func (.func 31) #[] #[]] w fun e w' => e = .returned (middleK L L.length).val ∧ Below w.heap.size w w' := by
  have hv := fun u (hu : BSl u v L) => valid_good hu hG
  have HSl := hideR h
  obtain ⟨ad, cap, rfl, hr⟩ := h.cut
  have HR := hideR hr
  have h12 := hG.l
  have HG := hideR hG
  clear hr h hG
  go_enter Tryd.func29, Tryd.ntmps29
  go_wp2_with fail
  refine (hv _ ((unhideR HSl).below (below_al2 w _ _))).mono ?_
  rintro e w1 ⟨rfl, k1⟩
  obtain ⟨b0, b1, k2⟩ := two_blocks k1
  have HRes := hideR b0
  have HB : HeldR (CBox w1 (w.heap.size + 1) (middleK L 0)) := ⟨b1⟩
  have HW := hideR k2
  clear k1 k2 b0 b1 HSl hv
  go_wp2
  go_loopw [15] (fun kv wl => ∃ k : Nat, k ≤ L.length ∧ kv = .int .i64 (k : Nat) ∧ HeldR (wl.heap[w.heap.size]? = some (.cells #[.int .i64 0, .int .i64 0, .int .i64 0] 38)) ∧ HeldR (CBox wl (w.heap.size + 1) (middleK L k)) ∧ HeldR (Below w.heap.size w wl)) (fun kv _ => L.length + 1 - (intOf kv).toNat)
  case atStart => exact ⟨0, by omega, rfl, HRes, HB, HW⟩
  case round =>
    clear HRes HB HW
    obtain ⟨k, hk, rfl, HRes, HB, HW⟩ := hrel
    by_cases hlt : k < L.length
    · obtain ⟨b, off, rfl, hb, hat⟩ := ((unhideR HR).below (unhideR HW)).at_ k hlt
      obtain ⟨c0, c1, c2, c3, c4, c5, c6⟩ := hat
      have M1 := mid_more (unhideR HG) hlt
      have hgain := fun u => gain_any _ _ _ u M1
      have HNX : HeldR (middleK L (k + 1) = (middleK L k).add (Cl.mul (L.getD k bd0).m (L.getD k bd0).at_)) := rfl
      have hfn := fun u => middleFn_any (L.getD k bd0) u
      clear M1
      generalize middleK L k = S at *
      generalize L.getD k bd0 = s at *
      go_wp2_with fail
      have HK : HeldR (BAt (wr.alloc (.cells #[.int .i64 s.at_.x, .int .i64 s.at_.y, .int .i64 s.at_.z, .int .i64 s.sp.x, .int .i64 s.sp.y, .int .i64 s.sp.z, .int .i64 s.m] 40)) wr.heap.size 0 s) := bat_blk (alloc_last wr _)
      replace HRes := hideR (keepB (unhideR HRes) (below_a wr (.cells #[.int .i64 s.at_.x, .int .i64 s.at_.y, .int .i64 s.at_.z, .int .i64 s.sp.x, .int .i64 s.sp.y, .int .i64 s.sp.z, .int .i64 s.m] 40)))
      replace HB := hideR ((unhideR HB).go (below_a wr (.cells #[.int .i64 s.at_.x, .int .i64 s.at_.y, .int .i64 s.at_.z, .int .i64 s.sp.x, .int .i64 s.sp.y, .int .i64 s.sp.z, .int .i64 s.m] 40)))
      replace HW := hideR (below_go (unhideR HW) (below_a wr (.cells #[.int .i64 s.at_.x, .int .i64 s.at_.y, .int .i64 s.at_.z, .int .i64 s.sp.x, .int .i64 s.sp.y, .int .i64 s.sp.z, .int .i64 s.m] 40)))
      have hol : wr.heap.size < (wr.alloc (.cells #[.int .i64 s.at_.x, .int .i64 s.at_.y, .int .i64 s.at_.z, .int .i64 s.sp.x, .int .i64 s.sp.y, .int .i64 s.sp.z, .int .i64 s.m] 40)).heap.size := by simp
      clear c0 c1 c2 c3 c4 c5 c6 hb
      generalize wr.alloc (.cells #[.int .i64 s.at_.x, .int .i64 s.at_.y, .int .i64 s.at_.z, .int .i64 s.sp.x, .int .i64 s.sp.y, .int .i64 s.sp.z, .int .i64 s.m] 40) = W at *
      generalize wr.heap.size = o at *
      refine wp_region_made 0 #[true, true, true, true, true, true, true, false] [.lets (· = .agg #[.int .i64 S.x, .int .i64 S.y, .int .i64 S.z]),
        .lets (· = .pointer (some ⟨o, 6, none⟩)),
        .lets (· = .int .i64 s.m),
        .lets (· = .func (.func 31) #[] #[]),
        .lets (· = .agg #[.int .i64 s.at_.x, .int .i64 s.at_.y, .int .i64 s.at_.z, .int .i64 s.sp.x, .int .i64 s.sp.y, .int .i64 s.sp.z, .int .i64 s.m]),
        .lets (· = s.at_.val),
        .lets (· = (S.add (Cl.mul s.m s.at_)).val)] [] [] (by kernel_rfl) (by kernel_rfl) rfl ?kinds (by kernel_rfl) (by kernel_rfl) (by kernel_rfl) ?_
      case kinds =>
        constructor
        · intro i h
          rcases i with _ | _ | _ | _ | _ | _ | _ | i <;> simp [Kx.isMade] at h
        · intro i h
          rcases i with _ | _ | _ | _ | _ | _ | _ | i <;> simp [Kx.isUse] at h
      refine lexX_step (fun K hK => ⟨by kernel_rfl, ⟨_, rfl⟩, fun v hv => ?_, fun v hv => ?_⟩)
      · obtain ⟨⟨c0, c1, c2⟩, _⟩ := cell_at ((unhideR HB).go hv).at_
        go_simp
        exact mUpon_b
      subst hv
      go_simp
      refine hK _ ?_
      clear hK K
      refine lexX_step (fun K hK => ⟨by kernel_rfl, ⟨_, rfl⟩, fun v hv => ?_, fun v hv => ?_⟩)
      · go_simp
        exact mUpon_b
      subst hv
      go_simp
      refine hK _ ?_
      clear hK K
      refine lexX_step (fun K hK => ⟨by kernel_rfl, ⟨_, rfl⟩, fun v hv => ?_, fun v hv => ?_⟩)
      · obtain ⟨c0, c1, c2, c3, c4, c5, c6⟩ := (unhideR HK).below hv hol
        go_simp
        exact mUpon_b
      subst hv
      go_simp
      refine hK _ ?_
      clear hK K
      refine lexX_step (fun K hK => ⟨by kernel_rfl, ⟨_, rfl⟩, fun v hv => ?_, fun v hv => ?_⟩)
      · go_simp
        exact mUpon_b
      subst hv
      go_simp
      refine hK _ ?_
      clear hK K
      refine lexX_step (fun K hK => ⟨by kernel_rfl, ⟨_, rfl⟩, fun v hv => ?_, fun v hv => ?_⟩)
      · obtain ⟨c0, c1, c2, c3, c4, c5, c6⟩ := (unhideR HK).below hv hol
        go_simp
        exact mUpon_b
      subst hv
      go_simp
      refine hK _ ?_
      clear hK K
      refine lexX_step (fun K hK => ⟨by kernel_rfl, ⟨_, rfl⟩, fun v hv => ?_, fun v hv => ?_⟩)
      · go_simp
        refine (hfn _).mono ?_
        rintro e w9 ⟨rfl, k⟩
        exact ⟨_, rfl, rfl, k⟩
      subst hv
      unfold Cl.val
      go_simp
      refine hK _ ?_
      clear hK K
      refine lexX_step (fun K hK => ⟨by kernel_rfl, ⟨_, rfl⟩, fun v hv => ?_, fun v hv => ?_⟩)
      · go_simp
        refine (hgain _).mono ?_
        rintro e w9 ⟨rfl, k⟩
        exact ⟨_, rfl, rfl, k⟩
      subst hv
      unfold Cl.val
      go_simp
      refine hK _ ?_
      clear hK K
      refine lexX_end (fun v hv => ?_)
      have hB := (unhideR HB).go hv.low
      obtain ⟨⟨c0, c1, c2⟩, f0, f1, f2⟩ := cell_at hB.at_
      have hW := below_go (unhideR HW) hv.low
      have hR2 := keepB (unhideR HRes) hv.low
      clear hv
      refine wpAny_step (i := 7) (by kernel_rfl) rfl (by kernel_rfl) (fun K hK => ?_)
      unfold Oper.wp
      go_simp
      refine hK _ _ ?_
      clear hK K
      refine wpAny_end (by kernel_rfl) ?_
      have HB3 : HeldR (CBox (((v.setCell ⟨w.heap.size + 1, 0, none⟩ (.int .i64 (S.add (Cl.mul s.m s.at_)).x)).setCell ⟨w.heap.size + 1, 1, none⟩ (.int .i64 (S.add (Cl.mul s.m s.at_)).y)).setCell ⟨w.heap.size + 1, 2, none⟩ (.int .i64 (S.add (Cl.mul s.m s.at_)).z)) (w.heap.size + 1) (middleK L (k + 1))) := (unhideR HNX) ▸ hB.set (S.add (Cl.mul s.m s.at_))
      have HW3 : HeldR (Below w.heap.size w (((v.setCell ⟨w.heap.size + 1, 0, none⟩ (.int .i64 (S.add (Cl.mul s.m s.at_)).x)).setCell ⟨w.heap.size + 1, 1, none⟩ (.int .i64 (S.add (Cl.mul s.m s.at_)).y)).setCell ⟨w.heap.size + 1, 2, none⟩ (.int .i64 (S.add (Cl.mul s.m s.at_)).z))) := below_three hW (Nat.le_succ _) _ _ _
      have HR3 : HeldR ((((v.setCell ⟨w.heap.size + 1, 0, none⟩ (.int .i64 (S.add (Cl.mul s.m s.at_)).x)).setCell ⟨w.heap.size + 1, 1, none⟩ (.int .i64 (S.add (Cl.mul s.m s.at_)).y)).setCell ⟨w.heap.size + 1, 2, none⟩ (.int .i64 (S.add (Cl.mul s.m s.at_)).z)).heap[w.heap.size]? = some (.cells #[.int .i64 0, .int .i64 0, .int .i64 0] 38)) := (set3_other (by omega)).trans hR2
      clear hB hW hR2 c0 c1 c2 f0 f1 f2 HB HW HRes
      generalize ((v.setCell ⟨w.heap.size + 1, 0, none⟩ (.int .i64 (S.add (Cl.mul s.m s.at_)).x)).setCell ⟨w.heap.size + 1, 1, none⟩ (.int .i64 (S.add (Cl.mul s.m s.at_)).y)).setCell ⟨w.heap.size + 1, 2, none⟩ (.int .i64 (S.add (Cl.mul s.m s.at_)).z) = W11 at *
      go_wp2
      exact ⟨⟨k + 1, by omega, by go_num, HR3, HB3, HW3⟩, by simp [intOf]; omega⟩
    · obtain rfl : k = L.length := by omega
      obtain ⟨⟨c0, c1, c2⟩, _⟩ := cell_at (unhideR HB).at_
      obtain ⟨⟨d0, d1, d2⟩, f0, f1, f2⟩ := cell_at (unhideR HRes)
      generalize hS : middleK L L.length = S at *
      have HS2 := hideR hS
      clear HRes HB hS
      go_wp2
      simp [bodyPost, results, Tryd.results29, go_sem, d0, d1, d2]
      rw [unhideR HS2]
      exact ⟨rfl, below_three (unhideR HW) (Nat.le_refl _) _ _ _⟩
set_option maxHeartbeats 800000 in
theorem push_ok : PushOK := by
  intro v L w h hl hG
  have hw := fun u (hu : BSl u v L) => weighed_push hu hG
  have HSl := hideR h
  have e : pushV L = pushK L L.length := rfl
  rw [e]
  generalize pushK L L.length = S at *
  clear h hG e
  unfold Cl.val at hw ⊢
  go_enter Tryd.func16, Tryd.ntmps16
  go_wp2_with fail
  refine (hw _ ((unhideR HSl).below (below_a w _))).mono ?_
  rintro e w1 ⟨rfl, k1⟩
  have b0 := keepB (alloc_last w _) k1
  obtain ⟨⟨d0, d1, d2⟩, f0, f1, f2⟩ := cell_at b0
  have HW := hideR (below_go (below_a w _) k1)
  clear k1 b0 hw
  go_wp2
  simp [bodyPost, results, Tryd.results16, go_sem, d0, d1, d2]
  exact below_three (unhideR HW) (Nat.le_refl _) _ _ _
set_option maxHeartbeats 800000 in
theorem middle_ok : MiddleOK := by
  intro v L w h hl hG
  have hw := fun u (hu : BSl u v L) => weighed_middle hu hG
  have HSl := hideR h
  have e : middleV L = middleK L L.length := rfl
  rw [e]
  generalize middleK L L.length = S at *
  clear h hG e
  unfold Cl.val at hw ⊢
  go_enter Tryd.func17, Tryd.ntmps17
  go_wp2_with fail
  refine (hw _ ((unhideR HSl).below (below_a w _))).mono ?_
  rintro e w1 ⟨rfl, k1⟩
  have b0 := keepB (alloc_last w _) k1
  obtain ⟨⟨d0, d1, d2⟩, f0, f1, f2⟩ := cell_at b0
  have HW := hideR (below_go (below_a w _) k1)
  clear k1 b0 hw
  go_wp2
  simp [bodyPost, results, Tryd.results17, go_sem, d0, d1, d2]
  exact below_three (unhideR HW) (Nat.le_refl _) _ _ _
end Go.Proofs.YtdngkmobkbiflagDoor
