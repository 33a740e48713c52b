/-
  The law EventSpans: its walk, out of the program's calls by their contracts.
-/
import Derived.Test.YthhhomlgcefalahDoorEvSpP
import Derived.Test.YthhhomlgcefalahDoorEvIc
namespace Go.Proofs.YthhhomlgcefalahDoor
open Go Go.RowKit

theorem sp_first : spE [⟨0, 2⟩] [⟨2, 3⟩] = 0 := by decide +kernel
theorem one_came {w : World} {b : Nat} {s : Spn} {ty : TypeId} (h : w.heap[b]? = some (.cells #[.int .i64 s.f, .int .i64 s.t] ty)) : SpCame w (some ⟨b, 0, none⟩) [s] := ⟨fun k hk => by
  obtain rfl : k = 0 := by simpa using hk
  exact ⟨b, 0, rfl, ltB h, ⟨(cells_at h 0 (by simp)).1, (cells_at h 1 (by simp)).1⟩⟩⟩
set_option maxRecDepth 100000 in
set_option maxHeartbeats 6400000 in
theorem spans_walk {a : Nat → Addr} (hBo : SpansOK a 15 (fun x y => x && y)) (hEi : SpansOK a 14 (fun x y => x || y)) (hBu : SpansOK a 17 (fun x y => x && !y)) (hLo : LongOK a)
    (ad1 ad2 : Option Addr) (c1 c2 : Nat) (A B : List Spn) (w : World) (hS : Sents w a) (hA : SpCame w ad1 A) (hB : SpCame w ad2 B) (lA : A.length * 16 ≤ 140737488355328) (lB : B.length * 16 ≤ 140737488355328) :
    Calls Tryd.prog 4 #[.slice ad1 A.length c1, .slice ad2 B.length c2] w fun e w' => e = .returned (.bool true) ∧ Below w.heap.size w w' := by
  obtain ⟨i0, hi, hz0, hz1, hz2⟩ := info_parts infoI
  have HS := hideR hS
  have HA := hideR hA
  have HB := hideR hB
  have hfi := hEi (some ⟨w.heap.size, 0, none⟩) (some ⟨w.heap.size + 1, 0, none⟩) 1 1 [⟨0, 2⟩] [⟨2, 3⟩] ((w.alloc (.cells #[.int .i64 0, .int .i64 2] 40)).alloc (.cells #[.int .i64 2, .int .i64 3] 40)) (hS.below (below_al2 w _ _) (Nat.le_refl _)) (one_came (two_blocks (Below.refl _ _)).1) (one_came (two_blocks (Below.refl _ _)).2.1) (by decide) (by decide)
  rw [sp_first] at hfi
  clear hS hA hB
  go_enter Tryd.func4, Tryd.ntmps4
  go_wp2_with fail
  refine hfi.mono ?_
  rintro e w1 ⟨x, X, ad, cap, rfl, hx, _, hX, hcm, k1⟩
  obtain ⟨hr, _, hm⟩ := hX trivial
  obtain rfl := one_span hr hm
  obtain rfl : x = .nilIface := by
    rcases hx with ⟨_, h⟩ | ⟨k, _, h, _⟩
    · exact h
    · omega
  obtain ⟨b, off, rfl, _, hat⟩ := hcm.at_ 0 (by decide)
  have e1 : w1.cell? ⟨b, off + 1, none⟩ = some (.int .i64 3) := hat.c1
  have HW := hideR (below_go (below_al2 w _ _) k1)
  clear hat hcm hX hx k1 hfi hr hm
  by_cases tA : 60 < A.length ∧ A.length ≤ 4000
  · obtain ⟨t1, t2⟩ := tA
    go_wp2
    all_goals
      go_ret
      exact ⟨rfl, unhideR HW⟩
  by_cases tB : 60 < B.length ∧ B.length ≤ 4000
  · obtain ⟨t1, t2⟩ := tB
    have tA' : A.length ≤ 60 ∨ 4000 < A.length := by omega
    rcases tA' with tA' | tA'
    all_goals
      go_wp2
      all_goals
        go_ret
        exact ⟨rfl, unhideR HW⟩
  have HTA : HeldR (A.length ≤ 60 ∨ 4000 < A.length) := by unfold HeldR; omega
  have HTB : HeldR (B.length ≤ 60 ∨ 4000 < B.length) := by unfold HeldR; omega
  have cA : (decide (60 < A.length) && decide (A.length ≤ 4000)) = false := by
    rw [← Bool.decide_and]
    exact decide_eq_false tA
  have cB : (decide (60 < B.length) && decide (B.length ≤ 4000)) = false := by
    rw [← Bool.decide_and]
    exact decide_eq_false tB
  have hsa := fun u (hu : SpCame u ad1 A) => spans_any ad1 c1 A u hu lA
  have hsb := fun u (hu : SpCame u ad2 B) => spans_any ad2 c2 B u hu lB
  have HBo := hideR hBo
  have HEi := hideR hEi
  have HBu := hideR hBu
  have HLo := hideR hLo
  clear hBo hEi hBu hLo
  have HG : HeldR (∀ E, E = spE A B → (E = 0 ∨ 0 < E)) := fun E e => by
    rcases spE_range A B with q | q | q <;> omega
  rcases unhideR HTA with uA | uA <;> rcases unhideR HTB with uB | uB
  all_goals
    go_wp2_with fail
    refine (hsa _ ((unhideR HA).below (unhideR HW))).mono ?_
    rintro e puw ⟨pud, puc, rfl, puh, puk⟩
    replace HW := hideR (below_go (unhideR HW) puk)
    clear puk
    go_wp2_with fail
    refine (hsb _ ((unhideR HB).below (unhideR HW))).mono ?_
    rintro e quw ⟨qud, quc, rfl, quh, quk⟩
    replace HW := hideR (below_go (unhideR HW) quk)
    have Hu0 := hideR (puh.below quk)
    have Hu1 := hideR quh
    clear quk puh quh
    have hcu := unhideR HBo pud qud puc quc A B _ ((unhideR HS).below (unhideR HW) (Nat.le_refl _)) (unhideR Hu0) (unhideR Hu1) lA lB
    clear Hu0 Hu1
    go_wp2_with fail
    refine hcu.mono ?_
    rintro e uw ⟨xu, XU, du, cu, rfl, hxu, hnu, hpu, hmu, ku⟩
    have HEu := hideR hxu
    have HNu := hideR hnu
    have HPu := hideR hpu
    replace HW := hideR (below_go (unhideR HW) ku)
    have HMu := hideR hmu
    clear hxu hnu hpu hmu ku hcu
    go_wp2_with fail
    refine (hsa _ ((unhideR HA).below (unhideR HW))).mono ?_
    rintro e pvw ⟨pvd, pvc, rfl, pvh, pvk⟩
    replace HMu := hideR ((unhideR HMu).below pvk)
    replace HW := hideR (below_go (unhideR HW) pvk)
    clear pvk
    go_wp2_with fail
    refine (hsb _ ((unhideR HB).below (unhideR HW))).mono ?_
    rintro e qvw ⟨qvd, qvc, rfl, qvh, qvk⟩
    replace HMu := hideR ((unhideR HMu).below qvk)
    replace HW := hideR (below_go (unhideR HW) qvk)
    have Hv0 := hideR (pvh.below qvk)
    have Hv1 := hideR qvh
    clear qvk pvh qvh
    have hcv := unhideR HEi pvd qvd pvc qvc A B _ ((unhideR HS).below (unhideR HW) (Nat.le_refl _)) (unhideR Hv0) (unhideR Hv1) lA lB
    clear Hv0 Hv1
    go_wp2_with fail
    refine hcv.mono ?_
    rintro e vw ⟨xv, XV, dv, cv, rfl, hxv, hnv, hpv, hmv, kv⟩
    have HEv := hideR hxv
    have HNv := hideR hnv
    have HPv := hideR hpv
    replace HMu := hideR ((unhideR HMu).below kv)
    replace HW := hideR (below_go (unhideR HW) kv)
    have HMv := hideR hmv
    clear hxv hnv hpv hmv kv hcv
    go_wp2_with fail
    refine (hsa _ ((unhideR HA).below (unhideR HW))).mono ?_
    rintro e pzw ⟨pzd, pzc, rfl, pzh, pzk⟩
    replace HMu := hideR ((unhideR HMu).below pzk)
    replace HMv := hideR ((unhideR HMv).below pzk)
    replace HW := hideR (below_go (unhideR HW) pzk)
    clear pzk
    go_wp2_with fail
    refine (hsb _ ((unhideR HB).below (unhideR HW))).mono ?_
    rintro e qzw ⟨qzd, qzc, rfl, qzh, qzk⟩
    replace HMu := hideR ((unhideR HMu).below qzk)
    replace HMv := hideR ((unhideR HMv).below qzk)
    replace HW := hideR (below_go (unhideR HW) qzk)
    have Hz0 := hideR (pzh.below qzk)
    have Hz1 := hideR qzh
    clear qzk pzh qzh
    have hcz := unhideR HBu pzd qzd pzc qzc A B _ ((unhideR HS).below (unhideR HW) (Nat.le_refl _)) (unhideR Hz0) (unhideR Hz1) lA lB
    clear Hz0 Hz1
    go_wp2_with fail
    refine hcz.mono ?_
    rintro e zw ⟨xz, XZ, dz, cz, rfl, hxz, hnz, hpz, hmz, kz⟩
    have HEz := hideR hxz
    have HNz := hideR hnz
    have HPz := hideR hpz
    replace HMu := hideR ((unhideR HMu).below kz)
    replace HMv := hideR ((unhideR HMv).below kz)
    replace HW := hideR (below_go (unhideR HW) kz)
    have HMz := hideR hmz
    clear hxz hnz hpz hmz kz hcz
    go_wp2_with fail
    refine (hsa _ ((unhideR HA).below (unhideR HW))).mono ?_
    rintro e lw ⟨ld, lc, rfl, lh, lk⟩
    replace HMu := hideR ((unhideR HMu).below lk)
    replace HMv := hideR ((unhideR HMv).below lk)
    replace HMz := hideR ((unhideR HMz).below lk)
    replace HW := hideR (below_go (unhideR HW) lk)
    have HLh := hideR lh
    clear lk lh
    have hcl := unhideR HLo ld lc A _ ((unhideR HS).below (unhideR HW) (Nat.le_refl _)) (unhideR HLh) lA
    clear HLh
    go_wp2_with fail
    refine hcl.mono ?_
    rintro e w7 ⟨nl, xl, rfl, hxl, hnl, kl⟩
    have HEl := hideR hxl
    have HNl := hideR hnl
    replace HMu := hideR ((unhideR HMu).below kl)
    replace HMv := hideR ((unhideR HMv).below kl)
    replace HMz := hideR ((unhideR HMz).below kl)
    replace HW := hideR (below_go (unhideR HW) kl)
    clear hxl hnl kl hcl
    have hse := spansError_any ad1 ad2 c1 c2 A B _ ((unhideR HA).below (unhideR HW)) ((unhideR HB).below (unhideR HW)) (by omega) (by omega)
    go_wp2_with fail
    refine hse.mono ?_
    rintro e w8 ⟨rfl, k8⟩
    replace HMu := hideR ((unhideR HMu).below k8)
    replace HMv := hideR ((unhideR HMv).below k8)
    replace HMz := hideR ((unhideR HMz).below k8)
    replace HW := hideR (below_go (unhideR HW) k8)
    clear k8 hse
    have hse := spansError_any ad1 none c1 0 A [] _ ((unhideR HA).below (unhideR HW)) (SpCame.nil _ _) (by omega) (by simp)
    go_wp2_with fail
    refine hse.mono ?_
    rintro e w9 ⟨rfl, k9⟩
    replace HMu := hideR ((unhideR HMu).below k9)
    replace HMv := hideR ((unhideR HMv).below k9)
    replace HMz := hideR ((unhideR HMz).below k9)
    replace HW := hideR (below_go (unhideR HW) k9)
    clear k9 hse
    have hco := coded_err ((unhideR HS).below (unhideR HW) (Nat.le_refl _)) (unhideR HEu)
    go_wp2_with fail
    refine hco.mono ?_
    rintro e wu9 ⟨rfl, kk⟩
    replace HMu := hideR ((unhideR HMu).below kk)
    replace HMv := hideR ((unhideR HMv).below kk)
    replace HMz := hideR ((unhideR HMz).below kk)
    replace HW := hideR (below_go (unhideR HW) kk)
    clear kk hco
    have hco := coded_err ((unhideR HS).below (unhideR HW) (Nat.le_refl _)) (unhideR HEv)
    go_wp2_with fail
    refine hco.mono ?_
    rintro e wv9 ⟨rfl, kk⟩
    replace HMu := hideR ((unhideR HMu).below kk)
    replace HMv := hideR ((unhideR HMv).below kk)
    replace HMz := hideR ((unhideR HMz).below kk)
    replace HW := hideR (below_go (unhideR HW) kk)
    clear kk hco
    have hco := coded_err ((unhideR HS).below (unhideR HW) (Nat.le_refl _)) (unhideR HEz)
    go_wp2_with fail
    refine hco.mono ?_
    rintro e wz9 ⟨rfl, kk⟩
    replace HMu := hideR ((unhideR HMu).below kk)
    replace HMv := hideR ((unhideR HMv).below kk)
    replace HMz := hideR ((unhideR HMz).below kk)
    replace HW := hideR (below_go (unhideR HW) kk)
    clear kk hco
    have hco := coded_err ((unhideR HS).below (unhideR HW) (Nat.le_refl _)) (unhideR HEl)
    go_wp2_with fail
    refine hco.mono ?_
    rintro e wl9 ⟨rfl, kk⟩
    replace HMu := hideR ((unhideR HMu).below kk)
    replace HMv := hideR ((unhideR HMv).below kk)
    replace HMz := hideR ((unhideR HMz).below kk)
    replace HW := hideR (below_go (unhideR HW) kk)
    clear kk hco
    by_cases hz : spE A B = 0
    case' neg =>
      obtain rfl := unhideR HNu hz
      obtain rfl := unhideR HNv hz
      obtain rfl := unhideR HNz hz
      have hpos : 0 < spE A B := by
        rcases spE_range A B with q | q | q
        · exact absurd q hz
        · omega
        · omega
      generalize spE A B = E at *
      go_wp2
      go_ret
      exact ⟨rfl, unhideR HW⟩
    case' pos => try (exfalso; have q := spE_alone hz; omega)
  obtain ⟨hzA, nA, nB, rA, rB⟩ := spE_alone hz
  obtain ⟨ru, lu, mu⟩ := unhideR HPu hz
  obtain ⟨rv, lv, mv⟩ := unhideR HPv hz
  obtain ⟨rz, lz, mz⟩ := unhideR HPz hz
  have hnl := unhideR HNl hzA
  rw [hz]
  have hri := right_any du cu XU _ (unhideR HMu) (by omega) ru
  go_wp2_with fail
  refine hri.mono ?_
  rintro e wru ⟨rfl, kk⟩
  replace HMu := hideR ((unhideR HMu).below kk)
  replace HMv := hideR ((unhideR HMv).below kk)
  replace HMz := hideR ((unhideR HMz).below kk)
  replace HW := hideR (below_go (unhideR HW) kk)
  clear kk hri
  have hri := right_any dv cv XV _ (unhideR HMv) (by omega) rv
  go_wp2_with fail
  refine hri.mono ?_
  rintro e wrv ⟨rfl, kk⟩
  replace HMu := hideR ((unhideR HMu).below kk)
  replace HMv := hideR ((unhideR HMv).below kk)
  replace HMz := hideR ((unhideR HMz).below kk)
  replace HW := hideR (below_go (unhideR HW) kk)
  clear kk hri
  have hri := right_any dz cz XZ _ (unhideR HMz) (by omega) rz
  go_wp2_with fail
  refine hri.mono ?_
  rintro e wrz ⟨rfl, kk⟩
  replace HMu := hideR ((unhideR HMu).below kk)
  replace HMv := hideR ((unhideR HMv).below kk)
  replace HMz := hideR ((unhideR HMz).below kk)
  replace HW := hideR (below_go (unhideR HW) kk)
  clear kk hri
  have HRA := hideR rA
  have HRB := hideR rB
  have HmU := hideR mu
  have HmV := hideR mv
  have HmZ := hideR mz
  have HnL := hideR hnl
  clear hnl rA rB mu mv mz hzA hz ru rv rz HPu HPv HPz HNu HNv HNz HNl HEu HEv HEz HEl HG tA tB cA cB e1
  go_wp2
  go_loopw [20, 21, 22] (fun lv av iv wl => ∃ (k : Nat) (Y : List Int), k ≤ A.length ∧ iv = .int .i64 (k : Nat) ∧ lv = .int .i64 (longK A k) ∧ HeldR (Y.length = 4 * k) ∧ HeldR (wl.ownsRow wrz.heap.size 3 1 av Y.length (Y.map (Value.int .i64))) ∧ HeldR (Below wrz.heap.size wrz wl)) (fun _ _ iv _ => A.length + 1 - (intOf iv).toNat)
  case atStart => exact ⟨0, [], by omega, rfl, rfl, hideR rfl, World.ownsRow_nil _ _ _ _, hideR (Below.refl _ _)⟩
  case round =>
    obtain ⟨k, Y, hk, rfl, rfl, HY, HO, HK2⟩ := hrel
    by_cases hlt : k < A.length
    · obtain ⟨b2, o2, rfl, hb2', hat⟩ := (((unhideR HA).below (unhideR HW)).below (unhideR HK2)).at_ k hlt
      have hri := right_in (unhideR HRA) hlt
      have hln := long_in (unhideR HRA) k hlt
      have HLN : HeldR (longK A (k + 1) = longK A k + ((A.getD k sp0).t - (A.getD k sp0).f)) := rfl
      have HK := hideR hat
      obtain ⟨c0, c1'⟩ := hat
      generalize A.getD k sp0 = s at *
      generalize longK A k = LG at *
      have w1' : IntKind.i64.wrap (LG + s.t) = LG + s.t := iwrap (by omega) (by omega)
      have w2' : IntKind.i64.wrap (LG + s.t - s.f) = LG + s.t - s.f := iwrap (by omega) (by omega)
      have w3' : IntKind.i64.wrap (s.f - 1) = s.f - 1 := iwrap (by omega) (by omega)
      have w4' : IntKind.i64.wrap (s.t - 1) = s.t - 1 := iwrap (by omega) (by omega)
      go_wp2_with fail
      refine wp_region_lets [(· = .int .i64 LG),
        (· = .slice (some ⟨b2, o2, none⟩) A.length c1),
        (· = .int .i64 (k : Nat)),
        (· = .pointer (some ⟨b2, o2 + k * 2, none⟩)),
        (· = .pointer (some ⟨b2, o2 + k * 2 + 1, none⟩)),
        (· = .int .i64 s.t),
        (· = .int .i64 (LG + s.t)),
        (· = .slice (some ⟨b2, o2, none⟩) A.length c1),
        (· = .int .i64 (k : Nat)),
        (· = .pointer (some ⟨b2, o2 + k * 2, none⟩)),
        (· = .pointer (some ⟨b2, o2 + k * 2, none⟩)),
        (· = .int .i64 s.f),
        (· = .int .i64 (LG + s.t - s.f)),
        (· = .int .i64 (LG + s.t - s.f))] (by kernel_rfl) (by kernel_rfl) ?_
      refine lexL_step (fun K hK => ⟨by kernel_rfl, ⟨_, rfl⟩, fun n => ?_, fun v hv => ?_⟩)
      · go_simp
        exact lUpon_one
      subst hv
      go_simp
      refine hK _ ?_
      clear hK K
      refine lexL_step (fun K hK => ⟨by kernel_rfl, ⟨_, rfl⟩, fun n => ?_, fun v hv => ?_⟩)
      · go_simp
        exact lUpon_one
      subst hv
      go_simp
      refine hK _ ?_
      clear hK K
      refine lexL_step (fun K hK => ⟨by kernel_rfl, ⟨_, rfl⟩, fun n => ?_, fun v hv => ?_⟩)
      · go_simp
        exact lUpon_one
      subst hv
      go_simp
      refine hK _ ?_
      clear hK K
      refine lexL_step (fun K hK => ⟨by kernel_rfl, ⟨_, rfl⟩, fun n => ?_, fun v hv => ?_⟩)
      · go_simp
        exact lUpon_one
      subst hv
      go_simp
      refine hK _ ?_
      clear hK K
      refine lexL_step (fun K hK => ⟨by kernel_rfl, ⟨_, rfl⟩, fun n => ?_, fun v hv => ?_⟩)
      · go_simp
        exact lUpon_one
      subst hv
      go_simp
      refine hK _ ?_
      clear hK K
      refine lexL_step (fun K hK => ⟨by kernel_rfl, ⟨_, rfl⟩, fun n => ?_, fun v hv => ?_⟩)
      · go_simp
        exact lUpon_one
      subst hv
      go_simp
      refine hK _ ?_
      clear hK K
      refine lexL_step (fun K hK => ⟨by kernel_rfl, ⟨_, rfl⟩, fun n => ?_, fun v hv => ?_⟩)
      · go_simp
        exact lUpon_one
      subst hv
      go_simp
      refine hK _ ?_
      clear hK K
      refine lexL_step (fun K hK => ⟨by kernel_rfl, ⟨_, rfl⟩, fun n => ?_, fun v hv => ?_⟩)
      · go_simp
        exact lUpon_one
      subst hv
      go_simp
      refine hK _ ?_
      clear hK K
      refine lexL_step (fun K hK => ⟨by kernel_rfl, ⟨_, rfl⟩, fun n => ?_, fun v hv => ?_⟩)
      · go_simp
        exact lUpon_one
      subst hv
      go_simp
      refine hK _ ?_
      clear hK K
      refine lexL_step (fun K hK => ⟨by kernel_rfl, ⟨_, rfl⟩, fun n => ?_, fun v hv => ?_⟩)
      · go_simp
        exact lUpon_one
      subst hv
      go_simp
      refine hK _ ?_
      clear hK K
      refine lexL_step (fun K hK => ⟨by kernel_rfl, ⟨_, rfl⟩, fun n => ?_, fun v hv => ?_⟩)
      · go_simp
        exact lUpon_one
      subst hv
      go_simp
      refine hK _ ?_
      clear hK K
      refine lexL_step (fun K hK => ⟨by kernel_rfl, ⟨_, rfl⟩, fun n => ?_, fun v hv => ?_⟩)
      · go_simp
        exact lUpon_one
      subst hv
      go_simp
      refine hK _ ?_
      clear hK K
      refine lexL_step (fun K hK => ⟨by kernel_rfl, ⟨_, rfl⟩, fun n => ?_, fun v hv => ?_⟩)
      · go_simp
        exact lUpon_one
      subst hv
      go_simp
      refine hK _ ?_
      clear hK K
      refine lexL_step (fun K hK => ⟨by kernel_rfl, ⟨_, rfl⟩, fun n => ?_, fun v hv => ?_⟩)
      · go_simp
        exact lUpon_one
      subst hv
      go_simp
      refine hK _ ?_
      clear hK K
      refine lexL_end ?_
      intro n9
      have hbW := drawn_below wr n9
      replace HK := hideR ((unhideR HK).below hbW hb2')
      have hb2 : b2 < (wr.drewN n9).heap.size := hb2'
      replace HO := hideR (own_below2 (unhideR HO) hbW)
      replace HK2 := hideR (below_go (unhideR HK2) hbW)
      clear c0 c1'
      generalize wr.drewN n9 = W9 at *
      clear hbW hb2'
      go_wp2_with fail
      refine wp_region_made 1 #[true, true, true, true, true, true, true, true, true, true, true, true, true, true, true, true, true, true, true, true, true, true, true, true, false, false] [.lets (· = u21),
        .lets (· = .slice (some ⟨b2, o2, none⟩) A.length c1),
        .lets (· = .int .i64 (k : Nat)),
        .lets (· = .pointer (some ⟨b2, o2 + k * 2, none⟩)),
        .lets (· = .pointer (some ⟨b2, o2 + k * 2, none⟩)),
        .lets (· = .int .i64 s.f),
        .lets (· = .int .i64 (s.f - 1)),
        .lets (· = .slice (some ⟨b2, o2, none⟩) A.length c1),
        .lets (· = .int .i64 (k : Nat)),
        .lets (· = .pointer (some ⟨b2, o2 + k * 2, none⟩)),
        .lets (· = .pointer (some ⟨b2, o2 + k * 2, none⟩)),
        .lets (· = .int .i64 s.f),
        .lets (· = .slice (some ⟨b2, o2, none⟩) A.length c1),
        .lets (· = .int .i64 (k : Nat)),
        .lets (· = .pointer (some ⟨b2, o2 + k * 2, none⟩)),
        .lets (· = .pointer (some ⟨b2, o2 + k * 2 + 1, none⟩)),
        .lets (· = .int .i64 s.t),
        .lets (· = .int .i64 (s.t - 1)),
        .lets (· = .slice (some ⟨b2, o2, none⟩) A.length c1),
        .lets (· = .int .i64 (k : Nat)),
        .lets (· = .pointer (some ⟨b2, o2 + k * 2, none⟩)),
        .lets (· = .pointer (some ⟨b2, o2 + k * 2 + 1, none⟩)),
        .lets (· = .int .i64 s.t),
        .made FourS (FourAt s s)] [23] [] (by kernel_rfl) (by kernel_rfl) rfl ?kinds (by kernel_rfl) (by kernel_rfl) (by kernel_rfl) ?_
      case kinds =>
        constructor
        · intro i h
          rcases i with _ | _ | _ | _ | _ | _ | _ | _ | _ | _ | _ | _ | _ | _ | _ | _ | _ | _ | _ | _ | _ | _ | _ | _ | i <;> simp [Kx.isMade] at h ⊢
        · intro i h
          rcases i with _ | _ | _ | _ | _ | _ | _ | _ | _ | _ | _ | _ | _ | _ | _ | _ | _ | _ | _ | _ | _ | _ | _ | _ | i <;> simp [Kx.isUse] at h
      refine lexX_step (fun K hK => ⟨by kernel_rfl, ⟨_, rfl⟩, fun v hv => ?_, fun v hv => ?_⟩)
      · go_simp
        exact mUpon_b
      rw [hv]
      clear hv v
      go_simp
      refine hK _ ?_
      clear hK K
      refine lexX_step (fun K hK => ⟨by kernel_rfl, ⟨_, rfl⟩, fun v hv => ?_, fun v hv => ?_⟩)
      · go_simp
        exact mUpon_b
      subst hv
      go_simp
      refine hK _ ?_
      clear hK K
      refine lexX_step (fun K hK => ⟨by kernel_rfl, ⟨_, rfl⟩, fun v hv => ?_, fun v hv => ?_⟩)
      · go_simp
        exact mUpon_b
      subst hv
      go_simp
      refine hK _ ?_
      clear hK K
      refine lexX_step (fun K hK => ⟨by kernel_rfl, ⟨_, rfl⟩, fun v hv => ?_, fun v hv => ?_⟩)
      · go_simp
        exact mUpon_b
      subst hv
      go_simp
      refine hK _ ?_
      clear hK K
      refine lexX_step (fun K hK => ⟨by kernel_rfl, ⟨_, rfl⟩, fun v hv => ?_, fun v hv => ?_⟩)
      · go_simp
        exact mUpon_b
      subst hv
      go_simp
      refine hK _ ?_
      clear hK K
      refine lexX_step (fun K hK => ⟨by kernel_rfl, ⟨_, rfl⟩, fun v hv => ?_, fun v hv => ?_⟩)
      · obtain ⟨c0, c1'⟩ := (unhideR HK).below hv hb2
        go_simp
        exact mUpon_b
      subst hv
      go_simp
      refine hK _ ?_
      clear hK K
      refine lexX_step (fun K hK => ⟨by kernel_rfl, ⟨_, rfl⟩, fun v hv => ?_, fun v hv => ?_⟩)
      · go_simp
        exact mUpon_b
      subst hv
      go_simp
      refine hK _ ?_
      clear hK K
      refine lexX_step (fun K hK => ⟨by kernel_rfl, ⟨_, rfl⟩, fun v hv => ?_, fun v hv => ?_⟩)
      · go_simp
        exact mUpon_b
      subst hv
      go_simp
      refine hK _ ?_
      clear hK K
      refine lexX_step (fun K hK => ⟨by kernel_rfl, ⟨_, rfl⟩, fun v hv => ?_, fun v hv => ?_⟩)
      · go_simp
        exact mUpon_b
      subst hv
      go_simp
      refine hK _ ?_
      clear hK K
      refine lexX_step (fun K hK => ⟨by kernel_rfl, ⟨_, rfl⟩, fun v hv => ?_, fun v hv => ?_⟩)
      · go_simp
        exact mUpon_b
      subst hv
      go_simp
      refine hK _ ?_
      clear hK K
      refine lexX_step (fun K hK => ⟨by kernel_rfl, ⟨_, rfl⟩, fun v hv => ?_, fun v hv => ?_⟩)
      · go_simp
        exact mUpon_b
      subst hv
      go_simp
      refine hK _ ?_
      clear hK K
      refine lexX_step (fun K hK => ⟨by kernel_rfl, ⟨_, rfl⟩, fun v hv => ?_, fun v hv => ?_⟩)
      · obtain ⟨c0, c1'⟩ := (unhideR HK).below hv hb2
        go_simp
        exact mUpon_b
      subst hv
      go_simp
      refine hK _ ?_
      clear hK K
      refine lexX_step (fun K hK => ⟨by kernel_rfl, ⟨_, rfl⟩, fun v hv => ?_, fun v hv => ?_⟩)
      · go_simp
        exact mUpon_b
      subst hv
      go_simp
      refine hK _ ?_
      clear hK K
      refine lexX_step (fun K hK => ⟨by kernel_rfl, ⟨_, rfl⟩, fun v hv => ?_, fun v hv => ?_⟩)
      · go_simp
        exact mUpon_b
      subst hv
      go_simp
      refine hK _ ?_
      clear hK K
      refine lexX_step (fun K hK => ⟨by kernel_rfl, ⟨_, rfl⟩, fun v hv => ?_, fun v hv => ?_⟩)
      · go_simp
        exact mUpon_b
      subst hv
      go_simp
      refine hK _ ?_
      clear hK K
      refine lexX_step (fun K hK => ⟨by kernel_rfl, ⟨_, rfl⟩, fun v hv => ?_, fun v hv => ?_⟩)
      · go_simp
        exact mUpon_b
      subst hv
      go_simp
      refine hK _ ?_
      clear hK K
      refine lexX_step (fun K hK => ⟨by kernel_rfl, ⟨_, rfl⟩, fun v hv => ?_, fun v hv => ?_⟩)
      · obtain ⟨c0, c1'⟩ := (unhideR HK).below hv hb2
        go_simp
        exact mUpon_b
      subst hv
      go_simp
      refine hK _ ?_
      clear hK K
      refine lexX_step (fun K hK => ⟨by kernel_rfl, ⟨_, rfl⟩, fun v hv => ?_, fun v hv => ?_⟩)
      · go_simp
        exact mUpon_b
      subst hv
      go_simp
      refine hK _ ?_
      clear hK K
      refine lexX_step (fun K hK => ⟨by kernel_rfl, ⟨_, rfl⟩, fun v hv => ?_, fun v hv => ?_⟩)
      · go_simp
        exact mUpon_b
      subst hv
      go_simp
      refine hK _ ?_
      clear hK K
      refine lexX_step (fun K hK => ⟨by kernel_rfl, ⟨_, rfl⟩, fun v hv => ?_, fun v hv => ?_⟩)
      · go_simp
        exact mUpon_b
      subst hv
      go_simp
      refine hK _ ?_
      clear hK K
      refine lexX_step (fun K hK => ⟨by kernel_rfl, ⟨_, rfl⟩, fun v hv => ?_, fun v hv => ?_⟩)
      · go_simp
        exact mUpon_b
      subst hv
      go_simp
      refine hK _ ?_
      clear hK K
      refine lexX_step (fun K hK => ⟨by kernel_rfl, ⟨_, rfl⟩, fun v hv => ?_, fun v hv => ?_⟩)
      · go_simp
        exact mUpon_b
      subst hv
      go_simp
      refine hK _ ?_
      clear hK K
      refine lexX_step (fun K hK => ⟨by kernel_rfl, ⟨_, rfl⟩, fun v hv => ?_, fun v hv => ?_⟩)
      · obtain ⟨c0, c1'⟩ := (unhideR HK).below hv hb2
        go_simp
        exact mUpon_b
      subst hv
      go_simp
      refine hK _ ?_
      clear hK K
      refine lexX_made ⟨by kernel_rfl, ⟨_, 0, rfl⟩, four_stb _ _, fun v hv => ?_, ?_⟩
      · go_simp
        refine ⟨(Below.refl _ v).alloc (Nat.le_refl _) _, ⟨_, rfl⟩, fun b' e => ?_⟩
        cases e
        exact alloc_last v _
      rintro _ ⟨nb, rfl⟩ K hK
      go_simp
      refine hK _ ?_
      clear hK K
      refine lexX_end (fun v2 hv => ?_)
      have hn := hv.fact.2 nb rfl
      have hb3 := hv.low
      clear hv
      have HO2 := hideR (own_below2 (unhideR HO) hb3)
      have HB2 := hideR (below_go (unhideR HK2) hb3)
      have l2 := hb3.size
      have l3 := (unhideR HK2).size
      have HNB := hideR hn
      have hyl := unhideR HY
      clear hb3 hn HO HK2
      refine wpAny_step (i := 24) (by kernel_rfl) rfl (by kernel_rfl) (fun K hK => ?_)
      refine wp_append_own _ _ _ 23 rfl wrz.heap.size 3 i0 (.int .i64 0) 1 8 Tryd.underlying23 hi hz0 hz1 hz2 rfl (by decide) u21 Y.length (Y.map (Value.int .i64)) rfl (unhideR HO2) ⟨nb, 0, none⟩ 4 4 [.int .i64 (s.f - 1), .int .i64 s.f, .int .i64 (s.t - 1), .int .i64 s.t] rfl rfl ?q1 ?q2 ?q3 ?q4 ?q5 ?_
      case q1 =>
        intro m u hm
        have hm0 : m < 4 := by
          have h := (List.getElem?_eq_some_iff.1 hm).1
          simpa using h
        rw [add_pl2, Nat.zero_add, (cells_at (unhideR HNB) m (by simp; omega)).1]
        rcases (show m = 0 ∨ m = 1 ∨ m = 2 ∨ m = 3 by omega) with rfl | rfl | rfl | rfl
        all_goals
          simp at hm
          subst hm
          rfl
      case q2 =>
        intro u hu
        simp at hu
        rcases hu with rfl | rfl | rfl | rfl <;> rfl
      case q3 => unfold maxLen; omega
      case q4 => omega
      case q5 => omega
      intro v3 w3 hown2 hgrow2 _
      have B3 := hideR ((unhideR HB2).grown hgrow2 (by omega) (fun g h => by have := own_at2 (unhideR HO2) g h; omega))
      have O3 : HeldR (w3.ownsRow wrz.heap.size 3 1 v3 (Y ++ [s.f - 1, s.f, s.t - 1, s.t]).length ((Y ++ [s.f - 1, s.f, s.t - 1, s.t]).map (Value.int .i64))) := by
        unfold HeldR
        simpa using hown2
      have Y3 : (Y ++ [s.f - 1, s.f, s.t - 1, s.t]).length = Y.length + 4 := by simp
      clear hown2 hgrow2 HO2 HB2 HK HNB
      generalize Y ++ [s.f - 1, s.f, s.t - 1, s.t] = Y2 at *
      have HY2 := hideR Y3
      have HYl := hideR hyl
      clear Y3 hyl
      go_simp
      refine hK _ _ ?_
      clear hK K
      refine wpAny_step (i := 25) (by kernel_rfl) rfl (by kernel_rfl) (fun K hK => ?_)
      unfold Oper.wp
      go_simp
      refine hK _ _ ?_
      clear hK K
      refine wpAny_end (by kernel_rfl) ?_
      go_wp2
      exact ⟨⟨k + 1, Y2, by omega, by go_num, by rw [unhideR HLN]; simp only [Value.int.injEq, true_and]; omega, by have := unhideR HY2; have := unhideR HYl; unfold HeldR; omega, O3, B3⟩, by simp [intOf]; omega⟩
    · obtain rfl : k = A.length := by omega
      have hlong := unhideR HnL
      rw [← hlong]
      have HY0 : HeldR (Y.length ≤ 4 * A.length + 4 * 0) := by
        have := unhideR HY
        unfold HeldR
        omega
      clear hlong HnL HY HRA hlt hk
      have HO' := HO
      have HK2' := HK2
      clear HO HK2
      go_wp2
      go_loopw [21, 23] (fun av iv wl => ∃ (k : Nat) (Y : List Int), k ≤ B.length ∧ iv = .int .i64 (k : Nat) ∧ HeldR (Y.length ≤ 4 * A.length + 4 * k) ∧ HeldR (wl.ownsRow wrz.heap.size 3 1 av Y.length (Y.map (Value.int .i64))) ∧ HeldR (Below wrz.heap.size wrz wl)) (fun _ iv _ => B.length + 1 - (intOf iv).toNat)
      case atStart => exact ⟨0, Y, by omega, rfl, HY0, HO', HK2'⟩
      case round =>
        clear HY0 HO' HK2'
        obtain ⟨k, Y, hk, rfl, HY, HO, HK2⟩ := hrel
        by_cases hlt : k < B.length
        · obtain ⟨b2, o2, rfl, hb2, hat⟩ := (((unhideR HB).below (unhideR HW)).below (unhideR HK2)).at_ k hlt
          have hri := right_in (unhideR HRB) hlt
          have HK := hideR hat
          clear hat
          generalize B.getD k sp0 = s at *
          have w3' : IntKind.i64.wrap (s.f - 1) = s.f - 1 := iwrap (by omega) (by omega)
          have w4' : IntKind.i64.wrap (s.t - 1) = s.t - 1 := iwrap (by omega) (by omega)
          go_wp2_with fail
          refine wp_region_made 1 #[true, true, true, true, true, true, true, true, true, true, true, true, true, true, true, true, true, true, true, true, true, true, true, true, false, false] [.lets (· = u21),
            .lets (· = .slice (some ⟨b2, o2, none⟩) B.length c2),
            .lets (· = .int .i64 (k : Nat)),
            .lets (· = .pointer (some ⟨b2, o2 + k * 2, none⟩)),
            .lets (· = .pointer (some ⟨b2, o2 + k * 2, none⟩)),
            .lets (· = .int .i64 s.f),
            .lets (· = .int .i64 (s.f - 1)),
            .lets (· = .slice (some ⟨b2, o2, none⟩) B.length c2),
            .lets (· = .int .i64 (k : Nat)),
            .lets (· = .pointer (some ⟨b2, o2 + k * 2, none⟩)),
            .lets (· = .pointer (some ⟨b2, o2 + k * 2, none⟩)),
            .lets (· = .int .i64 s.f),
            .lets (· = .slice (some ⟨b2, o2, none⟩) B.length c2),
            .lets (· = .int .i64 (k : Nat)),
            .lets (· = .pointer (some ⟨b2, o2 + k * 2, none⟩)),
            .lets (· = .pointer (some ⟨b2, o2 + k * 2 + 1, none⟩)),
            .lets (· = .int .i64 s.t),
            .lets (· = .int .i64 (s.t - 1)),
            .lets (· = .slice (some ⟨b2, o2, none⟩) B.length c2),
            .lets (· = .int .i64 (k : Nat)),
            .lets (· = .pointer (some ⟨b2, o2 + k * 2, none⟩)),
            .lets (· = .pointer (some ⟨b2, o2 + k * 2 + 1, none⟩)),
            .lets (· = .int .i64 s.t),
            .made FourS (FourAt s s)] [23] [] (by kernel_rfl) (by kernel_rfl) rfl ?kinds (by kernel_rfl) (by kernel_rfl) (by kernel_rfl) ?_
          case kinds =>
            constructor
            · intro i h
              rcases i with _ | _ | _ | _ | _ | _ | _ | _ | _ | _ | _ | _ | _ | _ | _ | _ | _ | _ | _ | _ | _ | _ | _ | _ | i <;> simp [Kx.isMade] at h ⊢
            · intro i h
              rcases i with _ | _ | _ | _ | _ | _ | _ | _ | _ | _ | _ | _ | _ | _ | _ | _ | _ | _ | _ | _ | _ | _ | _ | _ | i <;> simp [Kx.isUse] at h
          refine lexX_step (fun K hK => ⟨by kernel_rfl, ⟨_, rfl⟩, fun v hv => ?_, fun v hv => ?_⟩)
          · go_simp
            exact mUpon_b
          rw [hv]
          clear hv v
          go_simp
          refine hK _ ?_
          clear hK K
          refine lexX_step (fun K hK => ⟨by kernel_rfl, ⟨_, rfl⟩, fun v hv => ?_, fun v hv => ?_⟩)
          · go_simp
            exact mUpon_b
          subst hv
          go_simp
          refine hK _ ?_
          clear hK K
          refine lexX_step (fun K hK => ⟨by kernel_rfl, ⟨_, rfl⟩, fun v hv => ?_, fun v hv => ?_⟩)
          · go_simp
            exact mUpon_b
          subst hv
          go_simp
          refine hK _ ?_
          clear hK K
          refine lexX_step (fun K hK => ⟨by kernel_rfl, ⟨_, rfl⟩, fun v hv => ?_, fun v hv => ?_⟩)
          · go_simp
            exact mUpon_b
          subst hv
          go_simp
          refine hK _ ?_
          clear hK K
          refine lexX_step (fun K hK => ⟨by kernel_rfl, ⟨_, rfl⟩, fun v hv => ?_, fun v hv => ?_⟩)
          · go_simp
            exact mUpon_b
          subst hv
          go_simp
          refine hK _ ?_
          clear hK K
          refine lexX_step (fun K hK => ⟨by kernel_rfl, ⟨_, rfl⟩, fun v hv => ?_, fun v hv => ?_⟩)
          · obtain ⟨c0, c1'⟩ := (unhideR HK).below hv hb2
            go_simp
            exact mUpon_b
          subst hv
          go_simp
          refine hK _ ?_
          clear hK K
          refine lexX_step (fun K hK => ⟨by kernel_rfl, ⟨_, rfl⟩, fun v hv => ?_, fun v hv => ?_⟩)
          · go_simp
            exact mUpon_b
          subst hv
          go_simp
          refine hK _ ?_
          clear hK K
          refine lexX_step (fun K hK => ⟨by kernel_rfl, ⟨_, rfl⟩, fun v hv => ?_, fun v hv => ?_⟩)
          · go_simp
            exact mUpon_b
          subst hv
          go_simp
          refine hK _ ?_
          clear hK K
          refine lexX_step (fun K hK => ⟨by kernel_rfl, ⟨_, rfl⟩, fun v hv => ?_, fun v hv => ?_⟩)
          · go_simp
            exact mUpon_b
          subst hv
          go_simp
          refine hK _ ?_
          clear hK K
          refine lexX_step (fun K hK => ⟨by kernel_rfl, ⟨_, rfl⟩, fun v hv => ?_, fun v hv => ?_⟩)
          · go_simp
            exact mUpon_b
          subst hv
          go_simp
          refine hK _ ?_
          clear hK K
          refine lexX_step (fun K hK => ⟨by kernel_rfl, ⟨_, rfl⟩, fun v hv => ?_, fun v hv => ?_⟩)
          · go_simp
            exact mUpon_b
          subst hv
          go_simp
          refine hK _ ?_
          clear hK K
          refine lexX_step (fun K hK => ⟨by kernel_rfl, ⟨_, rfl⟩, fun v hv => ?_, fun v hv => ?_⟩)
          · obtain ⟨c0, c1'⟩ := (unhideR HK).below hv hb2
            go_simp
            exact mUpon_b
          subst hv
          go_simp
          refine hK _ ?_
          clear hK K
          refine lexX_step (fun K hK => ⟨by kernel_rfl, ⟨_, rfl⟩, fun v hv => ?_, fun v hv => ?_⟩)
          · go_simp
            exact mUpon_b
          subst hv
          go_simp
          refine hK _ ?_
          clear hK K
          refine lexX_step (fun K hK => ⟨by kernel_rfl, ⟨_, rfl⟩, fun v hv => ?_, fun v hv => ?_⟩)
          · go_simp
            exact mUpon_b
          subst hv
          go_simp
          refine hK _ ?_
          clear hK K
          refine lexX_step (fun K hK => ⟨by kernel_rfl, ⟨_, rfl⟩, fun v hv => ?_, fun v hv => ?_⟩)
          · go_simp
            exact mUpon_b
          subst hv
          go_simp
          refine hK _ ?_
          clear hK K
          refine lexX_step (fun K hK => ⟨by kernel_rfl, ⟨_, rfl⟩, fun v hv => ?_, fun v hv => ?_⟩)
          · go_simp
            exact mUpon_b
          subst hv
          go_simp
          refine hK _ ?_
          clear hK K
          refine lexX_step (fun K hK => ⟨by kernel_rfl, ⟨_, rfl⟩, fun v hv => ?_, fun v hv => ?_⟩)
          · obtain ⟨c0, c1'⟩ := (unhideR HK).below hv hb2
            go_simp
            exact mUpon_b
          subst hv
          go_simp
          refine hK _ ?_
          clear hK K
          refine lexX_step (fun K hK => ⟨by kernel_rfl, ⟨_, rfl⟩, fun v hv => ?_, fun v hv => ?_⟩)
          · go_simp
            exact mUpon_b
          subst hv
          go_simp
          refine hK _ ?_
          clear hK K
          refine lexX_step (fun K hK => ⟨by kernel_rfl, ⟨_, rfl⟩, fun v hv => ?_, fun v hv => ?_⟩)
          · go_simp
            exact mUpon_b
          subst hv
          go_simp
          refine hK _ ?_
          clear hK K
          refine lexX_step (fun K hK => ⟨by kernel_rfl, ⟨_, rfl⟩, fun v hv => ?_, fun v hv => ?_⟩)
          · go_simp
            exact mUpon_b
          subst hv
          go_simp
          refine hK _ ?_
          clear hK K
          refine lexX_step (fun K hK => ⟨by kernel_rfl, ⟨_, rfl⟩, fun v hv => ?_, fun v hv => ?_⟩)
          · go_simp
            exact mUpon_b
          subst hv
          go_simp
          refine hK _ ?_
          clear hK K
          refine lexX_step (fun K hK => ⟨by kernel_rfl, ⟨_, rfl⟩, fun v hv => ?_, fun v hv => ?_⟩)
          · go_simp
            exact mUpon_b
          subst hv
          go_simp
          refine hK _ ?_
          clear hK K
          refine lexX_step (fun K hK => ⟨by kernel_rfl, ⟨_, rfl⟩, fun v hv => ?_, fun v hv => ?_⟩)
          · obtain ⟨c0, c1'⟩ := (unhideR HK).below hv hb2
            go_simp
            exact mUpon_b
          subst hv
          go_simp
          refine hK _ ?_
          clear hK K
          refine lexX_made ⟨by kernel_rfl, ⟨_, 0, rfl⟩, four_stb _ _, fun v hv => ?_, ?_⟩
          · go_simp
            refine ⟨(Below.refl _ v).alloc (Nat.le_refl _) _, ⟨_, rfl⟩, fun b' e => ?_⟩
            cases e
            exact alloc_last v _
          rintro _ ⟨nb, rfl⟩ K hK
          go_simp
          refine hK _ ?_
          clear hK K
          refine lexX_end (fun v2 hv => ?_)
          have hn := hv.fact.2 nb rfl
          have hb3 := hv.low
          clear hv
          have HO2 := hideR (own_below2 (unhideR HO) hb3)
          have HB2 := hideR (below_go (unhideR HK2) hb3)
          have l2 := hb3.size
          have l3 := (unhideR HK2).size
          have HNB := hideR hn
          have hyl := unhideR HY
          clear hb3 hn HO HK2
          refine wpAny_step (i := 24) (by kernel_rfl) rfl (by kernel_rfl) (fun K hK => ?_)
          refine wp_append_own _ _ _ 23 rfl wrz.heap.size 3 i0 (.int .i64 0) 1 8 Tryd.underlying23 hi hz0 hz1 hz2 rfl (by decide) u21 Y.length (Y.map (Value.int .i64)) rfl (unhideR HO2) ⟨nb, 0, none⟩ 4 4 [.int .i64 (s.f - 1), .int .i64 s.f, .int .i64 (s.t - 1), .int .i64 s.t] rfl rfl ?q1 ?q2 ?q3 ?q4 ?q5 ?_
          case q1 =>
            intro m u hm
            have hm0 : m < 4 := by
              have h := (List.getElem?_eq_some_iff.1 hm).1
              simpa using h
            rw [add_pl2, Nat.zero_add, (cells_at (unhideR HNB) m (by simp; omega)).1]
            rcases (show m = 0 ∨ m = 1 ∨ m = 2 ∨ m = 3 by omega) with rfl | rfl | rfl | rfl
            all_goals
              simp at hm
              subst hm
              rfl
          case q2 =>
            intro u hu
            simp at hu
            rcases hu with rfl | rfl | rfl | rfl <;> rfl
          case q3 => unfold maxLen; omega
          case q4 => omega
          case q5 => omega
          intro v3 w3 hown2 hgrow2 _
          have B3 := hideR ((unhideR HB2).grown hgrow2 (by omega) (fun g h => by have := own_at2 (unhideR HO2) g h; omega))
          have O3 : HeldR (w3.ownsRow wrz.heap.size 3 1 v3 (Y ++ [s.f - 1, s.f, s.t - 1, s.t]).length ((Y ++ [s.f - 1, s.f, s.t - 1, s.t]).map (Value.int .i64))) := by
            unfold HeldR
            simpa using hown2
          have Y3 : (Y ++ [s.f - 1, s.f, s.t - 1, s.t]).length = Y.length + 4 := by simp
          clear hown2 hgrow2 HO2 HB2 HK HNB
          generalize Y ++ [s.f - 1, s.f, s.t - 1, s.t] = Y2 at *
          have HY2 := hideR Y3
          have HYl := hideR hyl
          clear Y3 hyl
          go_simp
          refine hK _ _ ?_
          clear hK K
          refine wpAny_step (i := 25) (by kernel_rfl) rfl (by kernel_rfl) (fun K hK => ?_)
          unfold Oper.wp
          go_simp
          refine hK _ _ ?_
          clear hK K
          refine wpAny_end (by kernel_rfl) ?_
          go_wp2
          exact ⟨⟨k + 1, Y2, by omega, by go_num, by have := unhideR HY2; have := unhideR HYl; unfold HeldR; omega, O3, B3⟩, by simp [intOf]; omega⟩
        · obtain rfl : k = B.length := by omega
          obtain ⟨dY, cY, rfl, hIY, _⟩ := own_ints (unhideR HO)
          have HIY := hideR hIY
          have hyl := unhideR HY
          replace HW := hideR (below_go (unhideR HW) (unhideR HK2))
          replace HMu := hideR ((unhideR HMu).below (unhideR HK2))
          replace HMv := hideR ((unhideR HMv).below (unhideR HK2))
          replace HMz := hideR ((unhideR HMz).below (unhideR HK2))
          clear hIY HO HK2 HRB hlt hk
          have hso := spansOf_any du cu XU _ (unhideR HMu) (by omega)
          go_wp2_with fail
          refine hso.mono ?_
          rintro e w4u ⟨eu, gu, rfl, hcm, kk⟩
          replace HMv := hideR ((unhideR HMv).below kk)
          replace HMz := hideR ((unhideR HMz).below kk)
          have HQu := hideR hcm
          replace HIY := hideR ((unhideR HIY).below kk)
          replace HW := hideR (below_go (unhideR HW) kk)
          clear hcm kk hso
          have hso := spansOf_any dv cv XV _ (unhideR HMv) (by omega)
          go_wp2_with fail
          refine hso.mono ?_
          rintro e w4v ⟨ev, gv, rfl, hcm, kk⟩
          replace HMz := hideR ((unhideR HMz).below kk)
          replace HQu := hideR ((unhideR HQu).below kk)
          have HQv := hideR hcm
          replace HIY := hideR ((unhideR HIY).below kk)
          replace HW := hideR (below_go (unhideR HW) kk)
          clear hcm kk hso
          have hso := spansOf_any dz cz XZ _ (unhideR HMz) (by omega)
          go_wp2_with fail
          refine hso.mono ?_
          rintro e w4z ⟨ez, gz, rfl, hcm, kk⟩
          replace HQu := hideR ((unhideR HQu).below kk)
          replace HQv := hideR ((unhideR HQv).below kk)
          have HQz := hideR hcm
          replace HIY := hideR ((unhideR HIY).below kk)
          replace HW := hideR (below_go (unhideR HW) kk)
          clear hcm kk hso
          replace HA := hideR ((unhideR HA).below (unhideR HW))
          replace HB := hideR ((unhideR HB).below (unhideR HW))
          go_wp2
          go_loop [27] (fun iv => ∃ k : Nat, k ≤ Y.length ∧ iv = .int .i64 (k : Nat)) (fun iv => Y.length + 1 - (intOf iv).toNat)
          case atStart => exact ⟨0, by omega, rfl⟩
          case round =>
            obtain ⟨k, hk, rfl⟩ := hrel
            by_cases hlt : k < Y.length
            · obtain ⟨b3, o3, rfl, _, hc⟩ := (unhideR HIY).at_ k hlt
              generalize Y.getD k 0 = y at *
              have i1 := inSpans_any ad1 c1 A y _ (unhideR HA) (by omega)
              have i2 := inSpans_any ad2 c2 B y _ (unhideR HB) (by omega)
              have i3 := inSpans_any eu gu XU y _ (unhideR HQu) (by omega)
              have i4 := inSpans_any ev gv XV y _ (unhideR HQv) (by omega)
              have i5 := inSpans_any ez gz XZ y _ (unhideR HQz) (by omega)
              rw [unhideR HmU y] at i3
              rw [unhideR HmV y] at i4
              rw [unhideR HmZ y] at i5
              generalize inV A y = p at *
              generalize inV B y = q at *
              go_wp2_with fail
              refine i1.mono ?_
              rintro e w5 ⟨rfl, rfl⟩
              go_wp2_with fail
              refine i2.mono ?_
              rintro e w5 ⟨rfl, rfl⟩
              go_wp2_with fail
              refine i3.mono ?_
              rintro e w5 ⟨rfl, rfl⟩
              go_wp2_with fail
              refine i4.mono ?_
              rintro e w5 ⟨rfl, rfl⟩
              go_wp2_with fail
              refine i5.mono ?_
              rintro e w5 ⟨rfl, rfl⟩
              cases p <;> cases q
              all_goals
                go_wp2
                exact ⟨⟨k + 1, by omega, by go_num⟩, by simp [intOf]; omega⟩
            · go_wp2
              go_ret
              exact ⟨by simp, unhideR HW⟩
end Go.Proofs.YthhhomlgcefalahDoor
