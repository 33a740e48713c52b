/-
  The law MovePush: its walk, out of the program's Run, Push and Middle by their contracts.
-/
import Derived.Test.YtdngkmobkbiflagDoorMvBack
namespace Go.Proofs.YtdngkmobkbiflagDoor
open Go Go.RowKit

def PushOK : Prop := ∀ (v : Value) (L : List Bd) (w : World), BSl w v L → L.length ≤ 14 → Good L → Calls Tryd.prog 16 #[v] w fun e w' => e = .returned (pushV L).val ∧ Below w.heap.size w w'
def MiddleOK : Prop := ∀ (v : Value) (L : List Bd) (w : World), BSl w v L → L.length ≤ 14 → Good L → Calls Tryd.prog 17 #[v] w fun e w' => e = .returned (middleV L).val ∧ Below w.heap.size w w'
theorem alloc_two (w : World) (A B : Obj) : ((w.alloc A).alloc B).heap[w.heap.size + 1]? = some B := by
  have := alloc_last (w.alloc A) B
  simpa using this
theorem prod36 {m p : Int} (h1 : 0 ≤ m) (h2 : m ≤ 65536) (h3 : -1048576 ≤ p) (h4 : p ≤ 1048576) : -68719476736 ≤ m * p ∧ m * p ≤ 68719476736 := by
  have e : (m * p).natAbs = m.natAbs * p.natAbs := Int.natAbs_mul m p
  have a : m.natAbs ≤ 65536 := by omega
  have b : p.natAbs ≤ 1048576 := by omega
  have c : m.natAbs * p.natAbs ≤ 65536 * 1048576 := Nat.mul_le_mul a b
  omega
theorem bd0_In : bd0.sp.In 1048576 ∧ bd0.at_.In 1048576 := by decide
theorem good_sp {L : List Bd} (h : Good L) (j : Nat) : (L.getD j bd0).sp.In 1048576 := by
  by_cases hj : j < L.length
  · exact sps_all h.s j hj
  · have e : L.getD j bd0 = bd0 := by simp [List.getD, List.getElem?_eq_none (Nat.le_of_not_lt hj)]
    rw [e]
    exact bd0_In.1
theorem good_at {L : List Bd} (h : Good L) (j : Nat) : (L.getD j bd0).at_.In 1048576 := by
  by_cases hj : j < L.length
  · exact ats_all h.a j hj
  · have e : L.getD j bd0 = bd0 := by simp [List.getD, List.getElem?_eq_none (Nat.le_of_not_lt hj)]
    rw [e]
    exact bd0_In.2
theorem pushK_size {L : List Bd} (h : Good L) : ∀ k : Nat, (pushK L k).In ((k : Int) * 68719476736)
  | 0 => (⟨by decide, by decide, by decide, by decide, by decide, by decide⟩ : cl0.In (((0 : Nat) : Int) * 68719476736))
  | k + 1 => by
    have hk := pushK_size h k
    have m := mss_all h.m k
    have q := good_sp h k
    have a1 := prod36 m.1 m.2 q.x1 q.x2
    have a2 := prod36 m.1 m.2 q.y1 q.y2
    have a3 := prod36 m.1 m.2 q.z1 q.z2
    obtain ⟨h1, h2, h3, h4, h5, h6⟩ := hk
    unfold pushK
    refine ⟨?_, ?_, ?_, ?_, ?_, ?_⟩
    all_goals
      simp only [Cl.add, Cl.mul]
      omega
theorem middleK_size {L : List Bd} (h : Good L) : ∀ k : Nat, (middleK L k).In ((k : Int) * 68719476736)
  | 0 => (⟨by decide, by decide, by decide, by decide, by decide, by decide⟩ : cl0.In (((0 : Nat) : Int) * 68719476736))
  | k + 1 => by
    have hk := middleK_size h k
    have m := mss_all h.m k
    have q := good_at h k
    have a1 := prod36 m.1 m.2 q.x1 q.x2
    have a2 := prod36 m.1 m.2 q.y1 q.y2
    have a3 := prod36 m.1 m.2 q.z1 q.z2
    obtain ⟨h1, h2, h3, h4, h5, h6⟩ := hk
    unfold middleK
    refine ⟨?_, ?_, ?_, ?_, ?_, ?_⟩
    all_goals
      simp only [Cl.add, Cl.mul]
      omega
theorem push_more {L : List Bd} (h : Good L) {k : Nat} (hk : k < L.length) : MoreOk (pushK L k) (L.getD k bd0).m (L.getD k bd0).sp := by
  have m := mss_all h.m k
  have q := good_sp h k
  have a1 := prod36 m.1 m.2 q.x1 q.x2
  have a2 := prod36 m.1 m.2 q.y1 q.y2
  have a3 := prod36 m.1 m.2 q.z1 q.z2
  obtain ⟨h1, h2, h3, h4, h5, h6⟩ := pushK_size h k
  have hl := h.l
  exact ⟨by omega, by omega, by omega, by omega, by omega, by omega⟩
theorem small_mul {s p : Int} (h1 : -120 ≤ s) (h2 : s ≤ 120) (h3 : -824633720832 ≤ p) (h4 : p ≤ 824633720832) : -98956046499840 ≤ s * p ∧ s * p ≤ 98956046499840 := by
  have e : (s * p).natAbs = s.natAbs * p.natAbs := Int.natAbs_mul s p
  have a : s.natAbs ≤ 120 := by omega
  have b : p.natAbs ≤ 824633720832 := by omega
  have c : s.natAbs * p.natAbs ≤ 120 * 824633720832 := Nat.mul_le_mul a b
  omega
theorem middle_more {L : List Bd} (h : Good L) {steps : Int} (h1 : -120 ≤ steps) (h2 : steps ≤ 120) : MoreOk (middleV L) steps (pushV L) := by
  have hl := h.l
  obtain ⟨p1, p2, p3, p4, p5, p6⟩ := pushK_size h L.length
  obtain ⟨m1, m2, m3, m4, m5, m6⟩ := middleK_size h L.length
  unfold middleV pushV
  have a1 := small_mul (p := (pushK L L.length).x) h1 h2 (by omega) (by omega)
  have a2 := small_mul (p := (pushK L L.length).y) h1 h2 (by omega) (by omega)
  have a3 := small_mul (p := (pushK L L.length).z) h1 h2 (by omega) (by omega)
  exact ⟨by omega, by omega, by omega, by omega, by omega, by omega⟩
theorem run_push {L X : List Bd} {steps : Int} (h : runN (sg steps) steps.natAbs L = some X) : pushV X = pushV L ∧ middleV X = (middleV L).add (Cl.mul steps (pushV L)) := by
  obtain ⟨h1, h2⟩ := runN_push (sg steps) steps.natAbs L X h
  refine ⟨h1, ?_⟩
  have e : sg steps * (steps.natAbs : Int) = steps := by unfold sg; split <;> omega
  rw [e] at h2
  exact h2
set_option maxRecDepth 100000 in
set_option maxHeartbeats 3200000 in
theorem push_walk {a : Nat → Addr} (hR : RunOK a) (hPu : PushOK) (hMi : MiddleOK) {v : Value} {L : List Bd} (steps : Int) (w : World) (hS : Errs w a) (h : BSl w v L) (hl : L.length ≤ 9223372036854775807) :
    Calls Tryd.prog 5 #[v, .int .i64 steps] w fun e w' => e = .returned (.bool true) ∧ Below w.heap.size w w' := by
  have HS := hideR hS
  have HB := hideR h
  have hmv := moves_any hR w hS
  have HR := hideR hR
  have HPu := hideR hPu
  have HMi := hideR hMi
  clear hS h hR hPu hMi
  go_enter Tryd.func5, Tryd.ntmps5
  go_wp2_with fail
  refine hmv.mono ?_
  rintro e w1 ⟨rfl, k1⟩
  have HW := hideR k1
  clear k1 hmv
  have hsh := short_any ((unhideR HB).below (unhideR HW)) hl steps
  cases hf : shortB L.length steps with
  | false =>
    rw [hf] at hsh
    go_wp2_with fail
    refine hsh.mono ?_
    rintro e w2 ⟨rfl, rfl⟩
    go_wp2
    go_ret
    exact ⟨rfl, unhideR HW⟩
  | true =>
    rw [hf] at hsh
    have h14 := short_len hf
    have HF := hideR hf
    go_wp2_with fail
    refine hsh.mono ?_
    rintro e w2 ⟨rfl, rfl⟩
    clear hsh hf
    have hb := bodies_any ((unhideR HB).below (unhideR HW)) h14
    go_wp2_with fail
    refine hb.mono ?_
    rintro e w3 ⟨u, rfl, hO, k3⟩
    replace HW := hideR (below_go (unhideR HW) k3)
    clear hb k3
    have hrun := unhideR HR u L steps w3 ((unhideR HS).below (unhideR HW)) hO.sl h14
    clear hO
    go_wp2_with fail
    refine hrun.mono ?_
    rintro e w4 ⟨x, x4, rfl, hP, k4⟩
    replace HW := hideR (below_go (unhideR HW) k4)
    clear hrun k4
    rcases hP.cut with ⟨rfl, e0, X, hX, hsl⟩ | ⟨_, kk, rfl⟩
    · obtain ⟨r1, r2, gX, r4⟩ := run_back e0 hX
      obtain ⟨gL, s1, s2⟩ := runE_zero e0
      obtain ⟨t1, t2⟩ := short_steps (unhideR HF) s1 s2
      obtain ⟨q1, q2⟩ := run_push hX
      have hXl : X.length ≤ 14 := by omega
      have hmore2 := fun u => more_any _ _ _ u (middle_more gL t2 t1)
      have HX := hideR hsl
      have HGL := hideR gL
      have HGX := hideR gX
      have HP1 : HeldR (pushK L L.length = pushV L) := rfl
      rw [← q2] at hmore2
      have hpx := fun u w9 hb => unhideR HPu u X w9 hb hXl gX
      have hpl := fun u w9 hb => unhideR HPu u L w9 hb h14 gL
      have hmx := fun u w9 hb => unhideR HMi u X w9 hb hXl gX
      have hml := fun u w9 hb => unhideR HMi u L w9 hb h14 gL
      rw [q1] at hpx
      clear hP e0 hX hsl r1 r2 r4 gX gL s1 s2 q1 q2 HR HPu HMi HF
      generalize middleV X = M2 at *
      generalize middleV L = M at *
      generalize pushV L = P at *
      unfold Cl.val at hpx hpl hmx hml
      -- p
      have hb := bodies_any ((unhideR HB).below (unhideR HW)) h14
      go_wp2_with fail
      refine hb.mono ?_
      rintro e w5 ⟨u5, rfl, hO, k5⟩
      replace HW := hideR (below_go (unhideR HW) k5)
      replace HX := hideR ((unhideR HX).below k5)
      have hc := hpl u5 w5 hO.sl
      clear hb k5 hO
      go_wp2_with fail
      refine hc.mono ?_
      rintro e w6 ⟨rfl, k6⟩
      replace HW := hideR (below_go (unhideR HW) k6)
      replace HX := hideR ((unhideR HX).below k6)
      clear hc k6
      have H9 := hideR (CBox.new w6 P)
      replace HX := hideR ((unhideR HX).below (below_a w6 (.cells #[.int .i64 P.x, .int .i64 P.y, .int .i64 P.z] 38)))
      replace HW := hideR (below_go (unhideR HW) (below_a w6 (.cells #[.int .i64 P.x, .int .i64 P.y, .int .i64 P.z] 38)))
      have hc := hpx x _ (unhideR HX)
      go_wp2_with fail
      obtain ⟨g9, hg9⟩ : ∃ g, w6.heap.size = g := ⟨_, rfl⟩
      rw [hg9] at H9 ⊢
      clear hg9
      refine hc.mono ?_
      rintro e w7 ⟨rfl, k7⟩
      replace HW := hideR (below_go (unhideR HW) k7)
      replace HX := hideR ((unhideR HX).below k7)
      replace H9 := hideR ((unhideR H9).go k7)
      clear hc k7
      have H10 := hideR (CBox.new w7 P)
      replace HX := hideR ((unhideR HX).below (below_a w7 (.cells #[.int .i64 P.x, .int .i64 P.y, .int .i64 P.z] 38)))
      replace HW := hideR (below_go (unhideR HW) (below_a w7 (.cells #[.int .i64 P.x, .int .i64 P.y, .int .i64 P.z] 38)))
      have l9 := ltB (unhideR H9).at_
      replace H9 := hideR ((unhideR H9).go (below_a w7 (.cells #[.int .i64 P.x, .int .i64 P.y, .int .i64 P.z] 38)))
      have hb := bodies_any ((unhideR HB).below (unhideR HW)) h14
      go_wp2_with fail
      obtain ⟨g10, hg10⟩ : ∃ g, w7.heap.size = g := ⟨_, rfl⟩
      rw [hg10] at H10 l9 ⊢
      clear hg10
      refine hb.mono ?_
      rintro e w8 ⟨u8, rfl, hO, k8⟩
      replace HW := hideR (below_go (unhideR HW) k8)
      replace HX := hideR ((unhideR HX).below k8)
      replace H9 := hideR ((unhideR H9).go k8)
      replace H10 := hideR ((unhideR H10).go k8)
      have hc := hml u8 w8 hO.sl
      clear hb k8 hO
      go_wp2_with fail
      refine hc.mono ?_
      rintro e w9 ⟨rfl, k9⟩
      replace HW := hideR (below_go (unhideR HW) k9)
      replace HX := hideR ((unhideR HX).below k9)
      replace H9 := hideR ((unhideR H9).go k9)
      replace H10 := hideR ((unhideR H10).go k9)
      clear hc k9
      have H11 := hideR (CBox.new w9 M)
      have l10 := ltB (unhideR H10).at_
      replace HX := hideR ((unhideR HX).below (below_a w9 (.cells #[.int .i64 M.x, .int .i64 M.y, .int .i64 M.z] 38)))
      replace HW := hideR (below_go (unhideR HW) (below_a w9 (.cells #[.int .i64 M.x, .int .i64 M.y, .int .i64 M.z] 38)))
      replace H9 := hideR ((unhideR H9).go (below_a w9 (.cells #[.int .i64 M.x, .int .i64 M.y, .int .i64 M.z] 38)))
      replace H10 := hideR ((unhideR H10).go (below_a w9 (.cells #[.int .i64 M.x, .int .i64 M.y, .int .i64 M.z] 38)))
      have hc := hmx x _ (unhideR HX)
      go_wp2_with fail
      obtain ⟨g11, hg11⟩ : ∃ g, w9.heap.size = g := ⟨_, rfl⟩
      rw [hg11] at H11 l10 ⊢
      clear hg11
      refine hc.mono ?_
      rintro e w10 ⟨rfl, k10⟩
      replace HW := hideR (below_go (unhideR HW) k10)
      replace H9 := hideR ((unhideR H9).go k10)
      replace H10 := hideR ((unhideR H10).go k10)
      replace H11 := hideR ((unhideR H11).go k10)
      clear hc k10 HX hpx hpl hmx hml
      have l11 := ltB (unhideR H11).at_
      have l0 := (unhideR HW).size
      have H12 := hideR ((CBox.new w10 M2).go (below_a _ (.cells #[.int .i64 0, .int .i64 0, .int .i64 0] 38)))
      have HSum : HeldR (CBox ((w10.alloc (.cells #[.int .i64 M2.x, .int .i64 M2.y, .int .i64 M2.z] 38)).alloc (.cells #[.int .i64 0, .int .i64 0, .int .i64 0] 38)) (w10.heap.size + 1) (pushK L 0)) := ⟨alloc_two _ _ _⟩
      replace HW := hideR (below_go (unhideR HW) (below_al2 w10 (.cells #[.int .i64 M2.x, .int .i64 M2.y, .int .i64 M2.z] 38) (.cells #[.int .i64 0, .int .i64 0, .int .i64 0] 38)))
      replace H9 := hideR ((unhideR H9).go (below_al2 w10 (.cells #[.int .i64 M2.x, .int .i64 M2.y, .int .i64 M2.z] 38) (.cells #[.int .i64 0, .int .i64 0, .int .i64 0] 38)))
      replace H10 := hideR ((unhideR H10).go (below_al2 w10 (.cells #[.int .i64 M2.x, .int .i64 M2.y, .int .i64 M2.z] 38) (.cells #[.int .i64 0, .int .i64 0, .int .i64 0] 38)))
      replace H11 := hideR ((unhideR H11).go (below_al2 w10 (.cells #[.int .i64 M2.x, .int .i64 M2.y, .int .i64 M2.z] 38) (.cells #[.int .i64 0, .int .i64 0, .int .i64 0] 38)))
      obtain ⟨ad, cap, rfl, hc⟩ := (unhideR HB).cut
      have HC := hideR hc
      clear hc HB HS
      go_wp2
      obtain ⟨g12, hg12⟩ : ∃ g, w10.heap.size = g := ⟨_, rfl⟩
      rw [hg12] at H12 HSum l11 ⊢
      obtain ⟨g13, hg13⟩ : ∃ g, g12 + 1 = g := ⟨_, rfl⟩
      rw [hg13] at HSum ⊢
      have n13 : w.heap.size ≤ g13 := by omega
      clear hg12
      generalize (w10.alloc (.cells #[.int .i64 M2.x, .int .i64 M2.y, .int .i64 M2.z] 38)).alloc (.cells #[.int .i64 0, .int .i64 0, .int .i64 0] 38) = W0 at *
      go_loopw [14] (fun kv wl => ∃ i : Nat, i ≤ L.length ∧ kv = .int .i64 (i : Nat) ∧ HeldR (CBox wl g13 (pushK L i)) ∧ HeldR (CBox wl g9 P) ∧ HeldR (CBox wl g10 P) ∧ HeldR (CBox wl g11 M) ∧ HeldR (CBox wl g12 M2) ∧ HeldR (Below w.heap.size w wl)) (fun kv _ => L.length + 1 - (intOf kv).toNat)
      case atStart => exact ⟨0, by omega, rfl, HSum, H9, H10, H11, H12, HW⟩
      case round =>
        clear HSum H9 H10 H11 H12 HW
        obtain ⟨i, hi, rfl, HSum, H9, H10, H11, H12, HW⟩ := hrel
        by_cases hlt : i < L.length
        · obtain ⟨b, off, rfl, hb, hat⟩ := (unhideR HC).at_ i hlt
          have HK := hideR hat
          have hmore := fun u => more_any _ _ _ u (push_more (unhideR HGL) hlt)
          have HNx : HeldR (pushK L (i + 1) = (pushK L i).add (Cl.mul (L.getD i bd0).m (L.getD i bd0).sp)) := rfl
          clear hat
          · skip
            generalize L.getD i bd0 = s at *
            generalize pushK L i = S at *
            go_wp2_with fail
            refine wp_region_made 0 #[true, true, true, true, true, true, true, true, true, true, true, true, false] [.lets (· = .agg #[.int .i64 S.x, .int .i64 S.y, .int .i64 S.z]),
              .lets (· = .slice (some ⟨b, off, none⟩) L.length cap),
              .lets (· = .int .i64 (i : Nat)),
              .lets (· = .pointer (some ⟨b, off + i * 7, none⟩)),
              .lets (· = .pointer (some ⟨b, off + i * 7 + 6, none⟩)),
              .lets (· = .int .i64 s.m),
              .lets (· = .slice (some ⟨b, off, none⟩) L.length cap),
              .lets (· = .int .i64 (i : Nat)),
              .lets (· = .pointer (some ⟨b, off + i * 7, none⟩)),
              .lets (· = .pointer (some ⟨b, off + i * 7 + 3, none⟩)),
              .lets (· = .agg #[.int .i64 s.sp.x, .int .i64 s.sp.y, .int .i64 s.sp.z]),
              .lets (· = (S.add (Cl.mul s.m s.sp)).val)] [] [] (by kernel_rfl) (by kernel_rfl) rfl ?kinds (by kernel_rfl) (by kernel_rfl) (by kernel_rfl) ?_
            case kinds =>
              constructor
              · intro i h
                rcases i with _ | _ | _ | _ | _ | _ | _ | _ | _ | _ | _ | _ | i <;> simp [Kx.isMade] at h
              · intro i h
                rcases i with _ | _ | _ | _ | _ | _ | _ | _ | _ | _ | _ | _ | i <;> simp [Kx.isUse] at h
            refine lexX_step (fun K hK => ⟨by kernel_rfl, ⟨_, rfl⟩, fun v hv => ?_, fun v hv => ?_⟩)
            · obtain ⟨⟨c0, c1, c2⟩, _⟩ := cell_at ((unhideR HSum).go hv).at_
              go_simp
              exact mUpon_b
            subst hv
            go_simp
            refine hK _ ?_
            clear hK K
            refine lexX_step (fun K hK => ⟨by kernel_rfl, ⟨_, rfl⟩, fun v hv => ?_, fun v hv => ?_⟩)
            · go_simp
              exact mUpon_b
            subst hv
            go_simp
            refine hK _ ?_
            clear hK K
            refine lexX_step (fun K hK => ⟨by kernel_rfl, ⟨_, rfl⟩, fun v hv => ?_, fun v hv => ?_⟩)
            · go_simp
              exact mUpon_b
            subst hv
            go_simp
            refine hK _ ?_
            clear hK K
            refine lexX_step (fun K hK => ⟨by kernel_rfl, ⟨_, rfl⟩, fun v hv => ?_, fun v hv => ?_⟩)
            · go_simp
              exact mUpon_b
            subst hv
            go_simp
            refine hK _ ?_
            clear hK K
            refine lexX_step (fun K hK => ⟨by kernel_rfl, ⟨_, rfl⟩, fun v hv => ?_, fun v hv => ?_⟩)
            · go_simp
              exact mUpon_b
            subst hv
            go_simp
            refine hK _ ?_
            clear hK K
            refine lexX_step (fun K hK => ⟨by kernel_rfl, ⟨_, rfl⟩, fun v hv => ?_, fun v hv => ?_⟩)
            · obtain ⟨c0, c1, c2, c3, c4, c5, c6⟩ := (unhideR HK).below (below_go (unhideR HW) hv) hb
              go_simp
              exact mUpon_b
            subst hv
            go_simp
            refine hK _ ?_
            clear hK K
            refine lexX_step (fun K hK => ⟨by kernel_rfl, ⟨_, rfl⟩, fun v hv => ?_, fun v hv => ?_⟩)
            · go_simp
              exact mUpon_b
            subst hv
            go_simp
            refine hK _ ?_
            clear hK K
            refine lexX_step (fun K hK => ⟨by kernel_rfl, ⟨_, rfl⟩, fun v hv => ?_, fun v hv => ?_⟩)
            · go_simp
              exact mUpon_b
            subst hv
            go_simp
            refine hK _ ?_
            clear hK K
            refine lexX_step (fun K hK => ⟨by kernel_rfl, ⟨_, rfl⟩, fun v hv => ?_, fun v hv => ?_⟩)
            · go_simp
              exact mUpon_b
            subst hv
            go_simp
            refine hK _ ?_
            clear hK K
            refine lexX_step (fun K hK => ⟨by kernel_rfl, ⟨_, rfl⟩, fun v hv => ?_, fun v hv => ?_⟩)
            · go_simp
              exact mUpon_b
            subst hv
            go_simp
            refine hK _ ?_
            clear hK K
            refine lexX_step (fun K hK => ⟨by kernel_rfl, ⟨_, rfl⟩, fun v hv => ?_, fun v hv => ?_⟩)
            · obtain ⟨c0, c1, c2, c3, c4, c5, c6⟩ := (unhideR HK).below (below_go (unhideR HW) hv) hb
              go_simp
              exact mUpon_b
            subst hv
            go_simp
            refine hK _ ?_
            clear hK K
            refine lexX_step (fun K hK => ⟨by kernel_rfl, ⟨_, rfl⟩, fun v hv => ?_, fun v hv => ?_⟩)
            · go_simp
              refine (hmore _).mono ?_
              rintro e w9 ⟨rfl, k⟩
              exact ⟨_, rfl, rfl, k⟩
            subst hv
            unfold Cl.val
            go_simp
            refine hK _ ?_
            clear hK K
            refine lexX_end (fun v hv => ?_)
            have h13 := (unhideR HSum).go hv.low
            obtain ⟨⟨c0, c1, c2⟩, f0, f1, f2⟩ := cell_at h13.at_
            have h9 := (unhideR H9).go hv.low
            have h10 := (unhideR H10).go hv.low
            have h11 := (unhideR H11).go hv.low
            have h12 := (unhideR H12).go hv.low
            have hW := below_go (unhideR HW) hv.low
            clear hv
            refine wpAny_step (i := 12) (by kernel_rfl) rfl (by kernel_rfl) (fun K hK => ?_)
            unfold Oper.wp
            go_simp
            refine hK _ _ ?_
            clear hK K
            refine wpAny_end (by kernel_rfl) ?_
            have HSum3 : HeldR (CBox (((v.setCell ⟨g13, 0, none⟩ (.int .i64 (S.add (Cl.mul s.m s.sp)).x)).setCell ⟨g13, 1, none⟩ (.int .i64 (S.add (Cl.mul s.m s.sp)).y)).setCell ⟨g13, 2, none⟩ (.int .i64 (S.add (Cl.mul s.m s.sp)).z)) g13 (pushK L (i + 1))) := by
              unfold HeldR
              rw [unhideR HNx]
              exact h13.set _
            have HW3 : HeldR (Below w.heap.size w (((v.setCell ⟨g13, 0, none⟩ (.int .i64 (S.add (Cl.mul s.m s.sp)).x)).setCell ⟨g13, 1, none⟩ (.int .i64 (S.add (Cl.mul s.m s.sp)).y)).setCell ⟨g13, 2, none⟩ (.int .i64 (S.add (Cl.mul s.m s.sp)).z))) := below_three hW (by omega) _ _ _
            have H93 : HeldR (CBox (((v.setCell ⟨g13, 0, none⟩ (.int .i64 (S.add (Cl.mul s.m s.sp)).x)).setCell ⟨g13, 1, none⟩ (.int .i64 (S.add (Cl.mul s.m s.sp)).y)).setCell ⟨g13, 2, none⟩ (.int .i64 (S.add (Cl.mul s.m s.sp)).z)) g9 P) := h9.other (by omega) _ _ _
            have H103 : HeldR (CBox (((v.setCell ⟨g13, 0, none⟩ (.int .i64 (S.add (Cl.mul s.m s.sp)).x)).setCell ⟨g13, 1, none⟩ (.int .i64 (S.add (Cl.mul s.m s.sp)).y)).setCell ⟨g13, 2, none⟩ (.int .i64 (S.add (Cl.mul s.m s.sp)).z)) g10 P) := h10.other (by omega) _ _ _
            have H113 : HeldR (CBox (((v.setCell ⟨g13, 0, none⟩ (.int .i64 (S.add (Cl.mul s.m s.sp)).x)).setCell ⟨g13, 1, none⟩ (.int .i64 (S.add (Cl.mul s.m s.sp)).y)).setCell ⟨g13, 2, none⟩ (.int .i64 (S.add (Cl.mul s.m s.sp)).z)) g11 M) := h11.other (by omega) _ _ _
            have H123 : HeldR (CBox (((v.setCell ⟨g13, 0, none⟩ (.int .i64 (S.add (Cl.mul s.m s.sp)).x)).setCell ⟨g13, 1, none⟩ (.int .i64 (S.add (Cl.mul s.m s.sp)).y)).setCell ⟨g13, 2, none⟩ (.int .i64 (S.add (Cl.mul s.m s.sp)).z)) g12 M2) := h12.other (by omega) _ _ _
            clear h9 h10 h11 h12 h13 hW c0 c1 c2 f0 f1 f2 HSum H9 H10 H11 H12 HW HK HNx
            generalize ((v.setCell ⟨g13, 0, none⟩ (.int .i64 (S.add (Cl.mul s.m s.sp)).x)).setCell ⟨g13, 1, none⟩ (.int .i64 (S.add (Cl.mul s.m s.sp)).y)).setCell ⟨g13, 2, none⟩ (.int .i64 (S.add (Cl.mul s.m s.sp)).z) = W16 at *
            go_wp2
            exact ⟨⟨i + 1, by omega, by go_num, HSum3, H93, H103, H113, H123, HW3⟩, by simp [intOf]; omega⟩
        · obtain rfl : i = L.length := by omega
          · skip
            replace HSum := hideR (show CBox wr g13 P from unhideR HP1 ▸ unhideR HSum)
            go_wp2_with fail
            refine wp_region_made 0 #[true, true, true, true, true, true, true, true, true, true, true, true, true, true, true, true, false] [.lets (· = .agg #[.int .i64 P.x, .int .i64 P.y, .int .i64 P.z]),
              .lets (· = .agg #[.int .i64 P.x, .int .i64 P.y, .int .i64 P.z]),
              .lets (· = .bool true),
              .lets (· = .bool true),
              .lets (· = .agg #[.int .i64 P.x, .int .i64 P.y, .int .i64 P.z]),
              .lets (· = .agg #[.int .i64 P.x, .int .i64 P.y, .int .i64 P.z]),
              .lets (· = .bool true),
              .lets (· = .bool true),
              .lets (· = .bool true),
              .lets (· = .agg #[.int .i64 M2.x, .int .i64 M2.y, .int .i64 M2.z]),
              .lets (· = .agg #[.int .i64 M.x, .int .i64 M.y, .int .i64 M.z]),
              .lets (· = .int .i64 steps),
              .lets (· = .agg #[.int .i64 P.x, .int .i64 P.y, .int .i64 P.z]),
              .lets (· = M2.val),
              .lets (· = .bool true),
              .lets (· = .bool true)] [] [] (by kernel_rfl) (by kernel_rfl) rfl ?kinds (by kernel_rfl) (by kernel_rfl) (by kernel_rfl) ?_
            case kinds =>
              constructor
              · intro i h
                rcases i with _ | _ | _ | _ | _ | _ | _ | _ | _ | _ | _ | _ | _ | _ | _ | _ | i <;> simp [Kx.isMade] at h
              · intro i h
                rcases i with _ | _ | _ | _ | _ | _ | _ | _ | _ | _ | _ | _ | _ | _ | _ | _ | i <;> simp [Kx.isUse] at h
            refine lexX_step (fun K hK => ⟨by kernel_rfl, ⟨_, rfl⟩, fun v hv => ?_, fun v hv => ?_⟩)
            · obtain ⟨⟨c0, c1, c2⟩, _⟩ := cell_at ((unhideR H9).go hv).at_
              go_simp
              exact mUpon_b
            subst hv
            go_simp
            refine hK _ ?_
            clear hK K
            refine lexX_step (fun K hK => ⟨by kernel_rfl, ⟨_, rfl⟩, fun v hv => ?_, fun v hv => ?_⟩)
            · obtain ⟨⟨c0, c1, c2⟩, _⟩ := cell_at ((unhideR HSum).go hv).at_
              go_simp
              exact mUpon_b
            subst hv
            go_simp
            refine hK _ ?_
            clear hK K
            refine lexX_step (fun K hK => ⟨by kernel_rfl, ⟨_, rfl⟩, fun v hv => ?_, fun v hv => ?_⟩)
            · go_simp
              exact mUpon_b
            subst hv
            go_simp
            refine hK _ ?_
            clear hK K
            refine lexX_step (fun K hK => ⟨by kernel_rfl, ⟨_, rfl⟩, fun v hv => ?_, fun v hv => ?_⟩)
            · go_simp
              exact mUpon_b
            subst hv
            go_simp
            refine hK _ ?_
            clear hK K
            refine lexX_step (fun K hK => ⟨by kernel_rfl, ⟨_, rfl⟩, fun v hv => ?_, fun v hv => ?_⟩)
            · obtain ⟨⟨c0, c1, c2⟩, _⟩ := cell_at ((unhideR H10).go hv).at_
              go_simp
              exact mUpon_b
            subst hv
            go_simp
            refine hK _ ?_
            clear hK K
            refine lexX_step (fun K hK => ⟨by kernel_rfl, ⟨_, rfl⟩, fun v hv => ?_, fun v hv => ?_⟩)
            · obtain ⟨⟨c0, c1, c2⟩, _⟩ := cell_at ((unhideR H9).go hv).at_
              go_simp
              exact mUpon_b
            subst hv
            go_simp
            refine hK _ ?_
            clear hK K
            refine lexX_step (fun K hK => ⟨by kernel_rfl, ⟨_, rfl⟩, fun v hv => ?_, fun v hv => ?_⟩)
            · go_simp
              exact mUpon_b
            subst hv
            go_simp
            refine hK _ ?_
            clear hK K
            refine lexX_step (fun K hK => ⟨by kernel_rfl, ⟨_, rfl⟩, fun v hv => ?_, fun v hv => ?_⟩)
            · go_simp
              exact mUpon_b
            subst hv
            go_simp
            refine hK _ ?_
            clear hK K
            refine lexX_step (fun K hK => ⟨by kernel_rfl, ⟨_, rfl⟩, fun v hv => ?_, fun v hv => ?_⟩)
            · go_simp
              exact mUpon_b
            subst hv
            go_simp
            refine hK _ ?_
            clear hK K
            refine lexX_step (fun K hK => ⟨by kernel_rfl, ⟨_, rfl⟩, fun v hv => ?_, fun v hv => ?_⟩)
            · obtain ⟨⟨c0, c1, c2⟩, _⟩ := cell_at ((unhideR H12).go hv).at_
              go_simp
              exact mUpon_b
            subst hv
            go_simp
            refine hK _ ?_
            clear hK K
            refine lexX_step (fun K hK => ⟨by kernel_rfl, ⟨_, rfl⟩, fun v hv => ?_, fun v hv => ?_⟩)
            · obtain ⟨⟨c0, c1, c2⟩, _⟩ := cell_at ((unhideR H11).go hv).at_
              go_simp
              exact mUpon_b
            subst hv
            go_simp
            refine hK _ ?_
            clear hK K
            refine lexX_step (fun K hK => ⟨by kernel_rfl, ⟨_, rfl⟩, fun v hv => ?_, fun v hv => ?_⟩)
            · go_simp
              exact mUpon_b
            subst hv
            go_simp
            refine hK _ ?_
            clear hK K
            refine lexX_step (fun K hK => ⟨by kernel_rfl, ⟨_, rfl⟩, fun v hv => ?_, fun v hv => ?_⟩)
            · obtain ⟨⟨c0, c1, c2⟩, _⟩ := cell_at ((unhideR H9).go hv).at_
              go_simp
              exact mUpon_b
            subst hv
            go_simp
            refine hK _ ?_
            clear hK K
            refine lexX_step (fun K hK => ⟨by kernel_rfl, ⟨_, rfl⟩, fun v hv => ?_, fun v hv => ?_⟩)
            · go_simp
              refine (hmore2 _).mono ?_
              rintro e w9 ⟨rfl, k⟩
              exact ⟨_, rfl, rfl, k⟩
            subst hv
            unfold Cl.val
            go_simp
            refine hK _ ?_
            clear hK K
            refine lexX_step (fun K hK => ⟨by kernel_rfl, ⟨_, rfl⟩, fun v hv => ?_, fun v hv => ?_⟩)
            · go_simp
              exact mUpon_b
            subst hv
            go_simp
            refine hK _ ?_
            clear hK K
            refine lexX_step (fun K hK => ⟨by kernel_rfl, ⟨_, rfl⟩, fun v hv => ?_, fun v hv => ?_⟩)
            · go_simp
              exact mUpon_b
            subst hv
            go_simp
            refine hK _ ?_
            clear hK K
            refine lexX_end (fun v hv => ?_)
            have hW := below_go (unhideR HW) hv.low
            clear hv
            refine wpAny_step (i := 16) (by kernel_rfl) rfl (by kernel_rfl) (fun K hK => ?_)
            unfold Oper.wp
            go_simp
            refine hK _ _ ?_
            clear hK K
            refine wpAny_end (by kernel_rfl) ?_
            go_wp2
            go_ret
            exact ⟨rfl, hW⟩
    · clear hP
      go_wp2
      go_ret
      exact ⟨rfl, unhideR HW⟩
end Go.Proofs.YtdngkmobkbiflagDoor
