/-
  A step: the document's, by contract.
-/
import Derived.Test.YtdngkmobkbiflagDoorKickN
namespace Go.Proofs.YtdngkmobkbiflagDoor
open Go Go.RowKit

/-- the first ones have drifted. -/
def df (s : Int) (K : List Bd) (i j : Nat) : Bd := if j < i then (drift s K).getD j bd0 else K.getD j bd0
theorem df_next {s : Int} {K : List Bd} {i j : Nat} (hi : i < K.length) : updB (df s K i) i { df s K i i with at_ := (K.getD i bd0).at_.add (Cl.mul s (K.getD i bd0).sp) } j = df s K (i + 1) j := by
  by_cases e : j = i
  · subst e
    rw [updB_same]
    unfold df
    rw [if_neg (by omega), if_pos (by omega)]
    unfold drift
    rw [getD_map K hi]
  · rw [updB_other e]
    unfold df
    by_cases h : j < i
    · rw [if_pos h, if_pos (by omega)]
    · rw [if_neg h, if_neg (by omega)]
def StepIs (w : World) (B : Nat) (s : Int) (L : List Bd) (v : Value) (ok : Bool) : Prop := (ok = true ∧ ∃ X, stepR s L = some X ∧ BOwn w B v X) ∨ (ok = false ∧ stepR s L = none ∧ v = .slice none 0 0)
theorem all_getD {p : Bd → Bool} {l : List Bd} : l.all p = true ↔ ∀ j, j < l.length → p (l.getD j bd0) = true := by
  rw [List.all_eq_true]
  constructor
  · intro h j hj
    have e : l.getD j bd0 = l[j] := by simp [List.getD, List.getElem?_eq_getElem hj]
    rw [e]
    exact h _ (List.getElem_mem hj)
  · intro h x hx
    obtain ⟨j, hj, rfl⟩ := List.getElem_of_mem hx
    have e : l.getD j bd0 = l[j] := by simp [List.getD, List.getElem?_eq_getElem hj]
    rw [← e]
    exact h j hj
set_option maxRecDepth 100000 in
set_option maxHeartbeats 3200000 in
theorem stepOf_nil (s : Int) (w : World) : Calls Tryd.prog 22 #[.slice none 0 0, .int .i64 s] w fun e w' => e = .returned (.tuple #[.slice none 0 0, .bool true]) ∧ w' = w := by
  go_enter Tryd.func22, Tryd.ntmps22
  go_wp2_with fail
  refine (kicked_nil s _).mono ?_
  rintro e w1 ⟨rfl, rfl⟩
  go_wp2
  go_loop [7] (fun iv => iv = .int .i64 0) (fun _ => 0)
  case atStart => rfl
  case round =>
    subst hrel
    go_wp2
    go_loop [8] (fun iv => iv = .int .i64 0) (fun _ => 0)
    case atStart => rfl
    case round =>
      subst hrel
      go_wp2_with fail
      refine (kicked_nil s _).mono ?_
      rintro e w1 ⟨rfl, rfl⟩
      go_wp2
      go_loop [10] (fun iv => iv = .int .i64 0) (fun _ => 0)
      case atStart => rfl
      case round =>
        subst hrel
        go_wp2
        go_ret2
        exact ⟨rfl, rfl⟩
set_option maxRecDepth 100000 in
set_option maxHeartbeats 3200000 in
theorem stepOf_row (a0 : Addr) (cap0 : Nat) (L : List Bd) (s : Int) (w : World) (hr : BCame w (some a0) L) (hl : L.length ≤ 12) (hm : mss L = true) (ha : ats L = true) (hsp : sps L = true) (hs : s = 1 ∨ s = -1) (hne : L ≠ []) :
    Calls Tryd.prog 22 #[.slice (some a0) L.length cap0, .int .i64 s] w fun e w' => ∃ v ok, e = .returned (.tuple #[v, .bool ok]) ∧ StepIs w' w.heap.size s L v ok ∧ Below w.heap.size w w' := by
  have hC : ∀ j, j < L.length → (L.getD j bd0).sp.In 3458764513821589504 := fun j hj => by
    obtain ⟨h1, h2, h3, h4, h5, h6⟩ := sps_all hsp j hj
    exact ⟨by omega, by omega, by omega, by omega, by omega, by omega⟩
  have hK1 := kicked_any (s := s) (BSl.row (cap := cap0) hr) hl hm ha hC hs
  have hKs : ∀ j, j < L.length → ((kick s L).getD j bd0).sp.In 3458764513821589504 := fun j hj => kick_size (C := 1048576) hs hm hl hj (sps_all hsp j hj)
  have hKa : ∀ j, j < L.length → ((kick s L).getD j bd0).at_.In 1048576 := fun j hj => by
    have h2 := ats_all (by rw [ats_kick s L]; exact ha) j (by rw [kick_length]; exact hj)
    exact h2
  have HStep : HeldR (∀ u B v ok, ok = (ats (drift s (kick s L)) && sps (stepV s L)) → (ok = true → BOwn u B v (stepV s L)) → (ok = false → v = .slice none 0 0) → StepIs u B s L v ok) := by
    intro u B v ok h1 h2 h3
    unfold StepIs stepR
    cases ok with
    | true => exact .inl ⟨rfl, stepV s L, by rw [if_pos h1.symm], h2 rfl⟩
    | false => exact .inr ⟨rfl, by rw [if_neg (by rw [← h1]; exact Bool.noConfusion)], h3 rfl⟩
  have hsz := kick_length s L
  have hKm : mss (kick s L) = true := by rw [mss_kick]; exact hm
  have hsv : stepV s L = kick s (drift s (kick s L)) := rfl
  rw [hsv] at HStep
  clear hr hC hsp ha hm hsv
  have hKne : kick s L ≠ [] := by
    intro e
    rw [e] at hsz
    exact hne (List.length_eq_zero_iff.1 hsz.symm)
  generalize kick s L = K0 at *
  obtain ⟨n, hn⟩ : ∃ n, L.length = n := ⟨_, rfl⟩
  rw [hn] at hl hKs hKa hsz hK1 ⊢
  have hs1 : -1 ≤ s ∧ s ≤ 1 := by omega
  have HSG := hideR hs
  have HKs := hideR hKs
  have HKa := hideR hKa
  have HKm := hideR hKm
  have hpos : ¬ n = 0 := fun e => hKne (List.length_eq_zero_iff.1 (hsz.trans e))
  clear hs hKs hKa hKm hn
  go_enter Tryd.func22, Tryd.ntmps22
  go_wp2_with fail
  refine hK1.mono ?_
  rintro e w1 ⟨u1, rfl, hO, hB⟩
  have HW := hideR hB
  clear hB hK1
  rcases hO with ⟨_, h⟩ | ⟨g, cap, rfl, hg, hF⟩
  · exact absurd h hKne
  rw [hsz] at hF ⊢
  have HF : HeldR (FOwn w1 g n (df s K0 0)) := hF.congr (fun j _ => by unfold df; rw [if_neg (by omega)])
  clear hF
  go_wp2
  go_loopw [7] (fun iv wl => ∃ i : Nat, i ≤ n ∧ iv = .int .i64 (i : Nat) ∧ HeldR (FOwn wl g n (df s K0 i)) ∧ HeldR (Below w.heap.size w wl)) (fun iv _ => n + 1 - (intOf iv).toNat)
  case atStart => exact ⟨0, by omega, rfl, HF, HW⟩
  case round =>
    clear HF HW
    obtain ⟨i, hi', rfl, HF, HW⟩ := hrel
    by_cases hlt : i < n
    · have hB := (unhideR HF).at_ i hlt
      have e1 : df s K0 i i = K0.getD i bd0 := by unfold df; rw [if_neg (by omega)]
      have HN : HeldR (∀ j, j < n → updB (df s K0 i) i { df s K0 i i with at_ := (K0.getD i bd0).at_.add (Cl.mul s (K0.getD i bd0).sp) } j = df s K0 (i + 1) j) := fun j _ => df_next (by omega)
      rw [e1] at hB
      have hx := unhideR HKs i hlt
      have hy := unhideR HKa i hlt
      have hok : MoreOk (K0.getD i bd0).at_ s (K0.getD i bd0).sp := by
        obtain ⟨x1, x2, x3, x4, x5, x6⟩ := hx
        obtain ⟨y1, y2, y3, y4, y5, y6⟩ := hy
        rcases unhideR HSG with rfl | rfl <;> exact ⟨by omega, by omega, by omega, by omega, by omega, by omega⟩
      have hmore := fun u => more_any _ _ _ u hok
      have HB := hideR hB
      have hgl := (unhideR HF).lt
      clear hx hy hok hB e1
      generalize K0.getD i bd0 = Bi at *
      go_wp2_with fail
      refine wp_region_made 0 #[true, true, true, true, true, true, true, true, true, true, true, true, true, true, true, true, false] [.lets (· = .slice (some ⟨g, 0, none⟩) n cap),
        .lets (· = .int .i64 (i : Nat)),
        .lets (· = .slice (some ⟨g, 0, none⟩) n cap),
        .lets (· = .int .i64 (i : Nat)),
        .lets (· = .pointer (some ⟨g, i * 7, none⟩)),
        .lets (· = .pointer (some ⟨g, i * 7, none⟩)),
        .lets (· = .agg #[.int .i64 Bi.at_.x, .int .i64 Bi.at_.y, .int .i64 Bi.at_.z]),
        .lets (· = .int .i64 s),
        .lets (· = .slice (some ⟨g, 0, none⟩) n cap),
        .lets (· = .int .i64 (i : Nat)),
        .lets (· = .pointer (some ⟨g, i * 7, none⟩)),
        .lets (· = .pointer (some ⟨g, i * 7 + 3, none⟩)),
        .lets (· = .agg #[.int .i64 Bi.sp.x, .int .i64 Bi.sp.y, .int .i64 Bi.sp.z]),
        .lets (· = (Bi.at_.add (Cl.mul s Bi.sp)).val),
        .lets (· = .pointer (some ⟨g, i * 7, none⟩)),
        .lets (· = .pointer (some ⟨g, i * 7, none⟩))] [] [] (by kernel_rfl) (by kernel_rfl) rfl ?kinds (by kernel_rfl) (by kernel_rfl) (by kernel_rfl) ?_
      case kinds =>
        constructor
        · intro i h
          rcases i with _ | _ | _ | _ | _ | _ | _ | _ | _ | _ | _ | _ | _ | _ | _ | _ | i <;> simp [Kx.isMade] at h
        · intro i h
          rcases i with _ | _ | _ | _ | _ | _ | _ | _ | _ | _ | _ | _ | _ | _ | _ | _ | i <;> simp [Kx.isUse] at h
      refine lexX_step (fun K hK => ⟨by kernel_rfl, ⟨_, rfl⟩, fun v hv => ?_, fun v hv => ?_⟩)
      · go_simp
        exact mUpon_b
      subst hv
      go_simp
      refine hK _ ?_
      clear hK K
      refine lexX_step (fun K hK => ⟨by kernel_rfl, ⟨_, rfl⟩, fun v hv => ?_, fun v hv => ?_⟩)
      · go_simp
        exact mUpon_b
      subst hv
      go_simp
      refine hK _ ?_
      clear hK K
      refine lexX_step (fun K hK => ⟨by kernel_rfl, ⟨_, rfl⟩, fun v hv => ?_, fun v hv => ?_⟩)
      · go_simp
        exact mUpon_b
      subst hv
      go_simp
      refine hK _ ?_
      clear hK K
      refine lexX_step (fun K hK => ⟨by kernel_rfl, ⟨_, rfl⟩, fun v hv => ?_, fun v hv => ?_⟩)
      · go_simp
        exact mUpon_b
      subst hv
      go_simp
      refine hK _ ?_
      clear hK K
      refine lexX_step (fun K hK => ⟨by kernel_rfl, ⟨_, rfl⟩, fun v hv => ?_, fun v hv => ?_⟩)
      · go_simp
        exact mUpon_b
      subst hv
      go_simp
      refine hK _ ?_
      clear hK K
      refine lexX_step (fun K hK => ⟨by kernel_rfl, ⟨_, rfl⟩, fun v hv => ?_, fun v hv => ?_⟩)
      · go_simp
        exact mUpon_b
      subst hv
      go_simp
      refine hK _ ?_
      clear hK K
      refine lexX_step (fun K hK => ⟨by kernel_rfl, ⟨_, rfl⟩, fun v hv => ?_, fun v hv => ?_⟩)
      · obtain ⟨c0, c1, c2, c3, c4, c5, c6⟩ := (unhideR HB).below hv hgl
        go_simp
        exact mUpon_b
      subst hv
      go_simp
      refine hK _ ?_
      clear hK K
      refine lexX_step (fun K hK => ⟨by kernel_rfl, ⟨_, rfl⟩, fun v hv => ?_, fun v hv => ?_⟩)
      · go_simp
        exact mUpon_b
      subst hv
      go_simp
      refine hK _ ?_
      clear hK K
      refine lexX_step (fun K hK => ⟨by kernel_rfl, ⟨_, rfl⟩, fun v hv => ?_, fun v hv => ?_⟩)
      · go_simp
        exact mUpon_b
      subst hv
      go_simp
      refine hK _ ?_
      clear hK K
      refine lexX_step (fun K hK => ⟨by kernel_rfl, ⟨_, rfl⟩, fun v hv => ?_, fun v hv => ?_⟩)
      · go_simp
        exact mUpon_b
      subst hv
      go_simp
      refine hK _ ?_
      clear hK K
      refine lexX_step (fun K hK => ⟨by kernel_rfl, ⟨_, rfl⟩, fun v hv => ?_, fun v hv => ?_⟩)
      · go_simp
        exact mUpon_b
      subst hv
      go_simp
      refine hK _ ?_
      clear hK K
      refine lexX_step (fun K hK => ⟨by kernel_rfl, ⟨_, rfl⟩, fun v hv => ?_, fun v hv => ?_⟩)
      · go_simp
        exact mUpon_b
      subst hv
      go_simp
      refine hK _ ?_
      clear hK K
      refine lexX_step (fun K hK => ⟨by kernel_rfl, ⟨_, rfl⟩, fun v hv => ?_, fun v hv => ?_⟩)
      · obtain ⟨c0, c1, c2, c3, c4, c5, c6⟩ := (unhideR HB).below hv hgl
        go_simp
        exact mUpon_b
      subst hv
      go_simp
      refine hK _ ?_
      clear hK K
      refine lexX_step (fun K hK => ⟨by kernel_rfl, ⟨_, rfl⟩, fun v hv => ?_, fun v hv => ?_⟩)
      · go_simp
        refine (hmore _).mono ?_
        rintro e w9 ⟨rfl, k⟩
        exact ⟨_, rfl, rfl, k⟩
      subst hv
      unfold Cl.val
      go_simp
      refine hK _ ?_
      clear hK K
      refine lexX_step (fun K hK => ⟨by kernel_rfl, ⟨_, rfl⟩, fun v hv => ?_, fun v hv => ?_⟩)
      · go_simp
        exact mUpon_b
      subst hv
      go_simp
      refine hK _ ?_
      clear hK K
      refine lexX_step (fun K hK => ⟨by kernel_rfl, ⟨_, rfl⟩, fun v hv => ?_, fun v hv => ?_⟩)
      · go_simp
        exact mUpon_b
      subst hv
      go_simp
      refine hK _ ?_
      clear hK K
      refine lexX_end (fun v hv => ?_)
      have hF := (unhideR HF).below hv.low hgl
      have hat := hF.at_ i hlt
      have c0 := hat.ax
      have c1 := hat.ay
      have c2 := hat.az
      have f0 := hF.free (i * 7)
      have f1 := hF.free (i * 7 + 1)
      have f2 := hF.free (i * 7 + 2)
      have hW := below_go (unhideR HW) hv.low
      clear hv hat
      refine wpAny_step (i := 16) (by kernel_rfl) rfl (by kernel_rfl) (fun K hK => ?_)
      unfold Oper.wp
      go_simp
      refine hK _ _ ?_
      clear hK K
      refine wpAny_end (by kernel_rfl) ?_
      have HF3 : HeldR (FOwn (((v.setCell ⟨g, i * 7, none⟩ (.int .i64 (Bi.at_.add (Cl.mul s Bi.sp)).x)).setCell ⟨g, i * 7 + 1, none⟩ (.int .i64 (Bi.at_.add (Cl.mul s Bi.sp)).y)).setCell ⟨g, i * 7 + 2, none⟩ (.int .i64 (Bi.at_.add (Cl.mul s Bi.sp)).z)) g n (df s K0 (i + 1))) := (hF.setAt hlt (Bi.at_.add (Cl.mul s Bi.sp))).congr (fun j hj => unhideR HN j hj)
      have HW3 : HeldR (Below w.heap.size w (((v.setCell ⟨g, i * 7, none⟩ (.int .i64 (Bi.at_.add (Cl.mul s Bi.sp)).x)).setCell ⟨g, i * 7 + 1, none⟩ (.int .i64 (Bi.at_.add (Cl.mul s Bi.sp)).y)).setCell ⟨g, i * 7 + 2, none⟩ (.int .i64 (Bi.at_.add (Cl.mul s Bi.sp)).z))) := below_set3c hW hg (Bi.at_.add (Cl.mul s Bi.sp))
      clear hF hW c0 c1 c2 f0 f1 f2 HF HW HB
      generalize ((v.setCell ⟨g, i * 7, none⟩ (.int .i64 (Bi.at_.add (Cl.mul s Bi.sp)).x)).setCell ⟨g, i * 7 + 1, none⟩ (.int .i64 (Bi.at_.add (Cl.mul s Bi.sp)).y)).setCell ⟨g, i * 7 + 2, none⟩ (.int .i64 (Bi.at_.add (Cl.mul s Bi.sp)).z) = W5 at *
      go_wp2
      exact ⟨⟨i + 1, by omega, by go_num, HF3, HW3⟩, by simp [intOf]; omega⟩
    · obtain rfl : i = n := by omega
      have HF0 : HeldR (FOwn wr g i (fun j => (drift s K0).getD j bd0)) := (unhideR HF).congr (fun j hj => by unfold df; rw [if_pos hj])
      have hDl : (drift s K0).length = i := by rw [drift_length]; exact hsz
      have HDs : HeldR (∀ j, j < i → ((drift s K0).getD j bd0).sp.In 3458764513821589504) := fun j hj => by
        unfold drift
        rw [getD_map K0 (by omega)]
        exact unhideR HKs j hj
      have HDm : HeldR (mss (drift s K0) = true) := by
        unfold HeldR
        rw [mss_drift]
        exact unhideR HKm
      clear HF HKs HKa HKm hlt hi' hKne hsz
      generalize drift s K0 = D at *
      go_wp2
      go_loopw [8] (fun iv wl => ∃ i' : Nat, i' ≤ i ∧ iv = .int .i64 (i' : Nat) ∧ HeldR (∀ j, j < i' → (D.getD j bd0).at_.In 1048576) ∧ HeldR (FOwn wl g i (fun j => D.getD j bd0)) ∧ HeldR (Below w.heap.size w wl)) (fun iv _ => i + 1 - (intOf iv).toNat)
      case atStart => exact ⟨0, by omega, rfl, hideR (fun j hj => absurd hj (by omega)), HF0, HW⟩
      case round =>
        clear HF0 HW
        obtain ⟨k, hk', rfl, HI, HF, HW⟩ := hrel
        by_cases hkl : k < i
        · have hB := (unhideR HF).at_ k hkl
          have hgl := (unhideR HF).lt
          have hin := fun u => inside_any (D.getD k bd0).at_ 1048576 u (by decide) (by decide)
          obtain ⟨c0, c1, c2, c3, c4, c5, c6⟩ := hB
          by_cases hd : (D.getD k bd0).at_.In 1048576
          · have HI2 : HeldR (∀ j, j < k + 1 → (D.getD j bd0).at_.In 1048576) := fun j hj => by
              by_cases e : j = k
              · subst e; exact hd
              · exact unhideR HI j (by omega)
            rw [decide_eq_true hd] at hin
            clear HI hd
            generalize D.getD k bd0 = Bk at *
            go_wp2_with fail
            refine (hin _).mono ?_
            rintro e w9 ⟨rfl, k9⟩
            replace HF := hideR ((unhideR HF).below k9 hgl)
            replace HW := hideR (below_go (unhideR HW) k9)
            clear k9 c0 c1 c2 c3 c4 c5 c6 hin
            go_wp2
            exact ⟨⟨k + 1, by omega, by go_num, HI2, HF, HW⟩, by simp [intOf]; omega⟩
          · have hbad : ats D = false := by
              cases e : ats D with
              | false => rfl
              | true => exact absurd (ats_all e k (by omega)) hd
            have HS := hideR (fun u v => unhideR HStep u w.heap.size v false (by rw [hbad]; rfl) (fun h => Bool.noConfusion h))
            rw [decide_eq_false hd] at hin
            clear HI hd hbad HStep
            generalize D.getD k bd0 = Bk at *
            go_wp2_with fail
            refine (hin _).mono ?_
            rintro e w9 ⟨rfl, k9⟩
            replace HW := hideR (below_go (unhideR HW) k9)
            clear k9 c0 c1 c2 c3 c4 c5 c6 hin HF
            go_wp2
            go_ret2
            exact ⟨_, _, rfl, unhideR HS _ _ (fun _ => rfl), unhideR HW⟩
        · obtain rfl : k = i := by omega
          have hats : ats D = true := all_getD.2 (fun j hj => decide_eq_true (unhideR HI j (by omega)))
          have hcame : BCame wr (some ⟨g, 0, none⟩) D := ⟨fun j hj => ⟨g, 0, rfl, (unhideR HF).lt, by rw [Nat.zero_add]; exact (unhideR HF).at_ j (by omega)⟩⟩
          have hK2 := kicked_any (s := s) (BSl.row (cap := cap) hcame) (by omega) (unhideR HDm) hats (fun j hj => unhideR HDs j (by omega)) (unhideR HSG)
          rw [hDl] at hK2
          have HS := unhideR HStep
          rw [hats, Bool.true_and] at HS
          replace HS := hideR HS
          have hKl : (kick s D).length = k := by rw [kick_length]; exact hDl
          clear HStep hats hcame HI HDs HDm
          generalize kick s D = E at *
          have HFo := HF
          clear HF
          go_wp2_with fail
          refine hK2.mono ?_
          rintro e w9 ⟨u2, rfl, hO, hB9⟩
          replace HW := hideR (below_go (unhideR HW) hB9)
          have hszw := (unhideR HFo).lt
          clear hK2 hB9 HFo
          obtain ⟨g2, cap2, rfl, hg2, hF2⟩ : ∃ g2 cap2, u2 = .slice (some ⟨g2, 0, none⟩) E.length cap2 ∧ wr.heap.size ≤ g2 ∧ FOwn w9 g2 E.length (fun j => E.getD j bd0) := by
            rcases hO with ⟨_, h⟩ | h
            · exfalso
              rw [h] at hKl
              have : k = 0 := hKl.symm
              exact absurd this hpos
            · exact h
          have HF2 := hideR hF2
          have hg3 : w.heap.size ≤ g2 := by omega
          clear hO hF2
          rw [hKl] at HF2 ⊢
          go_wp2
          go_loopw [10] (fun iv wl => ∃ i' : Nat, i' ≤ k ∧ iv = .int .i64 (i' : Nat) ∧ HeldR (∀ j, j < i' → (E.getD j bd0).sp.In 1048576) ∧ HeldR (FOwn wl g2 k (fun j => E.getD j bd0)) ∧ HeldR (Below w.heap.size w wl)) (fun iv _ => k + 1 - (intOf iv).toNat)
          case atStart => exact ⟨0, by omega, rfl, hideR (fun j hj => absurd hj (by omega)), HF2, HW⟩
          case round =>
            clear HF2 HW
            obtain ⟨q, hq', rfl, HI, HF, HW⟩ := hrel
            by_cases hql : q < k
            · have hB := (unhideR HF).at_ q hql
              have hgl := (unhideR HF).lt
              have hin := fun u => inside_any (E.getD q bd0).sp 1048576 u (by decide) (by decide)
              obtain ⟨c0, c1, c2, c3, c4, c5, c6⟩ := hB
              by_cases hd : (E.getD q bd0).sp.In 1048576
              · have HI2 : HeldR (∀ j, j < q + 1 → (E.getD j bd0).sp.In 1048576) := fun j hj => by
                  by_cases e : j = q
                  · subst e; exact hd
                  · exact unhideR HI j (by omega)
                rw [decide_eq_true hd] at hin
                clear HI hd
                generalize E.getD q bd0 = Bq at *
                go_wp2_with fail
                refine (hin _).mono ?_
                rintro e w9 ⟨rfl, k9⟩
                replace HF := hideR ((unhideR HF).below k9 hgl)
                replace HW := hideR (below_go (unhideR HW) k9)
                clear k9 c0 c1 c2 c3 c4 c5 c6 hin
                go_wp2
                exact ⟨⟨q + 1, by omega, by go_num, HI2, HF, HW⟩, by simp [intOf]; omega⟩
              · have hbad : sps E = false := by
                  cases e : sps E with
                  | false => rfl
                  | true => exact absurd (sps_all e q (by omega)) hd
                have HS2 := hideR (fun u v => unhideR HS u w.heap.size v false hbad.symm (fun h => Bool.noConfusion h))
                rw [decide_eq_false hd] at hin
                clear HI hd hbad HS
                generalize E.getD q bd0 = Bq at *
                go_wp2_with fail
                refine (hin _).mono ?_
                rintro e w9 ⟨rfl, k9⟩
                replace HW := hideR (below_go (unhideR HW) k9)
                clear k9 c0 c1 c2 c3 c4 c5 c6 hin HF
                go_wp2
                go_ret2
                exact ⟨_, _, rfl, unhideR HS2 _ _ (fun _ => rfl), unhideR HW⟩
            · obtain rfl : q = k := by omega
              have hsps : sps E = true := all_getD.2 (fun j hj => decide_eq_true (unhideR HI j (by omega)))
              have hE : StepIs wr w.heap.size s L (.slice (some ⟨g2, 0, none⟩) q cap2) true := unhideR HS wr w.heap.size _ true hsps.symm (fun _ => .inr ⟨g2, cap2, by rw [hKl], hg3, by rw [hKl]; exact unhideR HF⟩) (fun h => Bool.noConfusion h)
              have HE := hideR hE
              clear hE hsps HI HS HF
              go_wp2
              go_ret2
              exact ⟨_, _, rfl, unhideR HE, unhideR HW⟩
end Go.Proofs.YtdngkmobkbiflagDoor
