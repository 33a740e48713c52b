/-
  A kick, pair by pair: the document's, by contract.
-/
import Derived.Test.YtdngkmobkbiflagDoorOwnB
import Derived.Test.YtdngkmobkbiflagDoorPair
namespace Go.Proofs.YtdngkmobkbiflagDoor
open Go Go.RowKit

theorem add_pl (b off j : Nat) : (⟨b, off, none⟩ : Addr).add j = ⟨b, off + j, none⟩ := by simp [Addr.add]
theorem came_cells {w : World} {a0 : Addr} {L : List Bd} (h : BCame w (some a0) L) : ∀ j u, (flatB L)[j]? = some u → w.cell? (a0.add j) = some u := by
  intro j u hu
  have hj : j < L.length * 7 := by
    have := (List.getElem?_eq_some_iff.1 hu).1
    rwa [flatB_length] at this
  obtain ⟨b, off, e, _, hat⟩ := h.at_ (j / 7) (by omega)
  cases e
  have e1 : j = j / 7 * 7 + j % 7 := by omega
  have h2 := hat.all (j % 7) (by omega)
  rw [← flatB_at L (j / 7) (j % 7) (by omega) (by omega), ← e1, hu] at h2
  rw [add_pl]
  have e2 : off + j / 7 * 7 + j % 7 = off + j := by omega
  rw [← e2]
  exact h2
theorem mss_all {l : List Bd} (h : mss l = true) : ∀ j, 0 ≤ (l.getD j bd0).m ∧ (l.getD j bd0).m ≤ 65536 := by
  intro j
  by_cases hj : j < l.length
  · unfold mss at h
    rw [List.all_eq_true] at h
    have e : l.getD j bd0 = l[j] := by simp [List.getD, List.getElem?_eq_getElem hj]
    rw [e]
    exact of_decide_eq_true (h _ (List.getElem_mem hj))
  · have e : l.getD j bd0 = bd0 := by simp [List.getD, List.getElem?_eq_none (Nat.le_of_not_lt hj)]
    rw [e]
    decide
theorem ats_all {l : List Bd} (h : ats l = true) : ∀ j, j < l.length → (l.getD j bd0).at_.In 1048576 := by
  intro j hj
  unfold ats at h
  rw [List.all_eq_true] at h
  have e : l.getD j bd0 = l[j] := by simp [List.getD, List.getElem?_eq_getElem hj]
  rw [e]
  exact of_decide_eq_true (h _ (List.getElem_mem hj))
theorem sps_all {l : List Bd} (h : sps l = true) : ∀ j, j < l.length → (l.getD j bd0).sp.In 1048576 := by
  intro j hj
  unfold sps at h
  rw [List.all_eq_true] at h
  have e : l.getD j bd0 = l[j] := by simp [List.getD, List.getElem?_eq_getElem hj]
  rw [e]
  exact of_decide_eq_true (h _ (List.getElem_mem hj))
def zeroC : Obj := .cells #[.int .i64 0, .int .i64 0, .int .i64 0] 38
/-- one kick's word is in reach. -/
theorem more_ok {a p : Cl} {k : Int} (h1 : -65536 ≤ k) (h2 : k ≤ 65536) (hp : p.In 4398046511104) (hs : (a.add (Cl.mul k p)).In 6917529027642130432) : MoreOk a k p := by
  have x := prod_size h1 h2 hp.x1 hp.x2
  have y := prod_size h1 h2 hp.y1 hp.y2
  have z := prod_size h1 h2 hp.z1 hp.z2
  obtain ⟨s1, s2, s3, s4, s5, s6⟩ := hs
  simp only [Cl.add, Cl.mul] at s1 s2 s3 s4 s5 s6
  exact ⟨by omega, by omega, by omega, by omega, by omega, by omega⟩
theorem set3c_blk {w : World} {g o b : Nat} {p : Cl} (h : b ≠ g) : (set3c w g o p).heap[b]? = w.heap[b]? := by
  unfold set3c
  rw [heap_setCell_other _ _ _ _ h, heap_setCell_other _ _ _ _ h, heap_setCell_other _ _ _ _ h]
theorem updB_other {f : Nat → Bd} {k j : Nat} {s : Bd} (h : j ≠ k) : updB f k s j = f j := by
  unfold updB
  rw [if_neg h]
theorem updB_same {f : Nat → Bd} {k : Nat} {s : Bd} : updB f k s k = s := by
  unfold updB
  rw [if_pos rfl]
theorem pair_next {L : List Bd} {s : Int} {i k : Nat} (hik : i < k) {X Y : Cl} (h1 : (kf L s i (k + 1) i).sp = X) (h2 : (kf L s i (k + 1) k).sp = Y) (j : Nat) :
    updB (updB (kf L s i k) i { kf L s i k i with sp := X }) k { updB (kf L s i k) i { kf L s i k i with sp := X } k with sp := Y } j = kf L s i (k + 1) j := by
  by_cases e : j = k
  · subst e
    rw [updB_same, updB_other (by omega), ← h2]
    rfl
  · rw [updB_other e]
    by_cases e2 : j = i
    · subst e2
      rw [updB_same, ← h1]
      rfl
    · rw [updB_other e2, kf_same e2 e]
theorem sgn_size {s m : Int} (hs : s = 1 ∨ s = -1) (h1 : 0 ≤ m) (h2 : m ≤ 65536) : -65536 ≤ s * m ∧ s * m ≤ 65536 := by
  rcases hs with rfl | rfl <;> omega
set_option maxRecDepth 100000 in
set_option maxHeartbeats 3200000 in
theorem kicked_some (a0 : Addr) (cap : Nat) (L : List Bd) (s : Int) (w : World) (hr : BCame w (some a0) L) (hl : L.length ≤ 12) (hm : mss L = true) (ha : ats L = true) (hsp : ∀ j, j < L.length → (L.getD j bd0).sp.In 3458764513821589504) (hs : s = 1 ∨ s = -1) :
    Calls Tryd.prog 33 #[.slice (some a0) L.length cap, .int .i64 s] w fun e w' => ∃ v, e = .returned v ∧ BOwn w' w.heap.size v (kick s L) ∧ Below w.heap.size w w' := by
  obtain ⟨i0, hi, hz0, hz1, hz2⟩ := info_parts infoRB
  have HR := hideR hr
  have HM := hideR (mss_all hm)
  have HA := hideR (ats_all ha)
  have HS := hideR hsp
  have hs1 : -1 ≤ s ∧ s ≤ 1 := by omega
  have HSG := hideR hs
  clear hr hm ha hsp hs
  go_enter Tryd.func33, Tryd.ntmps33
  go_wp2_with (first
    | (at_builtin; refine wpList_append_own _ rfl _ _ 22 rfl w.heap.size 44 i0 bz 7 56 Tryd.underlying22 hi hz0 hz1 hz2 rfl (by decide) _ _ _ rfl (World.ownsRow_nil _ _ _ _) a0 L.length cap (flatB L) rfl (flatB_length L) ?p1 ?p2 ?p3 ?p4 ?p5 ?_))
  case p1 => exact came_cells (unhideR HR)
  case p2 => exact flatB_one L
  case p3 => unfold maxLen; omega
  case p4 => omega
  case p5 => omega
  intro v' w2 hown hgrow _
  have HW := hideR ((Below.refl w.heap.size w).grown hgrow (Nat.le_refl _) (fun g h => by cases h))
  have hO : w2.ownsRow w.heap.size 44 7 v' L.length (flatB L) := by simpa using hown
  rcases own_rowB hO with ⟨rfl, rfl⟩ | ⟨g, cap', rfl, hg, hF⟩
  · clear hown hgrow hO HR HM HA HS
    go_wp2
    go_loop [6] (fun iv => iv = .int .i64 0) (fun _ => 0)
    case atStart => rfl
    case round =>
      subst hrel
      go_wp2
      go_ret
      exact ⟨_, rfl, .inl ⟨rfl, rfl⟩, unhideR HW⟩
  · have HF : HeldR (FOwn w2 g L.length (kf L s 0 1)) := hF.congr (fun j _ => (kf_start L s j).symm)
    clear hown hgrow hO hF
    go_wp2
    go_loopw [6] (fun iv wl => ∃ i : Nat, i ≤ L.length ∧ iv = .int .i64 (i : Nat) ∧ HeldR (FOwn wl g L.length (kf L s i (i + 1))) ∧ HeldR (Below w.heap.size w wl)) (fun iv _ => L.length + 1 - (intOf iv).toNat)
    case atStart => exact ⟨0, by omega, rfl, HF, HW⟩
    case round =>
      clear HF HW
      obtain ⟨i, hi', rfl, HF, HW⟩ := hrel
      by_cases hlt : i < L.length
      · go_wp2
        go_loopw [7] (fun kv wl => ∃ k : Nat, i < k ∧ k ≤ L.length ∧ kv = .int .i64 (k : Nat) ∧ HeldR (FOwn wl g L.length (kf L s i k)) ∧ HeldR (Below w.heap.size w wl)) (fun kv _ => L.length + 1 - (intOf kv).toNat)
        case atStart => exact ⟨i + 1, by omega, by omega, by go_num, HF, HW⟩
        case round =>
          clear HF HW
          obtain ⟨k, hik, hk', rfl, HF, HW⟩ := hrel
          by_cases hkl : k < L.length
          · have hrow := unhideR HR
            obtain ⟨b, off, e, hb, hatk⟩ := hrow.at_ k hkl
            obtain rfl : a0 = ⟨b, off, none⟩ := by injection e
            obtain ⟨b', off', e', hb', hati⟩ := hrow.at_ i hlt
            cases e'
            clear e hrow hb'
            have HK := hideR hatk
            have HI := hideR hati
            have hai := unhideR HA i hlt
            have hak := unhideR HA k hkl
            have hmi := unhideR HM i
            have hmk := unhideR HM k
            have m1 := sgn_size (unhideR HSG) hmk.1 hmk.2
            have m2 : -65536 ≤ -s * (L.getD i bd0).m ∧ -s * (L.getD i bd0).m ≤ 65536 := sgn_size (by rcases unhideR HSG with h | h <;> omega) hmi.1 hmi.2
            have f1 := kf_first (l := L) (s := s) (i := i) (k := k)
            have f2 := kf_second (l := L) (s := s) hik
            have z1 := kf_size (unhideR HSG) (unhideR HM) (i := i) (k := k + 1) (j := i) hl (by omega) (.inl hlt) (unhideR HS i hlt)
            have z2 := kf_size (unhideR HSG) (unhideR HM) (i := i) (k := k + 1) (j := k) hl (by omega) (.inl hlt) (unhideR HS k hkl)
            rw [f1] at z1
            rw [f2] at z2
            have pz := pullV_size ((L.getD k bd0).at_.sub (L.getD i bd0).at_)
            have M1 := more_ok m1.1 m1.2 pz z1
            have M2 := more_ok m2.1 m2.2 pz z2
            have hless := fun u => less_any _ _ u hak hai
            have hpull := fun u => pullOf_any ((L.getD k bd0).at_.sub (L.getD i bd0).at_) u
            have hmore1 := fun u => more_any _ _ _ u M1
            have hmore2 := fun u => more_any _ _ _ u M2
            have hgl := (unhideR HF).lt
            clear hatk hati hai hak hmi hmk z1 z2 pz M1 M2
            have hw1 : IntKind.i64.wrap (s * (L.getD k bd0).m) = s * (L.getD k bd0).m := iwrap (by omega) (by omega)
            have hw2 : IntKind.i64.wrap (-s * (L.getD i bd0).m) = -s * (L.getD i bd0).m := iwrap (by omega) (by omega)
            have hw3 : IntKind.i64.wrap (-s) = -s := iwrap (by omega) (by omega)
            clear m1 m2
            generalize hFi : kf L s i k i = Fi at f1 hmore1
            generalize hFk : kf L s i k k = Fk at f2 hmore2
            have HFI := hideR hFi
            have HFK := hideR hFk
            have H1 := hideR f1
            have H2 := hideR f2
            clear hFi hFk f1 f2
            generalize L.getD k bd0 = Bk at *
            generalize L.getD i bd0 = Bi at *
            generalize pullV (Bk.at_.sub Bi.at_) = P at *
            go_wp2_with fail
            refine wp_region_made 0 #[true, true, true, true, true, true, true, true, true, true, true, true, true, false] [.lets (· = .slice (some ⟨b, off, none⟩) L.length cap),
              .lets (· = .int .i64 (k : Nat)),
              .lets (· = .pointer (some ⟨b, off + k * 7, none⟩)),
              .lets (· = .pointer (some ⟨b, off + k * 7, none⟩)),
              .lets (· = .agg #[.int .i64 Bk.at_.x, .int .i64 Bk.at_.y, .int .i64 Bk.at_.z]),
              .lets (· = .slice (some ⟨b, off, none⟩) L.length cap),
              .lets (· = .int .i64 (i : Nat)),
              .lets (· = .pointer (some ⟨b, off + i * 7, none⟩)),
              .lets (· = .pointer (some ⟨b, off + i * 7, none⟩)),
              .lets (· = .agg #[.int .i64 Bi.at_.x, .int .i64 Bi.at_.y, .int .i64 Bi.at_.z]),
              .lets (· = (Bk.at_.sub Bi.at_).val),
              .lets (· = P.val),
              .new zeroC] [] [] (by kernel_rfl) (by kernel_rfl) rfl ?kinds (by kernel_rfl) (by kernel_rfl) (by kernel_rfl) ?_
            case kinds =>
              constructor
              · intro i h
                rcases i with _ | _ | _ | _ | _ | _ | _ | _ | _ | _ | _ | _ | _ | i <;> simp [Kx.isMade] at h
              · intro i h
                rcases i with _ | _ | _ | _ | _ | _ | _ | _ | _ | _ | _ | _ | _ | i <;> simp [Kx.isUse] at h
            refine lexX_step (fun K hK => ⟨by kernel_rfl, ⟨_, rfl⟩, fun v hv => ?_, fun v hv => ?_⟩)
            · go_simp
              exact mUpon_b
            subst hv
            go_simp
            refine hK _ ?_
            clear hK K
            refine lexX_step (fun K hK => ⟨by kernel_rfl, ⟨_, rfl⟩, fun v hv => ?_, fun v hv => ?_⟩)
            · go_simp
              exact mUpon_b
            subst hv
            go_simp
            refine hK _ ?_
            clear hK K
            refine lexX_step (fun K hK => ⟨by kernel_rfl, ⟨_, rfl⟩, fun v hv => ?_, fun v hv => ?_⟩)
            · go_simp
              exact mUpon_b
            subst hv
            go_simp
            refine hK _ ?_
            clear hK K
            refine lexX_step (fun K hK => ⟨by kernel_rfl, ⟨_, rfl⟩, fun v hv => ?_, fun v hv => ?_⟩)
            · go_simp
              exact mUpon_b
            subst hv
            go_simp
            refine hK _ ?_
            clear hK K
            refine lexX_step (fun K hK => ⟨by kernel_rfl, ⟨_, rfl⟩, fun v hv => ?_, fun v hv => ?_⟩)
            · obtain ⟨c0, c1, c2, c3, c4, c5, c6⟩ := (unhideR HK).below (below_go (unhideR HW) hv) hb
              go_simp
              exact mUpon_b
            subst hv
            go_simp
            refine hK _ ?_
            clear hK K
            refine lexX_step (fun K hK => ⟨by kernel_rfl, ⟨_, rfl⟩, fun v hv => ?_, fun v hv => ?_⟩)
            · go_simp
              exact mUpon_b
            subst hv
            go_simp
            refine hK _ ?_
            clear hK K
            refine lexX_step (fun K hK => ⟨by kernel_rfl, ⟨_, rfl⟩, fun v hv => ?_, fun v hv => ?_⟩)
            · go_simp
              exact mUpon_b
            subst hv
            go_simp
            refine hK _ ?_
            clear hK K
            refine lexX_step (fun K hK => ⟨by kernel_rfl, ⟨_, rfl⟩, fun v hv => ?_, fun v hv => ?_⟩)
            · go_simp
              exact mUpon_b
            subst hv
            go_simp
            refine hK _ ?_
            clear hK K
            refine lexX_step (fun K hK => ⟨by kernel_rfl, ⟨_, rfl⟩, fun v hv => ?_, fun v hv => ?_⟩)
            · go_simp
              exact mUpon_b
            subst hv
            go_simp
            refine hK _ ?_
            clear hK K
            refine lexX_step (fun K hK => ⟨by kernel_rfl, ⟨_, rfl⟩, fun v hv => ?_, fun v hv => ?_⟩)
            · obtain ⟨c0, c1, c2, c3, c4, c5, c6⟩ := (unhideR HI).below (below_go (unhideR HW) hv) hb
              go_simp
              exact mUpon_b
            subst hv
            go_simp
            refine hK _ ?_
            clear hK K
            refine lexX_step (fun K hK => ⟨by kernel_rfl, ⟨_, rfl⟩, fun v hv => ?_, fun v hv => ?_⟩)
            · go_simp
              refine (hless _).mono ?_
              rintro e w9 ⟨rfl, k⟩
              exact ⟨_, rfl, rfl, k⟩
            subst hv
            unfold Cl.val
            go_simp
            refine hK _ ?_
            clear hK K
            refine lexX_step (fun K hK => ⟨by kernel_rfl, ⟨_, rfl⟩, fun v hv => ?_, fun v hv => ?_⟩)
            · go_simp
              refine (hpull _).mono ?_
              rintro e w9 ⟨rfl, k⟩
              exact ⟨_, rfl, rfl, k⟩
            subst hv
            unfold Cl.val
            go_simp
            refine hK _ ?_
            clear hK K
            refine lexX_new (fin0.some _) (fun g8 fg8 K hK => ⟨by kernel_rfl, fun v => ?_, ?_⟩)
            · go_simp
              exact ⟨rfl, rfl⟩
            unfold ptr
            go_simp
            refine hK _ ?_
            clear hK K
            refine lexX_end (fun v hv => ?_)
            have h0 : v.heap[g8]? = some zeroC := hv.held g8 zeroC (by unfold Hd.put; rw [if_pos rfl])
            unfold zeroC at h0
            have hge := fg8.ge
            have hlow := below_three hv.low hge (.int .i64 P.x) (.int .i64 P.y) (.int .i64 P.z)
            obtain ⟨⟨c0, c1, c2⟩, f0, f1, f2⟩ := cell_at h0
            clear hv fg8
            refine wpAny_step (i := 13) (by kernel_rfl) rfl (by kernel_rfl) (fun K hK => ?_)
            unfold Oper.wp
            go_simp
            refine hK _ _ ?_
            clear hK K
            refine wpAny_end (by kernel_rfl) ?_
            have HP : HeldR (CBox (((v.setCell ⟨g8, 0, none⟩ (.int .i64 P.x)).setCell ⟨g8, 1, none⟩ (.int .i64 P.y)).setCell ⟨g8, 2, none⟩ (.int .i64 P.z)) g8 P) := ⟨set3 h0⟩
            replace HF := hideR ((unhideR HF).below hlow hgl)
            replace HW := hideR (below_go (unhideR HW) hlow)
            have hgl := (unhideR HF).lt
            have hg8 : g8 ≠ g := by omega
            clear h0 hlow c0 c1 c2 f0 f1 f2 hge
            generalize ((v.setCell ⟨g8, 0, none⟩ (.int .i64 P.x)).setCell ⟨g8, 1, none⟩ (.int .i64 P.y)).setCell ⟨g8, 2, none⟩ (.int .i64 P.z) = W9 at *
            go_wp2_with fail
            refine wp_region_made 0 #[true, true, true, true, true, true, true, true, true, true, true, true, true, true, true, true, true, true, false] [.lets (· = .slice (some ⟨g, 0, none⟩) L.length cap'),
              .lets (· = .int .i64 (i : Nat)),
              .lets (· = .slice (some ⟨g, 0, none⟩) L.length cap'),
              .lets (· = .int .i64 (i : Nat)),
              .lets (· = .pointer (some ⟨g, i * 7, none⟩)),
              .lets (· = .pointer (some ⟨g, i * 7 + 3, none⟩)),
              .lets (· = .agg #[.int .i64 Fi.sp.x, .int .i64 Fi.sp.y, .int .i64 Fi.sp.z]),
              .lets (· = .int .i64 s),
              .lets (· = .slice (some ⟨b, off, none⟩) L.length cap),
              .lets (· = .int .i64 (k : Nat)),
              .lets (· = .pointer (some ⟨b, off + k * 7, none⟩)),
              .lets (· = .pointer (some ⟨b, off + k * 7 + 6, none⟩)),
              .lets (· = .int .i64 Bk.m),
              .lets (· = .int .i64 (s * Bk.m)),
              .lets (· = .agg #[.int .i64 P.x, .int .i64 P.y, .int .i64 P.z]),
              .lets (· = (Fi.sp.add (Cl.mul (s * Bk.m) P)).val),
              .lets (· = .pointer (some ⟨g, i * 7, none⟩)),
              .lets (· = .pointer (some ⟨g, i * 7 + 3, none⟩))] [] [] (by kernel_rfl) (by kernel_rfl) rfl ?kinds (by kernel_rfl) (by kernel_rfl) (by kernel_rfl) ?_
            case kinds =>
              constructor
              · intro i h
                rcases i with _ | _ | _ | _ | _ | _ | _ | _ | _ | _ | _ | _ | _ | _ | _ | _ | _ | _ | i <;> simp [Kx.isMade] at h
              · intro i h
                rcases i with _ | _ | _ | _ | _ | _ | _ | _ | _ | _ | _ | _ | _ | _ | _ | _ | _ | _ | i <;> simp [Kx.isUse] at h
            refine lexX_step (fun K hK => ⟨by kernel_rfl, ⟨_, rfl⟩, fun v hv => ?_, fun v hv => ?_⟩)
            · go_simp
              exact mUpon_b
            subst hv
            go_simp
            refine hK _ ?_
            clear hK K
            refine lexX_step (fun K hK => ⟨by kernel_rfl, ⟨_, rfl⟩, fun v hv => ?_, fun v hv => ?_⟩)
            · go_simp
              exact mUpon_b
            subst hv
            go_simp
            refine hK _ ?_
            clear hK K
            refine lexX_step (fun K hK => ⟨by kernel_rfl, ⟨_, rfl⟩, fun v hv => ?_, fun v hv => ?_⟩)
            · go_simp
              exact mUpon_b
            subst hv
            go_simp
            refine hK _ ?_
            clear hK K
            refine lexX_step (fun K hK => ⟨by kernel_rfl, ⟨_, rfl⟩, fun v hv => ?_, fun v hv => ?_⟩)
            · go_simp
              exact mUpon_b
            subst hv
            go_simp
            refine hK _ ?_
            clear hK K
            refine lexX_step (fun K hK => ⟨by kernel_rfl, ⟨_, rfl⟩, fun v hv => ?_, fun v hv => ?_⟩)
            · go_simp
              exact mUpon_b
            subst hv
            go_simp
            refine hK _ ?_
            clear hK K
            refine lexX_step (fun K hK => ⟨by kernel_rfl, ⟨_, rfl⟩, fun v hv => ?_, fun v hv => ?_⟩)
            · go_simp
              exact mUpon_b
            subst hv
            go_simp
            refine hK _ ?_
            clear hK K
            refine lexX_step (fun K hK => ⟨by kernel_rfl, ⟨_, rfl⟩, fun v hv => ?_, fun v hv => ?_⟩)
            · obtain ⟨c0, c1, c2, c3, c4, c5, c6⟩ := ((unhideR HFI ▸ (unhideR HF).at_ i hlt : BAt _ g (i * 7) Fi)).below hv hgl
              go_simp
              exact mUpon_b
            subst hv
            go_simp
            refine hK _ ?_
            clear hK K
            refine lexX_step (fun K hK => ⟨by kernel_rfl, ⟨_, rfl⟩, fun v hv => ?_, fun v hv => ?_⟩)
            · go_simp
              exact mUpon_b
            subst hv
            go_simp
            refine hK _ ?_
            clear hK K
            refine lexX_step (fun K hK => ⟨by kernel_rfl, ⟨_, rfl⟩, fun v hv => ?_, fun v hv => ?_⟩)
            · go_simp
              exact mUpon_b
            subst hv
            go_simp
            refine hK _ ?_
            clear hK K
            refine lexX_step (fun K hK => ⟨by kernel_rfl, ⟨_, rfl⟩, fun v hv => ?_, fun v hv => ?_⟩)
            · go_simp
              exact mUpon_b
            subst hv
            go_simp
            refine hK _ ?_
            clear hK K
            refine lexX_step (fun K hK => ⟨by kernel_rfl, ⟨_, rfl⟩, fun v hv => ?_, fun v hv => ?_⟩)
            · go_simp
              exact mUpon_b
            subst hv
            go_simp
            refine hK _ ?_
            clear hK K
            refine lexX_step (fun K hK => ⟨by kernel_rfl, ⟨_, rfl⟩, fun v hv => ?_, fun v hv => ?_⟩)
            · go_simp
              exact mUpon_b
            subst hv
            go_simp
            refine hK _ ?_
            clear hK K
            refine lexX_step (fun K hK => ⟨by kernel_rfl, ⟨_, rfl⟩, fun v hv => ?_, fun v hv => ?_⟩)
            · obtain ⟨c0, c1, c2, c3, c4, c5, c6⟩ := (unhideR HK).below (below_go (unhideR HW) hv) hb
              go_simp
              exact mUpon_b
            subst hv
            go_simp
            refine hK _ ?_
            clear hK K
            refine lexX_step (fun K hK => ⟨by kernel_rfl, ⟨_, rfl⟩, fun v hv => ?_, fun v hv => ?_⟩)
            · go_simp
              exact mUpon_b
            subst hv
            go_simp
            refine hK _ ?_
            clear hK K
            refine lexX_step (fun K hK => ⟨by kernel_rfl, ⟨_, rfl⟩, fun v hv => ?_, fun v hv => ?_⟩)
            · obtain ⟨⟨c0, c1, c2⟩, _⟩ := cell_at ((unhideR HP).go hv).at_
              go_simp
              exact mUpon_b
            subst hv
            go_simp
            refine hK _ ?_
            clear hK K
            refine lexX_step (fun K hK => ⟨by kernel_rfl, ⟨_, rfl⟩, fun v hv => ?_, fun v hv => ?_⟩)
            · go_simp
              refine (hmore1 _).mono ?_
              rintro e w9 ⟨rfl, k⟩
              exact ⟨_, rfl, rfl, k⟩
            subst hv
            unfold Cl.val
            go_simp
            refine hK _ ?_
            clear hK K
            refine lexX_step (fun K hK => ⟨by kernel_rfl, ⟨_, rfl⟩, fun v hv => ?_, fun v hv => ?_⟩)
            · go_simp
              exact mUpon_b
            subst hv
            go_simp
            refine hK _ ?_
            clear hK K
            refine lexX_step (fun K hK => ⟨by kernel_rfl, ⟨_, rfl⟩, fun v hv => ?_, fun v hv => ?_⟩)
            · go_simp
              exact mUpon_b
            subst hv
            go_simp
            refine hK _ ?_
            clear hK K
            refine lexX_end (fun v hv => ?_)
            have hF := (unhideR HF).below hv.low hgl
            have hat := hF.at_ i hlt
            have c3 := hat.sx
            have c4 := hat.sy
            have c5 := hat.sz
            have f3 := hF.free (i * 7 + 3)
            have f4 := hF.free (i * 7 + 3 + 1)
            have f5 := hF.free (i * 7 + 3 + 2)
            have hW := below_go (unhideR HW) hv.low
            have hP := (unhideR HP).go hv.low
            clear hv hat
            refine wpAny_step (i := 18) (by kernel_rfl) rfl (by kernel_rfl) (fun K hK => ?_)
            unfold Oper.wp
            go_simp
            refine hK _ _ ?_
            clear hK K
            refine wpAny_end (by kernel_rfl) ?_
            replace HF := hideR (show FOwn (((v.setCell ⟨g, i * 7 + 3, none⟩ (.int .i64 (Fi.sp.add (Cl.mul (s * Bk.m) P)).x)).setCell ⟨g, i * 7 + 3 + 1, none⟩ (.int .i64 (Fi.sp.add (Cl.mul (s * Bk.m) P)).y)).setCell ⟨g, i * 7 + 3 + 2, none⟩ (.int .i64 (Fi.sp.add (Cl.mul (s * Bk.m) P)).z)) g L.length (updB (kf L s i k) i { kf L s i k i with sp := (Fi.sp.add (Cl.mul (s * Bk.m) P)) }) from hF.setSp hlt (Fi.sp.add (Cl.mul (s * Bk.m) P)))
            replace HW := hideR (show Below w.heap.size w (((v.setCell ⟨g, i * 7 + 3, none⟩ (.int .i64 (Fi.sp.add (Cl.mul (s * Bk.m) P)).x)).setCell ⟨g, i * 7 + 3 + 1, none⟩ (.int .i64 (Fi.sp.add (Cl.mul (s * Bk.m) P)).y)).setCell ⟨g, i * 7 + 3 + 2, none⟩ (.int .i64 (Fi.sp.add (Cl.mul (s * Bk.m) P)).z)) from below_set3c hW hg (Fi.sp.add (Cl.mul (s * Bk.m) P)))
            replace HP := hideR (show CBox (((v.setCell ⟨g, i * 7 + 3, none⟩ (.int .i64 (Fi.sp.add (Cl.mul (s * Bk.m) P)).x)).setCell ⟨g, i * 7 + 3 + 1, none⟩ (.int .i64 (Fi.sp.add (Cl.mul (s * Bk.m) P)).y)).setCell ⟨g, i * 7 + 3 + 2, none⟩ (.int .i64 (Fi.sp.add (Cl.mul (s * Bk.m) P)).z)) g8 P from ⟨(set3c_blk hg8).trans hP.at_⟩)
            replace hgl := (unhideR HF).lt
            clear hF hW hP c3 c4 c5 f3 f4 f5
            generalize ((v.setCell ⟨g, i * 7 + 3, none⟩ (.int .i64 (Fi.sp.add (Cl.mul (s * Bk.m) P)).x)).setCell ⟨g, i * 7 + 3 + 1, none⟩ (.int .i64 (Fi.sp.add (Cl.mul (s * Bk.m) P)).y)).setCell ⟨g, i * 7 + 3 + 2, none⟩ (.int .i64 (Fi.sp.add (Cl.mul (s * Bk.m) P)).z) = W10 at *
            have HFK2 : HeldR (updB (kf L s i k) i { kf L s i k i with sp := (Fi.sp.add (Cl.mul (s * Bk.m) P)) } k = Fk) := (updB_other (by omega)).trans (unhideR HFK)
            go_wp2_with fail
            refine wp_region_made 0 #[true, true, true, true, true, true, true, true, true, true, true, true, true, true, true, true, true, true, true, false] [.lets (· = .slice (some ⟨g, 0, none⟩) L.length cap'),
              .lets (· = .int .i64 (k : Nat)),
              .lets (· = .slice (some ⟨g, 0, none⟩) L.length cap'),
              .lets (· = .int .i64 (k : Nat)),
              .lets (· = .pointer (some ⟨g, k * 7, none⟩)),
              .lets (· = .pointer (some ⟨g, k * 7 + 3, none⟩)),
              .lets (· = .agg #[.int .i64 Fk.sp.x, .int .i64 Fk.sp.y, .int .i64 Fk.sp.z]),
              .lets (· = .int .i64 s),
              .lets (· = .int .i64 (-s)),
              .lets (· = .slice (some ⟨b, off, none⟩) L.length cap),
              .lets (· = .int .i64 (i : Nat)),
              .lets (· = .pointer (some ⟨b, off + i * 7, none⟩)),
              .lets (· = .pointer (some ⟨b, off + i * 7 + 6, none⟩)),
              .lets (· = .int .i64 Bi.m),
              .lets (· = .int .i64 (-s * Bi.m)),
              .lets (· = .agg #[.int .i64 P.x, .int .i64 P.y, .int .i64 P.z]),
              .lets (· = (Fk.sp.add (Cl.mul (-s * Bi.m) P)).val),
              .lets (· = .pointer (some ⟨g, k * 7, none⟩)),
              .lets (· = .pointer (some ⟨g, k * 7 + 3, none⟩))] [] [] (by kernel_rfl) (by kernel_rfl) rfl ?kinds (by kernel_rfl) (by kernel_rfl) (by kernel_rfl) ?_
            case kinds =>
              constructor
              · intro i h
                rcases i with _ | _ | _ | _ | _ | _ | _ | _ | _ | _ | _ | _ | _ | _ | _ | _ | _ | _ | _ | i <;> simp [Kx.isMade] at h
              · intro i h
                rcases i with _ | _ | _ | _ | _ | _ | _ | _ | _ | _ | _ | _ | _ | _ | _ | _ | _ | _ | _ | i <;> simp [Kx.isUse] at h
            refine lexX_step (fun K hK => ⟨by kernel_rfl, ⟨_, rfl⟩, fun v hv => ?_, fun v hv => ?_⟩)
            · go_simp
              exact mUpon_b
            subst hv
            go_simp
            refine hK _ ?_
            clear hK K
            refine lexX_step (fun K hK => ⟨by kernel_rfl, ⟨_, rfl⟩, fun v hv => ?_, fun v hv => ?_⟩)
            · go_simp
              exact mUpon_b
            subst hv
            go_simp
            refine hK _ ?_
            clear hK K
            refine lexX_step (fun K hK => ⟨by kernel_rfl, ⟨_, rfl⟩, fun v hv => ?_, fun v hv => ?_⟩)
            · go_simp
              exact mUpon_b
            subst hv
            go_simp
            refine hK _ ?_
            clear hK K
            refine lexX_step (fun K hK => ⟨by kernel_rfl, ⟨_, rfl⟩, fun v hv => ?_, fun v hv => ?_⟩)
            · go_simp
              exact mUpon_b
            subst hv
            go_simp
            refine hK _ ?_
            clear hK K
            refine lexX_step (fun K hK => ⟨by kernel_rfl, ⟨_, rfl⟩, fun v hv => ?_, fun v hv => ?_⟩)
            · go_simp
              exact mUpon_b
            subst hv
            go_simp
            refine hK _ ?_
            clear hK K
            refine lexX_step (fun K hK => ⟨by kernel_rfl, ⟨_, rfl⟩, fun v hv => ?_, fun v hv => ?_⟩)
            · go_simp
              exact mUpon_b
            subst hv
            go_simp
            refine hK _ ?_
            clear hK K
            refine lexX_step (fun K hK => ⟨by kernel_rfl, ⟨_, rfl⟩, fun v hv => ?_, fun v hv => ?_⟩)
            · obtain ⟨c0, c1, c2, c3, c4, c5, c6⟩ := ((unhideR HFK2 ▸ (unhideR HF).at_ k hkl : BAt _ g (k * 7) Fk)).below hv hgl
              go_simp
              exact mUpon_b
            subst hv
            go_simp
            refine hK _ ?_
            clear hK K
            refine lexX_step (fun K hK => ⟨by kernel_rfl, ⟨_, rfl⟩, fun v hv => ?_, fun v hv => ?_⟩)
            · go_simp
              exact mUpon_b
            subst hv
            go_simp
            refine hK _ ?_
            clear hK K
            refine lexX_step (fun K hK => ⟨by kernel_rfl, ⟨_, rfl⟩, fun v hv => ?_, fun v hv => ?_⟩)
            · go_simp
              exact mUpon_b
            subst hv
            go_simp
            refine hK _ ?_
            clear hK K
            refine lexX_step (fun K hK => ⟨by kernel_rfl, ⟨_, rfl⟩, fun v hv => ?_, fun v hv => ?_⟩)
            · go_simp
              exact mUpon_b
            subst hv
            go_simp
            refine hK _ ?_
            clear hK K
            refine lexX_step (fun K hK => ⟨by kernel_rfl, ⟨_, rfl⟩, fun v hv => ?_, fun v hv => ?_⟩)
            · go_simp
              exact mUpon_b
            subst hv
            go_simp
            refine hK _ ?_
            clear hK K
            refine lexX_step (fun K hK => ⟨by kernel_rfl, ⟨_, rfl⟩, fun v hv => ?_, fun v hv => ?_⟩)
            · go_simp
              exact mUpon_b
            subst hv
            go_simp
            refine hK _ ?_
            clear hK K
            refine lexX_step (fun K hK => ⟨by kernel_rfl, ⟨_, rfl⟩, fun v hv => ?_, fun v hv => ?_⟩)
            · go_simp
              exact mUpon_b
            subst hv
            go_simp
            refine hK _ ?_
            clear hK K
            refine lexX_step (fun K hK => ⟨by kernel_rfl, ⟨_, rfl⟩, fun v hv => ?_, fun v hv => ?_⟩)
            · obtain ⟨c0, c1, c2, c3, c4, c5, c6⟩ := (unhideR HI).below (below_go (unhideR HW) hv) hb
              go_simp
              exact mUpon_b
            subst hv
            go_simp
            refine hK _ ?_
            clear hK K
            refine lexX_step (fun K hK => ⟨by kernel_rfl, ⟨_, rfl⟩, fun v hv => ?_, fun v hv => ?_⟩)
            · go_simp
              exact mUpon_b
            subst hv
            go_simp
            refine hK _ ?_
            clear hK K
            refine lexX_step (fun K hK => ⟨by kernel_rfl, ⟨_, rfl⟩, fun v hv => ?_, fun v hv => ?_⟩)
            · obtain ⟨⟨c0, c1, c2⟩, _⟩ := cell_at ((unhideR HP).go hv).at_
              go_simp
              exact mUpon_b
            subst hv
            go_simp
            refine hK _ ?_
            clear hK K
            refine lexX_step (fun K hK => ⟨by kernel_rfl, ⟨_, rfl⟩, fun v hv => ?_, fun v hv => ?_⟩)
            · go_simp
              refine (hmore2 _).mono ?_
              rintro e w9 ⟨rfl, k⟩
              exact ⟨_, rfl, rfl, k⟩
            subst hv
            unfold Cl.val
            go_simp
            refine hK _ ?_
            clear hK K
            refine lexX_step (fun K hK => ⟨by kernel_rfl, ⟨_, rfl⟩, fun v hv => ?_, fun v hv => ?_⟩)
            · go_simp
              exact mUpon_b
            subst hv
            go_simp
            refine hK _ ?_
            clear hK K
            refine lexX_step (fun K hK => ⟨by kernel_rfl, ⟨_, rfl⟩, fun v hv => ?_, fun v hv => ?_⟩)
            · go_simp
              exact mUpon_b
            subst hv
            go_simp
            refine hK _ ?_
            clear hK K
            refine lexX_end (fun v hv => ?_)
            have hF := (unhideR HF).below hv.low hgl
            have hat := hF.at_ k hkl
            have c3 := hat.sx
            have c4 := hat.sy
            have c5 := hat.sz
            have f3 := hF.free (k * 7 + 3)
            have f4 := hF.free (k * 7 + 3 + 1)
            have f5 := hF.free (k * 7 + 3 + 2)
            have hW := below_go (unhideR HW) hv.low
            have hP := (unhideR HP).go hv.low
            clear hv hat
            refine wpAny_step (i := 19) (by kernel_rfl) rfl (by kernel_rfl) (fun K hK => ?_)
            unfold Oper.wp
            go_simp
            refine hK _ _ ?_
            clear hK K
            refine wpAny_end (by kernel_rfl) ?_
            have HF3 : HeldR (FOwn (((v.setCell ⟨g, k * 7 + 3, none⟩ (.int .i64 (Fk.sp.add (Cl.mul (-s * Bi.m) P)).x)).setCell ⟨g, k * 7 + 3 + 1, none⟩ (.int .i64 (Fk.sp.add (Cl.mul (-s * Bi.m) P)).y)).setCell ⟨g, k * 7 + 3 + 2, none⟩ (.int .i64 (Fk.sp.add (Cl.mul (-s * Bi.m) P)).z)) g L.length (kf L s i (k + 1))) := (hF.setSp hkl (Fk.sp.add (Cl.mul (-s * Bi.m) P))).congr (fun j _ => pair_next hik (unhideR H1) (unhideR H2) j)
            have HW3 : HeldR (Below w.heap.size w (((v.setCell ⟨g, k * 7 + 3, none⟩ (.int .i64 (Fk.sp.add (Cl.mul (-s * Bi.m) P)).x)).setCell ⟨g, k * 7 + 3 + 1, none⟩ (.int .i64 (Fk.sp.add (Cl.mul (-s * Bi.m) P)).y)).setCell ⟨g, k * 7 + 3 + 2, none⟩ (.int .i64 (Fk.sp.add (Cl.mul (-s * Bi.m) P)).z))) := below_set3c hW hg (Fk.sp.add (Cl.mul (-s * Bi.m) P))
            clear hF hW hP c3 c4 c5 f3 f4 f5 HF HW HP
            generalize ((v.setCell ⟨g, k * 7 + 3, none⟩ (.int .i64 (Fk.sp.add (Cl.mul (-s * Bi.m) P)).x)).setCell ⟨g, k * 7 + 3 + 1, none⟩ (.int .i64 (Fk.sp.add (Cl.mul (-s * Bi.m) P)).y)).setCell ⟨g, k * 7 + 3 + 2, none⟩ (.int .i64 (Fk.sp.add (Cl.mul (-s * Bi.m) P)).z) = W11 at *
            go_wp2
            exact ⟨⟨k + 1, by omega, by omega, by go_num, HF3, HW3⟩, by simp [intOf]; omega⟩
          · obtain rfl : k = L.length := by omega
            have HF2 : HeldR (FOwn wr g L.length (kf L s (i + 1) (i + 1 + 1))) := (unhideR HF).congr (fun j hj => kf_row hj)
            go_wp2
            exact ⟨⟨i + 1, by omega, by go_num, HF2, HW⟩, by simp [intOf]; omega⟩
      · obtain rfl : i = L.length := by omega
        have hE : BOwn wr w.heap.size (.slice (some ⟨g, 0, none⟩) L.length cap') (kick s L) := by
          refine .inr ⟨g, cap', by rw [kick_length], hg, ?_⟩
          rw [kick_length]
          exact (unhideR HF).congr (fun j hj => kf_end (Nat.le_refl _) hj)
        have HE := hideR hE
        clear hE
        go_wp2
        go_ret
        exact ⟨_, rfl, unhideR HE, unhideR HW⟩
end Go.Proofs.YtdngkmobkbiflagDoor
