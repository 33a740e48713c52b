/-
  Two atlases of the same entries, the program's and the document's: the laws' entries, by contract.
-/
import Derived.Test.YtkdmeclbnnjdgalDoorAtPr
namespace Go.Proofs.YtkdmeclbnnjdgalDoor
open Go Go.RowKit

/-- the entries that are taken of the first i. -/
def adL (l : List En) : Nat → List En
  | 0 => []
  | i + 1 => if adE (l.getD i en0) (adL l i) = 0 then adL l i ++ [l.getD i en0] else adL l i
theorem adL_len (l : List En) : ∀ i, (adL l i).length ≤ i
  | 0 => Nat.le_refl _
  | i + 1 => by
    have := adL_len l i
    show (if adE (l.getD i en0) (adL l i) = 0 then adL l i ++ [l.getD i en0] else adL l i).length ≤ i + 1
    split
    · simp; omega
    · omega
theorem ad_dir {e : En} {L : List En} (h : adE e L = 0) : dirB e.d = true := by
  unfold adE at h
  split at h
  · cases h
  · split at h
    · cases h
    · rename_i q
      simpa using q
theorem dir_more {L : List En} {e : En} (h : ∀ j, j < L.length → dirB (L.getD j en0).d = true) (he : dirB e.d = true) : ∀ j, j < (L ++ [e]).length → dirB ((L ++ [e]).getD j en0).d = true := by
  intro j hj
  rw [List.getD_eq_getElem?_getD]
  by_cases q : j < L.length
  · rw [List.getElem?_append_left q]
    have := h j q
    rwa [List.getD_eq_getElem?_getD] at this
  · have e1 : j = L.length := by simp at hj; omega
    subst e1
    simpa using he
def EsPost (Rep : RepT) (w : World) (l : List En) (lv : Int) (e : Ending) (w' : World) : Prop :=
  if lvB lv then ∃ p g O ad cap sn, e = .returned (.tuple #[.pointer (some ⟨p, 0, none⟩), .pointer (some ⟨g, 0, none⟩), .bool true]) ∧ EInv Rep w w' p g lv (adL l l.length) O ad cap sn else e = .returned (.tuple #[.pointer none, .pointer none, .bool true]) ∧ Below w.heap.size w w'
set_option maxRecDepth 1000000 in
set_option maxHeartbeats 6400000 in
theorem entries_any {a : Nat → Addr} {Rep : RepT} (hP : EnProg a Rep) {w : World} (hS : Sents w a) {ad0 : Option Addr} {cap0 : Nat} {l : List En} (hl : EnCame w ad0 l) (hf : fewB l = true) (lv : Int) :
    Calls Tryd.prog 25 #[.slice ad0 l.length cap0, .int .i64 lv] w fun e w' => EsPost Rep w l lv e w' := by
  have HL := hideR hl
  have HS := hideR hS
  have HF := hideR (few_is hf)
  have hn := (few_is hf).2
  have hN := hP.new hS lv
  obtain ⟨n, hn2⟩ : ∃ n, l.length = n := ⟨_, rfl⟩
  have Hn := hideR hn2
  rw [hn2] at hn
  clear hl hS hf
  by_cases qv : lvB lv = true
  case neg =>
    simp only [NewPost, qv] at hN
    simp only [EsPost, qv]
    simp only [Bool.false_eq_true, if_false] at hN ⊢
    rw [hn2]
    clear hn2
    by_cases q0 : lv < 0
    · have t0 : decide (lv < 0) = true := decide_eq_true q0
      clear qv
      go_enter Tryd.func25, Tryd.ntmps25
      go_wp2_with fail
      refine hN.mono ?_
      rintro e w1 ⟨rfl, k1⟩
      have hc := coded_sent ((unhideR HS).below k1 (Nat.le_refl _)) 1 (by decide) 2
      have HK1 := hideR k1
      clear hN k1
      go_wp2_with fail
      refine hc.mono ?_
      rintro e w2 ⟨rfl, k2⟩
      have HK2 := hideR (below_go (unhideR HK1) k2)
      clear hc HK1 k2
      go_wp2
      go_ret3
      exact ⟨rfl, unhideR HK2⟩
    · have t0 : decide (lv < 0) = false := decide_eq_false q0
      have t1 : decide (12 < lv) = true := decide_eq_true (by unfold lvB at qv; simp at qv; omega)
      clear qv q0
      go_enter Tryd.func25, Tryd.ntmps25
      go_wp2_with fail
      refine hN.mono ?_
      rintro e w1 ⟨rfl, k1⟩
      have hc := coded_sent ((unhideR HS).below k1 (Nat.le_refl _)) 1 (by decide) 2
      have HK1 := hideR k1
      clear hN k1
      go_wp2_with fail
      refine hc.mono ?_
      rintro e w2 ⟨rfl, k2⟩
      have HK2 := hideR (below_go (unhideR HK1) k2)
      clear hc HK1 k2
      go_wp2
      go_ret3
      exact ⟨rfl, unhideR HK2⟩
  simp only [NewPost, qv] at hN
  simp only [EsPost, qv]
  simp only [if_true] at hN ⊢
  rw [hn2]
  clear hn2
  have t0 : decide (lv < 0) = false := decide_eq_false (by unfold lvB at qv; simp at qv; omega)
  have t1 : decide (12 < lv) = false := decide_eq_false (by unfold lvB at qv; simp at qv; omega)
  clear qv
  go_enter Tryd.func25, Tryd.ntmps25
  go_wp2_with fail
  refine hN.mono ?_
  rintro e w1 ⟨⟨p, O, rfl, hR, hO⟩, k1⟩
  clear hN
  have HI0 : HeldR (∃ O ad cap sn, EInv Rep w (w1.alloc (.cells #[.int .i64 lv, .slice none 0 0] 101)) p w1.heap.size lv [] O ad cap sn) := hideR ⟨O, none, 0, 0,
    ⟨hP.below hR (below_a _ _), ⟨⟨alloc_last _ _, EnCame.nil _ _⟩, World.ownsRow_nil _ _ _ _, fun q => absurd (hP.low hR _ q) (by omega), fun a0 h => by (cases h), hO, k1.size, below_go k1 (below_a _ _), fun k hk => absurd hk (Nat.not_lt_zero k)⟩⟩⟩
  clear k1 hR hO O
  go_upto_region 8 with fail
  generalize w1.alloc (.cells #[.int .i64 lv, .slice none 0 0] 101) = w2 at *
  generalize w1.heap.size = g at *
  clear w1
  go_loopw [10] (fun iv wl => ∃ i : Nat, i ≤ n ∧ iv = .int .i64 (i : Nat) ∧ HeldR (∃ O ad cap sn, EInv Rep w wl p g lv (adL l i) O ad cap sn)) (fun iv _ => n + 1 - (intOf iv).toNat)
  case atStart => exact ⟨0, by omega, rfl, HI0⟩
  case round =>
    clear HI0 w2
    obtain ⟨i, hi, rfl, HI⟩ := hrel
    obtain ⟨O, ad, cap, sn, hI⟩ := unhideR HI
    clear HI
    have HI := hideR hI
    clear hI
    by_cases hil : i < n
    · have ti : decide ((i : Int) < (n : Nat)) = true := decide_eq_true (by omega)
      have tin : decide (i < n) = true := decide_eq_true hil
      have wi : IntKind.i64.wrap ((i : Int) + 1) = (i : Int) + 1 := iwrap (by omega) (by omega)
      have hii : (i : Int) < (n : Int) := by omega
      obtain ⟨b, off, had, hbl0, hE⟩ := (unhideR HL).at_ i (by rw [unhideR Hn]; exact hil)
      subst had
      have HE0 := hideR hE
      have HB0 := hideR hbl0
      have hbl : b < wr.heap.size := Nat.lt_of_lt_of_le hbl0 (unhideR HI).d.bel.size
      have HEi := hideR (hE.below (unhideR HI).d.bel hbl0)
      have hsz := ((unhideR HF).1 i (by rw [unhideR Hn]; exact hil)).2.2.2
      have HM : HeldR (adL l (i + 1) = if adE (l.getD i en0) (adL l i) = 0 then adL l i ++ [l.getD i en0] else adL l i) := hideR rfl
      have hml : (adL l i).length ≤ 200 := by have := adL_len l i; omega
      obtain ⟨M2, hM2⟩ : ∃ M2, adL l (i + 1) = M2 := ⟨_, rfl⟩
      rw [hM2] at HM
      have HM2 := hideR hM2
      clear hM2
      generalize adL l i = M at *
      generalize l.getD i en0 = en at *
      clear hE hbl0
      obtain ⟨nm, ⟨dx, dy, dz⟩, li⟩ := en
      simp only at hsz
      go_upto_region 10 with fail
      refine wp_region_made 1 #[true, true, true, true, true, true, true, true, true, true, true, true, true, true, true, true, true, false, false] [.lets (· = .pointer (some ⟨p, 0, none⟩)),
        .lets (· = .slice (some ⟨b, off, none⟩) n cap0),
        .lets (· = .int .i64 (i : Nat)),
        .lets (· = .pointer (some ⟨b, off + i * 5, none⟩)),
        .lets (· = .pointer (some ⟨b, off + i * 5, none⟩)),
        .lets (· = .string nm),
        .lets (· = .slice (some ⟨b, off, none⟩) n cap0),
        .lets (· = .int .i64 (i : Nat)),
        .lets (· = .pointer (some ⟨b, off + i * 5, none⟩)),
        .lets (· = .pointer (some ⟨b, off + i * 5 + 1, none⟩)),
        .lets (· = .agg #[.int .i64 dx, .int .i64 dy, .int .i64 dz]),
        .lets (· = .slice (some ⟨b, off, none⟩) n cap0),
        .lets (· = .int .i64 (i : Nat)),
        .lets (· = .pointer (some ⟨b, off + i * 5, none⟩)),
        .lets (· = .pointer (some ⟨b, off + i * 5 + 4, none⟩)),
        .lets (· = .int .i64 li),
        .lets (· = .agg #[.string nm, .int .i64 dx, .int .i64 dy, .int .i64 dz, .int .i64 li])] [] [] (by kernel_rfl) (by kernel_rfl) rfl ?kinds (by kernel_rfl) (by kernel_rfl) (by kernel_rfl) ?_
      case kinds =>
        constructor
        · intro i h
          rcases i with _ | _ | _ | _ | _ | _ | _ | _ | _ | _ | _ | _ | _ | _ | _ | _ | _ | i <;> simp [Kx.isMade] at h
        · intro i h
          rcases i with _ | _ | _ | _ | _ | _ | _ | _ | _ | _ | _ | _ | _ | _ | _ | _ | _ | i <;> simp [Kx.isUse] at h
      refine lexX_step (fun K hK => ⟨by kernel_rfl, ⟨_, rfl⟩, fun v hv => ?_, fun v hv => ?_⟩)
      · go_simp
        exact mUpon_b
      subst hv
      go_simp
      refine hK _ ?_
      clear hK K
      refine lexX_step (fun K hK => ⟨by kernel_rfl, ⟨_, rfl⟩, fun v hv => ?_, fun v hv => ?_⟩)
      · go_simp
        exact mUpon_b
      subst hv
      go_simp
      refine hK _ ?_
      clear hK K
      refine lexX_step (fun K hK => ⟨by kernel_rfl, ⟨_, rfl⟩, fun v hv => ?_, fun v hv => ?_⟩)
      · go_simp
        exact mUpon_b
      subst hv
      go_simp
      refine hK _ ?_
      clear hK K
      refine lexX_step (fun K hK => ⟨by kernel_rfl, ⟨_, rfl⟩, fun v hv => ?_, fun v hv => ?_⟩)
      · go_simp
        exact mUpon_b
      subst hv
      go_simp
      refine hK _ ?_
      clear hK K
      refine lexX_step (fun K hK => ⟨by kernel_rfl, ⟨_, rfl⟩, fun v hv => ?_, fun v hv => ?_⟩)
      · go_simp
        exact mUpon_b
      subst hv
      go_simp
      refine hK _ ?_
      clear hK K
      refine lexX_step (fun K hK => ⟨by kernel_rfl, ⟨_, rfl⟩, fun v hv => ?_, fun v hv => ?_⟩)
      · have q9 := (unhideR HEi).below hv hbl
        have q0 := q9.c0
        go_simp
        exact mUpon_b
      subst hv
      go_simp
      refine hK _ ?_
      clear hK K
      refine lexX_step (fun K hK => ⟨by kernel_rfl, ⟨_, rfl⟩, fun v hv => ?_, fun v hv => ?_⟩)
      · go_simp
        exact mUpon_b
      subst hv
      go_simp
      refine hK _ ?_
      clear hK K
      refine lexX_step (fun K hK => ⟨by kernel_rfl, ⟨_, rfl⟩, fun v hv => ?_, fun v hv => ?_⟩)
      · go_simp
        exact mUpon_b
      subst hv
      go_simp
      refine hK _ ?_
      clear hK K
      refine lexX_step (fun K hK => ⟨by kernel_rfl, ⟨_, rfl⟩, fun v hv => ?_, fun v hv => ?_⟩)
      · go_simp
        exact mUpon_b
      subst hv
      go_simp
      refine hK _ ?_
      clear hK K
      refine lexX_step (fun K hK => ⟨by kernel_rfl, ⟨_, rfl⟩, fun v hv => ?_, fun v hv => ?_⟩)
      · go_simp
        exact mUpon_b
      subst hv
      go_simp
      refine hK _ ?_
      clear hK K
      refine lexX_step (fun K hK => ⟨by kernel_rfl, ⟨_, rfl⟩, fun v hv => ?_, fun v hv => ?_⟩)
      · have q9 := (unhideR HEi).below hv hbl
        have q1 := q9.c1
        have q2 := q9.c2
        have q3 := q9.c3
        go_simp
        exact mUpon_b
      subst hv
      go_simp
      refine hK _ ?_
      clear hK K
      refine lexX_step (fun K hK => ⟨by kernel_rfl, ⟨_, rfl⟩, fun v hv => ?_, fun v hv => ?_⟩)
      · go_simp
        exact mUpon_b
      subst hv
      go_simp
      refine hK _ ?_
      clear hK K
      refine lexX_step (fun K hK => ⟨by kernel_rfl, ⟨_, rfl⟩, fun v hv => ?_, fun v hv => ?_⟩)
      · go_simp
        exact mUpon_b
      subst hv
      go_simp
      refine hK _ ?_
      clear hK K
      refine lexX_step (fun K hK => ⟨by kernel_rfl, ⟨_, rfl⟩, fun v hv => ?_, fun v hv => ?_⟩)
      · go_simp
        exact mUpon_b
      subst hv
      go_simp
      refine hK _ ?_
      clear hK K
      refine lexX_step (fun K hK => ⟨by kernel_rfl, ⟨_, rfl⟩, fun v hv => ?_, fun v hv => ?_⟩)
      · go_simp
        exact mUpon_b
      subst hv
      go_simp
      refine hK _ ?_
      clear hK K
      refine lexX_step (fun K hK => ⟨by kernel_rfl, ⟨_, rfl⟩, fun v hv => ?_, fun v hv => ?_⟩)
      · have q9 := (unhideR HEi).below hv hbl
        have q4 := q9.c4
        go_simp
        exact mUpon_b
      subst hv
      go_simp
      refine hK _ ?_
      clear hK K
      refine lexX_step (fun K hK => ⟨by kernel_rfl, ⟨_, rfl⟩, fun v hv => ?_, fun v hv => ?_⟩)
      · go_simp
        exact mUpon_b
      subst hv
      go_simp
      refine hK _ ?_
      clear hK K
      refine lexX_end (fun v5 hv => ?_)
      have k5 := hv.low
      clear hv
      have HI5 := hideR ((unhideR HI).below hP k5)
      clear HI k5
      refine wpAny_step (i := 17) (by kernel_rfl) rfl (by kernel_rfl) (fun K hK => ?_)
      unfold Oper.wp
      go_simp
      refine ((hP.add (unhideR HI5).rep ((unhideR HS).below (unhideR HI5).d.bel (Nat.le_refl _)) hml ⟨nm, ⟨dx, dy, dz⟩, li⟩ hsz)).mono ?_
      rintro r v6 ⟨E, O6, rfl, hEr, hR6, hO6, hoth⟩
      have HD6 := hideR ((unhideR HI5).d.wrote hO6 hoth)
      have HR6 := hideR hR6
      have HEr := hideR hEr
      clear HI5 hR6 hO6 hoth hEr HEi
      go_simp
      refine hK _ _ ?_
      clear hK K
      refine wpAny_step (i := 18) (by kernel_rfl) rfl (by kernel_rfl) (fun K hK => ?_)
      unfold Oper.wp
      go_simp
      refine hK _ _ ?_
      clear hK K
      refine wpAny_end (by kernel_rfl) ?_
      have hE6 := (unhideR HE0).below (unhideR HD6).bel (unhideR HB0)
      obtain ⟨q0, q1, q2, q3, q4⟩ := hE6
      simp only at q0 q1 q2 q3 q4
      have hA : Calls Tryd.prog 53 #[.pointer (some ⟨g, 0, none⟩), .agg #[.string nm, .int .i64 dx, .int .i64 dy, .int .i64 dz, .int .i64 li]] v6 fun r w' => r = .returned (.int .i64 (adE ⟨nm, ⟨dx, dy, dz⟩, li⟩ M)) ∧ HeldR (∃ ad' cap', EInv Rep w w' p g lv M2 O6 ad' cap' sn) := by
        by_cases qa : adE ⟨nm, ⟨dx, dy, dz⟩, li⟩ M = 0
        · have e1 := unhideR HM
          have r1 := unhideR HR6
          rw [if_pos qa] at e1 r1
          refine (add_yes ⟨nm, ⟨dx, dy, dz⟩, li⟩ (unhideR HD6).doc (by omega) qa (unhideR HD6).own (unhideR HD6).bel.size (show nm.size ≤ _ by omega)).mono ?_
          rintro r w' ⟨rfl, hp⟩
          rw [e1]
          exact ⟨by rw [qa], hideR ((unhideR HD6).more hP r1 hp (dir_more (unhideR HD6).dir (ad_dir qa)))⟩
        · have e1 := unhideR HM
          have r1 := unhideR HR6
          rw [if_neg qa] at e1 r1
          refine (add_no ⟨nm, ⟨dx, dy, dz⟩, li⟩ (unhideR HD6).doc (by omega) qa (show nm.size ≤ _ by omega)).mono ?_
          rintro r w' ⟨rfl, hp⟩
          rw [e1]
          exact ⟨rfl, hideR ⟨_, _, hP.below r1 hp, (unhideR HD6).below hp⟩⟩
      generalize adE ⟨nm, ⟨dx, dy, dz⟩, li⟩ M = EE at *
      clear HR6 HD6 HM
      go_wp2_with fail
      refine hA.mono ?_
      rintro r v7 ⟨rfl, HI7⟩
      obtain ⟨ad7, cap7, hI7⟩ := unhideR HI7
      have hc := coded_err ((unhideR HS).below hI7.d.bel (Nat.le_refl _)) (unhideR HEr)
      clear hA HI7 q0 q1 q2 q3 q4 HEr
      have HI7 := hideR hI7
      clear hI7
      go_wp2_with fail
      refine hc.mono ?_
      rintro r v8 ⟨rfl, k8⟩
      have HI8 : HeldR (∃ O ad cap sn, EInv Rep w v8 p g lv M2 O ad cap sn) := hideR ⟨_, _, _, _, (unhideR HI7).below hP k8⟩
      clear HI7 k8 hc
      go_wp2
      exact ⟨⟨i + 1, by omega, by go_num, by rw [unhideR HM2]; exact HI8⟩, by simp [intOf]; omega⟩
    · obtain rfl : i = n := by omega
      have ti : decide ((i : Int) < (i : Nat)) = false := decide_eq_false (by omega)
      have hml : (adL l i).length ≤ 200 := by have := adL_len l i; omega
      have hz := hP.size ((unhideR HI).below hP (drawn_below wr 1)).rep hml
      have hb : wr.drew.heap[g]? = _ := ((unhideR HI).below hP (drawn_below wr 1)).d.doc.b
      have HI2 := hideR ((unhideR HI).below hP (drawn_below wr 1))
      obtain ⟨M, hMq⟩ : ∃ M, adL l i = M := ⟨_, rfl⟩
      have HMq := hideR hMq
      rw [hMq] at hz hb HI2 hml
      clear hMq
      have a1 := (cells_at hb 1 (by simp)).1
      have tq : ((M.length : Int) == (M.length : Int)) = true := by simp
      clear HI
      go_upto_region 14 with fail
      go_cut [4, 5, 6] from 4 to 82 (fun s4 s5 s6 wx => s4 = .pointer (some ⟨p, 0, none⟩) ∧ s5 = .pointer (some ⟨g, 0, none⟩) ∧ s6 = .bool true ∧ HeldR (EInv Rep w wx p g lv M O ad cap sn))
      case' first =>
        go_region_with ((go_at_call 54; refine hz.mono ?_; rintro e w9 ⟨rfl, k9⟩; have y9 := (cells_at (keepB hb k9) 1 (by simp)).1))
        all_goals
          have HI9 := hideR ((unhideR HI2).below hP k9)
          clear k9 y9 a1 hb hz HI2
          go_wp2
          go_meet
          exact ⟨rfl, rfl, rfl, HI9⟩
      obtain ⟨rfl, rfl, rfl, HI9⟩ := hcut
      clear hz hb a1 HI2
      go_wp2
      go_ret3
      rw [unhideR HMq]
      exact ⟨p, g, O, ad, cap, sn, rfl, unhideR HI9⟩
end Go.Proofs.YtkdmeclbnnjdgalDoor
