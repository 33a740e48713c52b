/-
  The law of logs, walked.
-/
import Derived.Test.YtfonpobdnhifganNgL0
namespace Go.Proofs.Ytfonpobdnhifgan
open Go Go.RowKit

theorem r1_in : (⟨1, 0, 0⟩ : Res).in := by unfold Res.in in64; decide
theorem RsCame.take {w : World} {ad : Option Addr} {L : List Res} (h : RsCame w ad L) (n : Nat) : RsCame w ad (L.take n) := ⟨fun k hk => by
  have hk2 : k < L.length ∧ k < n := by rw [List.length_take] at hk; omega
  obtain ⟨b, off, e, hb, hc⟩ := h.at_ k hk2.1
  refine ⟨b, off, e, hb, ?_⟩
  rw [List.getD_eq_getElem?_getD, List.getElem?_take, if_pos hk2.2, ← List.getD_eq_getElem?_getD]
  exact hc⟩
def SlR (n : Nat) (v : Value) : Prop := ∃ (ad : Option Addr) (c : Nat), v = .slice ad n c
def OnR (L : List Res) (v : Value) (w : World) : Prop := ∀ ad c, v = .slice ad L.length c → RsCame w ad L
theorem onR_stb (L : List Res) (v : Value) : Stb (OnR L v) := fun _ _ h k ad c q => (h ad c q).below k
set_option maxRecDepth 1000000 in
set_option maxHeartbeats 6400000 in
theorem logs_walk {Rep : RepG} (hP : LgProg Rep) {w : World} {ad : Option Addr} {cap : Nat} {l : List Res} (hl : RsCame w ad l) (hin : ∀ r ∈ l, r.in) (hlc : l.length ≤ cap) (hnl : (ad = none ∧ l.length = 0 ∧ cap = 0) ∨ ∃ a0, ad = some a0) {ab : Option Addr} {cb : Nat} {b : Bs} (hb : BAt w ab b) (hbc : b.length ≤ cb) (cut : Int) :
    Calls Try.prog 3 #[.slice ad l.length cap, .slice ab b.length cb, .int .i64 cut] w fun e w' => e = .returned (.bool true) ∧ Below w.heap.size w w' := by
  have HL : HeldR (∀ u, Below w.heap.size w u → RsCame u ad l) := hideR (fun u q => hl.below q)
  have HBt : HeldR (∀ u, Below w.heap.size w u → BAt u ab b) := hideR (fun u q => hb.below q)
  have Hin := hideR hin
  have Hnl := hideR hnl
  have hnw := hP.new w
  clear hl hb hin hnl
  go_enter Try.func3, Try.ntmps3
  go_wp2_with fail
  refine hnw.mono ?_
  rintro e w1 ⟨p0, O0, rfl, hR0, hO0, k1⟩
  have hnt := hP.note hR0 (by simp) ⟨1, 0, 0⟩ r1_in
  unfold Res.val at hnt
  simp only at hnt
  have HB1 := hideR k1
  clear hnw k1 hR0
  go_wp2_with fail
  refine hnt.mono ?_
  rintro e w2 ⟨O1, rfl, hR1, hO1, hoth⟩
  have HB2 := hideR (hoth.below hO0 (unhideR HB1) (Nat.le_refl _))
  rw [List.nil_append] at hR1
  have hby := fun u (k : Below w2.heap.size w2 u) => hP.bytes (hP.below hR1 k) (by simp)
  clear hnt hO1 hoth HB1 hO0 hR1
  go_wp2_with fail
  refine (hby _ (Below.refl _ _)).mono ?_
  rintro e w3 ⟨⟨v3, rfl, ad3, c3, rfl, _⟩, k3⟩
  rw [logV_len]
  have HB3 := hideR (below_go (unhideR HB2) k3)
  have Hk3 := hideR k3
  clear k3
  by_cases q : l.length ≤ 60 ∧ b.length ≤ 2000
  case neg =>
    have hby2 := hby w3 (unhideR Hk3)
    clear hby
    by_cases q1 : 60 < l.length
    · have t1 : decide ((60 : Int) < (l.length : Int)) = true := decide_eq_true (by omega)
      go_wp2_with fail
      refine hby2.mono ?_
      rintro e w4 ⟨⟨v4, rfl, ad4, c4, rfl, _⟩, k4⟩
      rw [logV_len]
      have HB4 := hideR (below_go (unhideR HB3) k4)
      clear hby2 k4
      go_wp2
      go_ret
      exact ⟨rfl, unhideR HB4⟩
    · have t1 : decide ((60 : Int) < (l.length : Int)) = false := decide_eq_false (by omega)
      have t2 : decide ((2000 : Int) < (b.length : Int)) = true := decide_eq_true (by omega)
      go_wp2_with fail
      refine hby2.mono ?_
      rintro e w4 ⟨⟨v4, rfl, ad4, c4, rfl, _⟩, k4⟩
      rw [logV_len]
      have HB4 := hideR (below_go (unhideR HB3) k4)
      clear hby2 k4
      go_wp2
      go_ret
      exact ⟨rfl, unhideR HB4⟩
  obtain ⟨ql, qb⟩ := q
  have t1 : decide ((60 : Int) < (l.length : Int)) = false := decide_eq_false (by omega)
  have t2 : decide ((2000 : Int) < (b.length : Int)) = false := decide_eq_false (by omega)
  have hn2 := hP.new w3
  clear hby Hk3
  go_wp2_with fail
  refine hn2.mono ?_
  rintro e w4 ⟨p, O, rfl, hR, hO, k4⟩
  have HB4 := hideR (below_go (unhideR HB3) k4)
  have HR0 : HeldR (∃ O, Rep w4 p (l.take 0) O ∧ ∀ k, O k → w.heap.size ≤ k) := hideR ⟨O, hR, fun k q => Nat.le_trans (unhideR HB3).size (hO k q)⟩
  clear hn2 hR hO k4 HB3 HB2 t1 t2 O O0 O1
  go_wp2_with fail
  go_loopw [8] (fun iv wl => ∃ i : Nat, i ≤ l.length ∧ iv = .int .i64 (i : Nat) ∧ HeldR (∃ O, Rep wl p (l.take i) O ∧ ∀ k, O k → w.heap.size ≤ k) ∧ HeldR (Below w.heap.size w wl)) (fun iv _ => l.length + 1 - (intOf iv).toNat)
  case atStart => exact ⟨0, by omega, rfl, HR0, HB4⟩
  case round =>
    clear HR0 HB4
    obtain ⟨i, hi, rfl, HRe, HB⟩ := hrel
    obtain ⟨O, hR, hOn⟩ := unhideR HRe
    have HR := hideR hR
    have HOn := hideR hOn
    clear HRe hR hOn
    by_cases hil : i < l.length
    · have ti : decide ((i : Int) < (l.length : Int)) = true := decide_eq_true (by omega)
      have tin : decide (i < l.length) = true := decide_eq_true hil
      have wi : IntKind.i64.wrap ((i : Int) + 1) = (i : Int) + 1 := iwrap (by omega) (by omega)
      have hii : (i : Int) < (l.length : Int) := by omega
      obtain ⟨bl, ol, had, hbl, hE⟩ := (unhideR HL wr (unhideR HB)).at_ i hil
      subst had
      have HT : HeldR (l.take (i + 1) = l.take i ++ [l.getD i res0]) := hideR (by rw [List.take_add_one, List.getElem?_eq_getElem hil, List.getD_eq_getElem?_getD, List.getElem?_eq_getElem hil]; rfl)
      have Hrin : HeldR ((l.getD i res0).in) := hideR (by rw [List.getD_eq_getElem?_getD, List.getElem?_eq_getElem hil]; exact unhideR Hin _ (List.getElem_mem hil))
      have HEi := hideR hE
      clear hE
      generalize l.getD i res0 = r at *
      go_upto_region 11 with fail
      refine wp_region_made 0 #[true, true, true, true, true, true, true, true, true, true, true, true, true, true, true, true, true, false] [.lets (· = .pointer (some ⟨p, 0, none⟩)),
        .lets (· = .slice (some ⟨bl, ol, none⟩) l.length cap),
        .lets (· = .int .i64 (i : Nat)),
        .lets (· = .pointer (some ⟨bl, ol + i * 3, none⟩)),
        .lets (· = .pointer (some ⟨bl, ol + i * 3, none⟩)),
        .lets (· = .int .i64 r.i),
        .lets (· = .slice (some ⟨bl, ol, none⟩) l.length cap),
        .lets (· = .int .i64 (i : Nat)),
        .lets (· = .pointer (some ⟨bl, ol + i * 3, none⟩)),
        .lets (· = .pointer (some ⟨bl, ol + i * 3 + 1, none⟩)),
        .lets (· = .int .i64 r.s),
        .lets (· = .slice (some ⟨bl, ol, none⟩) l.length cap),
        .lets (· = .int .i64 (i : Nat)),
        .lets (· = .pointer (some ⟨bl, ol + i * 3, none⟩)),
        .lets (· = .pointer (some ⟨bl, ol + i * 3 + 2, none⟩)),
        .lets (· = .int .i64 r.l),
        .lets (· = .agg #[.int .i64 r.i, .int .i64 r.s, .int .i64 r.l])] [] [] (by kernel_rfl) (by kernel_rfl) rfl ?kinds (by kernel_rfl) (by kernel_rfl) (by kernel_rfl) ?_
      case kinds =>
        constructor
        · intro i h
          rcases i with _ | _ | _ | _ | _ | _ | _ | _ | _ | _ | _ | _ | _ | _ | _ | _ | _ | i <;> simp [Kx.isMade] at h
        · intro i h
          rcases i with _ | _ | _ | _ | _ | _ | _ | _ | _ | _ | _ | _ | _ | _ | _ | _ | _ | i <;> simp [Kx.isUse] at h
      refine lexX_step (fun K hK => ⟨by kernel_rfl, ⟨_, rfl⟩, fun v hv => ?_, fun v hv => ?_⟩)
      · go_simp
        exact mUpon_b
      subst hv
      go_simp
      refine hK _ ?_
      clear hK K
      refine lexX_step (fun K hK => ⟨by kernel_rfl, ⟨_, rfl⟩, fun v hv => ?_, fun v hv => ?_⟩)
      · go_simp
        exact mUpon_b
      subst hv
      go_simp
      refine hK _ ?_
      clear hK K
      refine lexX_step (fun K hK => ⟨by kernel_rfl, ⟨_, rfl⟩, fun v hv => ?_, fun v hv => ?_⟩)
      · go_simp
        exact mUpon_b
      subst hv
      go_simp
      refine hK _ ?_
      clear hK K
      refine lexX_step (fun K hK => ⟨by kernel_rfl, ⟨_, rfl⟩, fun v hv => ?_, fun v hv => ?_⟩)
      · go_simp
        exact mUpon_b
      subst hv
      go_simp
      refine hK _ ?_
      clear hK K
      refine lexX_step (fun K hK => ⟨by kernel_rfl, ⟨_, rfl⟩, fun v hv => ?_, fun v hv => ?_⟩)
      · go_simp
        exact mUpon_b
      subst hv
      go_simp
      refine hK _ ?_
      clear hK K
      refine lexX_step (fun K hK => ⟨by kernel_rfl, ⟨_, rfl⟩, fun v hv => ?_, fun v hv => ?_⟩)
      · have q9 := (unhideR HEi).below hv hbl
        have q0 := q9.c0
        go_simp
        exact mUpon_b
      subst hv
      go_simp
      refine hK _ ?_
      clear hK K
      refine lexX_step (fun K hK => ⟨by kernel_rfl, ⟨_, rfl⟩, fun v hv => ?_, fun v hv => ?_⟩)
      · go_simp
        exact mUpon_b
      subst hv
      go_simp
      refine hK _ ?_
      clear hK K
      refine lexX_step (fun K hK => ⟨by kernel_rfl, ⟨_, rfl⟩, fun v hv => ?_, fun v hv => ?_⟩)
      · go_simp
        exact mUpon_b
      subst hv
      go_simp
      refine hK _ ?_
      clear hK K
      refine lexX_step (fun K hK => ⟨by kernel_rfl, ⟨_, rfl⟩, fun v hv => ?_, fun v hv => ?_⟩)
      · go_simp
        exact mUpon_b
      subst hv
      go_simp
      refine hK _ ?_
      clear hK K
      refine lexX_step (fun K hK => ⟨by kernel_rfl, ⟨_, rfl⟩, fun v hv => ?_, fun v hv => ?_⟩)
      · go_simp
        exact mUpon_b
      subst hv
      go_simp
      refine hK _ ?_
      clear hK K
      refine lexX_step (fun K hK => ⟨by kernel_rfl, ⟨_, rfl⟩, fun v hv => ?_, fun v hv => ?_⟩)
      · have q9 := (unhideR HEi).below hv hbl
        have q1 := q9.c1
        go_simp
        exact mUpon_b
      subst hv
      go_simp
      refine hK _ ?_
      clear hK K
      refine lexX_step (fun K hK => ⟨by kernel_rfl, ⟨_, rfl⟩, fun v hv => ?_, fun v hv => ?_⟩)
      · go_simp
        exact mUpon_b
      subst hv
      go_simp
      refine hK _ ?_
      clear hK K
      refine lexX_step (fun K hK => ⟨by kernel_rfl, ⟨_, rfl⟩, fun v hv => ?_, fun v hv => ?_⟩)
      · go_simp
        exact mUpon_b
      subst hv
      go_simp
      refine hK _ ?_
      clear hK K
      refine lexX_step (fun K hK => ⟨by kernel_rfl, ⟨_, rfl⟩, fun v hv => ?_, fun v hv => ?_⟩)
      · go_simp
        exact mUpon_b
      subst hv
      go_simp
      refine hK _ ?_
      clear hK K
      refine lexX_step (fun K hK => ⟨by kernel_rfl, ⟨_, rfl⟩, fun v hv => ?_, fun v hv => ?_⟩)
      · go_simp
        exact mUpon_b
      subst hv
      go_simp
      refine hK _ ?_
      clear hK K
      refine lexX_step (fun K hK => ⟨by kernel_rfl, ⟨_, rfl⟩, fun v hv => ?_, fun v hv => ?_⟩)
      · have q9 := (unhideR HEi).below hv hbl
        have q2 := q9.c2
        go_simp
        exact mUpon_b
      subst hv
      go_simp
      refine hK _ ?_
      clear hK K
      refine lexX_step (fun K hK => ⟨by kernel_rfl, ⟨_, rfl⟩, fun v hv => ?_, fun v hv => ?_⟩)
      · go_simp
        exact mUpon_b
      subst hv
      go_simp
      refine hK _ ?_
      clear hK K
      refine lexX_end (fun v5 hv => ?_)
      have k5 := hv.low
      clear hv
      have hR5 := hP.below (unhideR HR) k5
      have HB5 := hideR (below_go (unhideR HB) k5)
      have hnt := hP.note hR5 (by rw [List.length_take]; omega) r (unhideR Hrin)
      unfold Res.val at hnt
      clear hR5 HR HB k5
      refine wpAny_step (i := 17) (by kernel_rfl) rfl (by kernel_rfl) (fun K hK => ?_)
      unfold Oper.wp
      go_simp
      refine hnt.mono ?_
      rintro e v6 ⟨O6, rfl, hR6, hO6, hoth⟩
      have HR6 : HeldR (Rep v6 p (l.take (i + 1)) O6) := hideR (by rw [unhideR HT]; exact hR6)
      have HB6 := hideR (hoth.below (unhideR HOn) (unhideR HB5) (Nat.le_refl _))
      have HO6 : HeldR (∀ k, O6 k → w.heap.size ≤ k) := hideR (fun k q => (hO6 k q).elim (unhideR HOn k) (fun h => Nat.le_trans (unhideR HB5).size h))
      clear hnt hR6 hO6 hoth HB5 HOn HT
      go_simp
      refine hK _ _ ?_
      clear hK K
      refine wpAny_end (by kernel_rfl) ?_
      go_wp2
      exact ⟨⟨i + 1, by omega, by go_num, hideR ⟨O6, unhideR HR6, unhideR HO6⟩, HB6⟩, by simp [intOf]; omega⟩
    · obtain rfl : i = l.length := by omega
      have ti : decide ((l.length : Int) < (l.length : Int)) = false := decide_eq_false (by omega)
      have hR := unhideR HR
      rw [List.take_length] at hR
      have HR9 := hideR hR
      have hby := hP.bytes hR (by omega)
      clear hR HR
      go_wp2_with fail
      refine hby.mono ?_
      rintro e w5 ⟨⟨v5, rfl, ax, cx, rfl, hbx, hcx, hnx⟩, k5⟩
      have HX5 := hideR hbx
      have Hnx := hideR hnx
      clear hnx
      have HB5 := hideR (below_go (unhideR HB) k5)
      have HR5 := hideR (hP.below (unhideR HR9) k5)
      have hlo := logOf_any (cap := cap) (unhideR HL _ (unhideR HB5)) (by omega)
      clear hby hbx k5 HB HR9
      go_wp2_with fail
      refine hlo.mono ?_
      rintro e w6 ⟨v6, rfl, hO6, k6⟩
      obtain ⟨aw, cw, rfl, hbw⟩ := hO6.bytes
      have HW6 := hideR hbw
      have HX6 := hideR ((unhideR HX5).below k6)
      have HB6 := hideR (below_go (unhideR HB5) k6)
      have HR6 := hideR (hP.below (unhideR HR5) k6)
      have hre := hP.results (unhideR HR6) (by omega)
      clear hlo hO6 hbw k6 HX5 HB5 HR5
      go_wp2_with fail
      refine hre.mono ?_
      rintro e w7 ⟨⟨v7, rfl, ar, cr, rfl, hcr⟩, k7⟩
      have HW7 := hideR ((unhideR HW6).below k7)
      have HX7 := hideR ((unhideR HX6).below k7)
      have HB7 := hideR (below_go (unhideR HB6) k7)
      have hsm := sameResults_any (c1 := cr) (c2 := cap) hcr (unhideR HL _ (unhideR HB7)) (by omega)
      clear hre hcr k7 HW6 HX6 HB6 HR6
      go_wp2_with fail
      refine hsm.mono ?_
      rintro e w8 ⟨rfl, k8⟩
      have HX8 := hideR ((unhideR HX7).below k8)
      have HB8 := hideR (below_go (unhideR HB7) k8)
      have cv1 := conv_bytes (cap := cx) (unhideR HX8)
      have cv2 := conv_bytes (cap := cw) ((unhideR HW7).below k8)
      have hrc := hP.recover_ (unhideR HBt _ (unhideR HB8)) qb hbc
      clear hsm k8 HW7 HX7 HB7
      go_wp2_with fail
      refine hrc.mono ?_
      rintro e w9 ⟨p2, O2, rfl, hR2, _, k9⟩
      have HX9 := hideR ((unhideR HX8).below k9)
      have HB9 := hideR (below_go (unhideR HB8) k9)
      have HR2 := hideR hR2
      have hrs := resultsOf_any (unhideR HBt _ (unhideR HB9)) (by omega) hbc
      have hrl := resV_len b
      clear hrc k9 HX8 HB8 cv1 cv2 hR2
      generalize resV b = RV at *
      go_wp2_with fail
      refine hrs.mono ?_
      rintro e w10 ⟨v10, rfl, hO10, k10⟩
      obtain ⟨a10, c10, rfl, hc10⟩ := hO10.came
      have HX10 := hideR ((unhideR HX9).below k10)
      have HB10 := hideR (below_go (unhideR HB9) k10)
      have HR10 := hideR (hP.below (unhideR HR2) k10)
      have HC10 := hideR hc10
      have hre := hP.results (unhideR HR10) (by omega)
      clear hrs hO10 k10 HX9 HB9 HR2 hc10
      go_wp2_with fail
      refine hre.mono ?_
      rintro e w11 ⟨⟨v11, rfl, a11, c11, rfl, hc11⟩, k11⟩
      have HX11 := hideR ((unhideR HX10).below k11)
      have HB11 := hideR (below_go (unhideR HB10) k11)
      have hsm := sameResults_any (c1 := c11) (c2 := c10) hc11 ((unhideR HC10).below k11) (by omega)
      clear hre k11 HX10 HB10 HR10 HC10 hc11
      go_wp2_with fail
      refine hsm.mono ?_
      rintro e w12 ⟨rfl, k12⟩
      have HX12 := hideR ((unhideR HX11).below k12)
      have HB12 := hideR (below_go (unhideR HB11) k12)
      have tn : ((RV.length : Int) != (RV.length : Int)) = false := by simp
      clear hsm k12 HX11 HB11
      by_cases q0 : 0 ≤ cut ∧ cut ≤ 28 * l.length
      case neg =>
        by_cases q1 : cut < 0
        · have t3 : decide (cut < 0) = true := decide_eq_true q1
          clear q0 q1
          go_wp2
          go_ret
          exact ⟨rfl, unhideR HB12⟩
        · have t3 : decide (cut < 0) = false := decide_eq_false q1
          have hLn := logV_len l
          have t4 : decide (((logV l).length : Int) < cut) = true := decide_eq_true (by omega)
          clear q0 q1 hLn
          go_wp2
          go_ret
          exact ⟨rfl, unhideR HB12⟩
      case pos =>
        obtain ⟨cn, rfl⟩ : ∃ cn : Nat, cut = (cn : Int) := ⟨cut.toNat, by omega⟩
        have hcn : cn ≤ 28 * l.length := by omega
        have hLn := logV_len l
        have t3 : decide ((cn : Int) < 0) = false := decide_eq_false (by omega)
        have t4 : decide (((logV l).length : Int) < (cn : Int)) = false := decide_eq_false (by omega)
        have t4n : decide ((logV l).length < cn) = false := decide_eq_false (by omega)
        have hcut := res_cut (unhideR Hin) hcn
        have hTl : ((logV l).take cn).length = cn := by rw [List.length_take]; omega
        obtain ⟨m, hm⟩ : ∃ m, cn / 28 = m := ⟨_, rfl⟩
        rw [hm] at hcut
        have hml : (l.take m).length = m := by rw [List.length_take]; omega
        have hcc : cn ≤ cx := by omega
        have hcc2 : (cn : Int) ≤ (cx : Int) := by omega
        have hrc := hP.recover_ (cap := cx) ((unhideR HX12).take cn) (by rw [hTl]; omega) (by rw [hTl]; exact hcc)
        rw [hTl, hcut, hml] at hrc
        have hmm : (m : Int) ≤ (cap : Int) := by omega
        have hmm2 : m ≤ cap := by omega
        have hm60 : m ≤ 60 := by omega
        have hdv : (cn : Int) / 28 = (m : Nat) := by omega
        have hdt : (cn : Int).tdiv 28 = (m : Nat) := by rw [Int.tdiv_eq_ediv_of_nonneg (by omega)]; exact hdv
        have wmm : IntKind.i64.wrap (m : Int) = (m : Int) := iwrap (by omega) (by omega)
        have Hml := hideR hml
        have Hz : HeldR ((logV l).length = 0 → cn = 0 ∧ m = 0) := hideR (fun h => by omega)
        have Hz2 : HeldR (l.length = 0 → cn = 0 ∧ m = 0) := hideR (fun h => by omega)
        clear hcut hTl hml hm hLn q0 HX12
        rcases unhideR Hnx with ⟨rfl, e1, rfl⟩ | ⟨bx, ox, rfl⟩
        case' inl =>
          obtain ⟨e2, e3⟩ := unhideR Hz e1
          subst e2
          subst e3
          go_wp2_with fail
        case' inr =>
          go_wp2_with fail
        all_goals
          refine hrc.mono ?_
          rintro e w13 ⟨p3, O3, rfl, hR3, _, k13⟩
          have HR13 := hideR hR3
          have HB13 := hideR (below_go (unhideR HB12) k13)
          clear hrc hR3 k13
          have Hnl2 := Hnl
          rcases unhideR Hnl2 with ⟨rfl, f1, rfl⟩ | ⟨a0, rfl⟩
        case' inl.inl =>
          clear f1
          go_upto_region 25 with fail
          refine wp_region_made 0 #[true, true, true, true, true, true, true, true, true, true, true, true, true, true, true, true, false] [.lets (· = .pointer (some ⟨p3, 0, none⟩)),
            .lets (· = .bool true),
            .lets (· = .bool true),
            .lets (· = .int .i64 ((0 : Nat) : Int)),
            .lets (· = .int .i64 ((0 : Nat) : Int)),
            .lets (· = .int .i64 ((0 : Nat) : Int)),
            .lets (· = .bool true),
            .lets (· = .bool true),
            .lets (· = .bool true),
            .lets (· = .pointer (some ⟨p3, 0, none⟩)),
            .made (SlR 0) (OnR (l.take 0)),
            .lets (· = .slice none l.length 0),
            .lets (· = .int .i64 ((0 : Nat) : Int)),
            .lets (· = .slice none 0 0),
            .uses (· = .bool true),
            .lets (· = .bool true)] [10] [14] (by kernel_rfl) (by kernel_rfl) rfl ?kinds (by kernel_rfl) (by kernel_rfl) (by kernel_rfl) ?_
          case kinds =>
            constructor
            · intro i h
              rcases i with _ | _ | _ | _ | _ | _ | _ | _ | _ | _ | _ | _ | _ | _ | _ | _ | i <;> simp [Kx.isMade] at h ⊢
            · intro i h
              rcases i with _ | _ | _ | _ | _ | _ | _ | _ | _ | _ | _ | _ | _ | _ | _ | _ | i <;> simp [Kx.isUse] at h ⊢
          refine lexX_step (fun K hK => ⟨by kernel_rfl, ⟨_, rfl⟩, fun v hv => ?_, fun v hv => ?_⟩)
          · go_simp
            exact mUpon_b
          subst hv
          go_simp
          refine hK _ ?_
          clear hK K
          refine lexX_step (fun K hK => ⟨by kernel_rfl, ⟨_, rfl⟩, fun v hv => ?_, fun v hv => ?_⟩)
          · go_simp
            exact mUpon_b
          subst hv
          go_simp
          refine hK _ ?_
          clear hK K
          refine lexX_step (fun K hK => ⟨by kernel_rfl, ⟨_, rfl⟩, fun v hv => ?_, fun v hv => ?_⟩)
          · go_simp
            exact mUpon_b
          subst hv
          go_simp
          refine hK _ ?_
          clear hK K
          refine lexX_step (fun K hK => ⟨by kernel_rfl, ⟨_, rfl⟩, fun v hv => ?_, fun v hv => ?_⟩)
          · go_simp
            exact mUpon_b
          subst hv
          go_simp
          refine hK _ ?_
          clear hK K
          refine lexX_step (fun K hK => ⟨by kernel_rfl, ⟨_, rfl⟩, fun v hv => ?_, fun v hv => ?_⟩)
          · go_simp
            exact mUpon_b
          subst hv
          go_simp
          refine hK _ ?_
          clear hK K
          refine lexX_step (fun K hK => ⟨by kernel_rfl, ⟨_, rfl⟩, fun v hv => ?_, fun v hv => ?_⟩)
          · go_simp
            exact mUpon_b
          subst hv
          go_simp
          refine hK _ ?_
          clear hK K
          refine lexX_step (fun K hK => ⟨by kernel_rfl, ⟨_, rfl⟩, fun v hv => ?_, fun v hv => ?_⟩)
          · go_simp
            exact mUpon_b
          subst hv
          go_simp
          refine hK _ ?_
          clear hK K
          refine lexX_step (fun K hK => ⟨by kernel_rfl, ⟨_, rfl⟩, fun v hv => ?_, fun v hv => ?_⟩)
          · go_simp
            exact mUpon_b
          subst hv
          go_simp
          refine hK _ ?_
          clear hK K
          refine lexX_step (fun K hK => ⟨by kernel_rfl, ⟨_, rfl⟩, fun v hv => ?_, fun v hv => ?_⟩)
          · go_simp
            exact mUpon_b
          subst hv
          go_simp
          refine hK _ ?_
          clear hK K
          refine lexX_step (fun K hK => ⟨by kernel_rfl, ⟨_, rfl⟩, fun v hv => ?_, fun v hv => ?_⟩)
          · go_simp
            exact mUpon_b
          subst hv
          go_simp
          refine hK _ ?_
          clear hK K
          refine lexX_made ⟨by kernel_rfl, ⟨_, none, 0, rfl⟩, onR_stb _, fun v hv => ?_, ?_⟩
          · have hx := hP.results (hP.below (unhideR HR13) hv) (by rw [unhideR Hml]; omega)
            go_simp
            refine hx.mono ?_
            rintro e w9 ⟨⟨v9, rfl, ad9, cap9, rfl, ha9⟩, k9⟩
            rw [unhideR Hml]
            exact ⟨_, rfl, ⟨⟨ad9, cap9, rfl⟩, fun ad c e => by (try rw [unhideR Hml] at e); cases e; exact ha9⟩, k9⟩
          rintro _ ⟨ad9, cap9, rfl⟩ K9 hK9
          go_simp
          refine hK9 _ ?_
          clear hK9 K9
          refine lexX_step (fun K hK => ⟨by kernel_rfl, ⟨_, rfl⟩, fun v hv => ?_, fun v hv => ?_⟩)
          · go_simp
            exact mUpon_b
          subst hv
          go_simp
          refine hK _ ?_
          clear hK K
          refine lexX_step (fun K hK => ⟨by kernel_rfl, ⟨_, rfl⟩, fun v hv => ?_, fun v hv => ?_⟩)
          · go_simp
            exact mUpon_b
          subst hv
          go_simp
          refine hK _ ?_
          clear hK K
          refine lexX_step (fun K hK => ⟨by kernel_rfl, ⟨_, rfl⟩, fun v hv => ?_, fun v hv => ?_⟩)
          · go_simp
            exact mUpon_b
          subst hv
          go_simp
          refine hK _ ?_
          clear hK K
          refine lexX_uses (fun K hK => ⟨by kernel_rfl, ⟨_, rfl⟩, fun v hv hγ => ?_, fun v hv => ?_⟩)
          · have hx := sameResults_any (c1 := cap9) (c2 := 0) (hγ.2 _ _ (by rw [unhideR Hml])) ((unhideR HL v (below_go (unhideR HB13) hv)).take 0) (by rw [unhideR Hml]; omega)
            rw [unhideR Hml] at hx
            go_simp
            refine hx.mono ?_
            rintro e w9 ⟨rfl, k9⟩
            exact ⟨_, rfl, rfl, k9⟩
          subst hv
          go_simp
          refine hK _ ?_
          clear hK K
          refine lexX_step (fun K hK => ⟨by kernel_rfl, ⟨_, rfl⟩, fun v hv => ?_, fun v hv => ?_⟩)
          · go_simp
            exact mUpon_b
          subst hv
          go_simp
          refine hK _ ?_
          clear hK K
          refine lexX_end (fun v14 hv => ?_)
          have k14 := hv.low
          clear hv
          refine wpAny_step (i := 16) (by kernel_rfl) rfl (by kernel_rfl) (fun K hK => ?_)
          unfold Oper.wp
          go_simp
          refine hK _ _ ?_
          clear hK K
          refine wpAny_end (by kernel_rfl) ?_
          have HB14 := hideR (below_go (unhideR HB13) k14)
          clear k14
          go_wp2
          go_ret
          exact ⟨rfl, unhideR HB14⟩
        case' inr.inl =>
          obtain ⟨e2, e3⟩ := unhideR Hz2 f1
          subst e2
          subst e3
          clear f1
          go_upto_region 25 with fail
          refine wp_region_made 0 #[true, true, true, true, true, true, true, true, true, true, true, true, true, true, true, true, false] [.lets (· = .pointer (some ⟨p3, 0, none⟩)),
            .lets (· = .bool true),
            .lets (· = .bool true),
            .lets (· = .int .i64 ((0 : Nat) : Int)),
            .lets (· = .int .i64 ((0 : Nat) : Int)),
            .lets (· = .int .i64 ((0 : Nat) : Int)),
            .lets (· = .bool true),
            .lets (· = .bool true),
            .lets (· = .bool true),
            .lets (· = .pointer (some ⟨p3, 0, none⟩)),
            .made (SlR 0) (OnR (l.take 0)),
            .lets (· = .slice none l.length 0),
            .lets (· = .int .i64 ((0 : Nat) : Int)),
            .lets (· = .slice none 0 0),
            .uses (· = .bool true),
            .lets (· = .bool true)] [10] [14] (by kernel_rfl) (by kernel_rfl) rfl ?kinds (by kernel_rfl) (by kernel_rfl) (by kernel_rfl) ?_
          case kinds =>
            constructor
            · intro i h
              rcases i with _ | _ | _ | _ | _ | _ | _ | _ | _ | _ | _ | _ | _ | _ | _ | _ | i <;> simp [Kx.isMade] at h ⊢
            · intro i h
              rcases i with _ | _ | _ | _ | _ | _ | _ | _ | _ | _ | _ | _ | _ | _ | _ | _ | i <;> simp [Kx.isUse] at h ⊢
          refine lexX_step (fun K hK => ⟨by kernel_rfl, ⟨_, rfl⟩, fun v hv => ?_, fun v hv => ?_⟩)
          · go_simp
            exact mUpon_b
          subst hv
          go_simp
          refine hK _ ?_
          clear hK K
          refine lexX_step (fun K hK => ⟨by kernel_rfl, ⟨_, rfl⟩, fun v hv => ?_, fun v hv => ?_⟩)
          · go_simp
            exact mUpon_b
          subst hv
          go_simp
          refine hK _ ?_
          clear hK K
          refine lexX_step (fun K hK => ⟨by kernel_rfl, ⟨_, rfl⟩, fun v hv => ?_, fun v hv => ?_⟩)
          · go_simp
            exact mUpon_b
          subst hv
          go_simp
          refine hK _ ?_
          clear hK K
          refine lexX_step (fun K hK => ⟨by kernel_rfl, ⟨_, rfl⟩, fun v hv => ?_, fun v hv => ?_⟩)
          · go_simp
            exact mUpon_b
          subst hv
          go_simp
          refine hK _ ?_
          clear hK K
          refine lexX_step (fun K hK => ⟨by kernel_rfl, ⟨_, rfl⟩, fun v hv => ?_, fun v hv => ?_⟩)
          · go_simp
            exact mUpon_b
          subst hv
          go_simp
          refine hK _ ?_
          clear hK K
          refine lexX_step (fun K hK => ⟨by kernel_rfl, ⟨_, rfl⟩, fun v hv => ?_, fun v hv => ?_⟩)
          · go_simp
            exact mUpon_b
          subst hv
          go_simp
          refine hK _ ?_
          clear hK K
          refine lexX_step (fun K hK => ⟨by kernel_rfl, ⟨_, rfl⟩, fun v hv => ?_, fun v hv => ?_⟩)
          · go_simp
            exact mUpon_b
          subst hv
          go_simp
          refine hK _ ?_
          clear hK K
          refine lexX_step (fun K hK => ⟨by kernel_rfl, ⟨_, rfl⟩, fun v hv => ?_, fun v hv => ?_⟩)
          · go_simp
            exact mUpon_b
          subst hv
          go_simp
          refine hK _ ?_
          clear hK K
          refine lexX_step (fun K hK => ⟨by kernel_rfl, ⟨_, rfl⟩, fun v hv => ?_, fun v hv => ?_⟩)
          · go_simp
            exact mUpon_b
          subst hv
          go_simp
          refine hK _ ?_
          clear hK K
          refine lexX_step (fun K hK => ⟨by kernel_rfl, ⟨_, rfl⟩, fun v hv => ?_, fun v hv => ?_⟩)
          · go_simp
            exact mUpon_b
          subst hv
          go_simp
          refine hK _ ?_
          clear hK K
          refine lexX_made ⟨by kernel_rfl, ⟨_, none, 0, rfl⟩, onR_stb _, fun v hv => ?_, ?_⟩
          · have hx := hP.results (hP.below (unhideR HR13) hv) (by rw [unhideR Hml]; omega)
            go_simp
            refine hx.mono ?_
            rintro e w9 ⟨⟨v9, rfl, ad9, cap9, rfl, ha9⟩, k9⟩
            rw [unhideR Hml]
            exact ⟨_, rfl, ⟨⟨ad9, cap9, rfl⟩, fun ad c e => by (try rw [unhideR Hml] at e); cases e; exact ha9⟩, k9⟩
          rintro _ ⟨ad9, cap9, rfl⟩ K9 hK9
          go_simp
          refine hK9 _ ?_
          clear hK9 K9
          refine lexX_step (fun K hK => ⟨by kernel_rfl, ⟨_, rfl⟩, fun v hv => ?_, fun v hv => ?_⟩)
          · go_simp
            exact mUpon_b
          subst hv
          go_simp
          refine hK _ ?_
          clear hK K
          refine lexX_step (fun K hK => ⟨by kernel_rfl, ⟨_, rfl⟩, fun v hv => ?_, fun v hv => ?_⟩)
          · go_simp
            exact mUpon_b
          subst hv
          go_simp
          refine hK _ ?_
          clear hK K
          refine lexX_step (fun K hK => ⟨by kernel_rfl, ⟨_, rfl⟩, fun v hv => ?_, fun v hv => ?_⟩)
          · go_simp
            exact mUpon_b
          subst hv
          go_simp
          refine hK _ ?_
          clear hK K
          refine lexX_uses (fun K hK => ⟨by kernel_rfl, ⟨_, rfl⟩, fun v hv hγ => ?_, fun v hv => ?_⟩)
          · have hx := sameResults_any (c1 := cap9) (c2 := 0) (hγ.2 _ _ (by rw [unhideR Hml])) ((unhideR HL v (below_go (unhideR HB13) hv)).take 0) (by rw [unhideR Hml]; omega)
            rw [unhideR Hml] at hx
            go_simp
            refine hx.mono ?_
            rintro e w9 ⟨rfl, k9⟩
            exact ⟨_, rfl, rfl, k9⟩
          subst hv
          go_simp
          refine hK _ ?_
          clear hK K
          refine lexX_step (fun K hK => ⟨by kernel_rfl, ⟨_, rfl⟩, fun v hv => ?_, fun v hv => ?_⟩)
          · go_simp
            exact mUpon_b
          subst hv
          go_simp
          refine hK _ ?_
          clear hK K
          refine lexX_end (fun v14 hv => ?_)
          have k14 := hv.low
          clear hv
          refine wpAny_step (i := 16) (by kernel_rfl) rfl (by kernel_rfl) (fun K hK => ?_)
          unfold Oper.wp
          go_simp
          refine hK _ _ ?_
          clear hK K
          refine wpAny_end (by kernel_rfl) ?_
          have HB14 := hideR (below_go (unhideR HB13) k14)
          clear k14
          go_wp2
          go_ret
          exact ⟨rfl, unhideR HB14⟩
        case' inl.inr =>
          go_upto_region 25 with fail
          refine wp_region_made 0 #[true, true, true, true, true, true, true, true, true, true, true, true, true, true, true, true, false] [.lets (· = .pointer (some ⟨p3, 0, none⟩)),
            .lets (· = .bool true),
            .lets (· = .bool true),
            .lets (· = .int .i64 ((0 : Nat) : Int)),
            .lets (· = .int .i64 ((0 : Nat) : Int)),
            .lets (· = .int .i64 ((0 : Nat) : Int)),
            .lets (· = .bool true),
            .lets (· = .bool true),
            .lets (· = .bool true),
            .lets (· = .pointer (some ⟨p3, 0, none⟩)),
            .made (SlR 0) (OnR (l.take 0)),
            .lets (· = .slice (some a0) l.length cap),
            .lets (· = .int .i64 ((0 : Nat) : Int)),
            .lets (· = .slice (some a0) 0 cap),
            .uses (· = .bool true),
            .lets (· = .bool true)] [10] [14] (by kernel_rfl) (by kernel_rfl) rfl ?kinds (by kernel_rfl) (by kernel_rfl) (by kernel_rfl) ?_
          case kinds =>
            constructor
            · intro i h
              rcases i with _ | _ | _ | _ | _ | _ | _ | _ | _ | _ | _ | _ | _ | _ | _ | _ | i <;> simp [Kx.isMade] at h ⊢
            · intro i h
              rcases i with _ | _ | _ | _ | _ | _ | _ | _ | _ | _ | _ | _ | _ | _ | _ | _ | i <;> simp [Kx.isUse] at h ⊢
          refine lexX_step (fun K hK => ⟨by kernel_rfl, ⟨_, rfl⟩, fun v hv => ?_, fun v hv => ?_⟩)
          · go_simp
            exact mUpon_b
          subst hv
          go_simp
          refine hK _ ?_
          clear hK K
          refine lexX_step (fun K hK => ⟨by kernel_rfl, ⟨_, rfl⟩, fun v hv => ?_, fun v hv => ?_⟩)
          · go_simp
            exact mUpon_b
          subst hv
          go_simp
          refine hK _ ?_
          clear hK K
          refine lexX_step (fun K hK => ⟨by kernel_rfl, ⟨_, rfl⟩, fun v hv => ?_, fun v hv => ?_⟩)
          · go_simp
            exact mUpon_b
          subst hv
          go_simp
          refine hK _ ?_
          clear hK K
          refine lexX_step (fun K hK => ⟨by kernel_rfl, ⟨_, rfl⟩, fun v hv => ?_, fun v hv => ?_⟩)
          · go_simp
            exact mUpon_b
          subst hv
          go_simp
          refine hK _ ?_
          clear hK K
          refine lexX_step (fun K hK => ⟨by kernel_rfl, ⟨_, rfl⟩, fun v hv => ?_, fun v hv => ?_⟩)
          · go_simp
            exact mUpon_b
          subst hv
          go_simp
          refine hK _ ?_
          clear hK K
          refine lexX_step (fun K hK => ⟨by kernel_rfl, ⟨_, rfl⟩, fun v hv => ?_, fun v hv => ?_⟩)
          · go_simp
            exact mUpon_b
          subst hv
          go_simp
          refine hK _ ?_
          clear hK K
          refine lexX_step (fun K hK => ⟨by kernel_rfl, ⟨_, rfl⟩, fun v hv => ?_, fun v hv => ?_⟩)
          · go_simp
            exact mUpon_b
          subst hv
          go_simp
          refine hK _ ?_
          clear hK K
          refine lexX_step (fun K hK => ⟨by kernel_rfl, ⟨_, rfl⟩, fun v hv => ?_, fun v hv => ?_⟩)
          · go_simp
            exact mUpon_b
          subst hv
          go_simp
          refine hK _ ?_
          clear hK K
          refine lexX_step (fun K hK => ⟨by kernel_rfl, ⟨_, rfl⟩, fun v hv => ?_, fun v hv => ?_⟩)
          · go_simp
            exact mUpon_b
          subst hv
          go_simp
          refine hK _ ?_
          clear hK K
          refine lexX_step (fun K hK => ⟨by kernel_rfl, ⟨_, rfl⟩, fun v hv => ?_, fun v hv => ?_⟩)
          · go_simp
            exact mUpon_b
          subst hv
          go_simp
          refine hK _ ?_
          clear hK K
          refine lexX_made ⟨by kernel_rfl, ⟨_, none, 0, rfl⟩, onR_stb _, fun v hv => ?_, ?_⟩
          · have hx := hP.results (hP.below (unhideR HR13) hv) (by rw [unhideR Hml]; omega)
            go_simp
            refine hx.mono ?_
            rintro e w9 ⟨⟨v9, rfl, ad9, cap9, rfl, ha9⟩, k9⟩
            rw [unhideR Hml]
            exact ⟨_, rfl, ⟨⟨ad9, cap9, rfl⟩, fun ad c e => by (try rw [unhideR Hml] at e); cases e; exact ha9⟩, k9⟩
          rintro _ ⟨ad9, cap9, rfl⟩ K9 hK9
          go_simp
          refine hK9 _ ?_
          clear hK9 K9
          refine lexX_step (fun K hK => ⟨by kernel_rfl, ⟨_, rfl⟩, fun v hv => ?_, fun v hv => ?_⟩)
          · go_simp
            exact mUpon_b
          subst hv
          go_simp
          refine hK _ ?_
          clear hK K
          refine lexX_step (fun K hK => ⟨by kernel_rfl, ⟨_, rfl⟩, fun v hv => ?_, fun v hv => ?_⟩)
          · go_simp
            exact mUpon_b
          subst hv
          go_simp
          refine hK _ ?_
          clear hK K
          refine lexX_step (fun K hK => ⟨by kernel_rfl, ⟨_, rfl⟩, fun v hv => ?_, fun v hv => ?_⟩)
          · go_simp
            exact mUpon_b
          subst hv
          go_simp
          refine hK _ ?_
          clear hK K
          refine lexX_uses (fun K hK => ⟨by kernel_rfl, ⟨_, rfl⟩, fun v hv hγ => ?_, fun v hv => ?_⟩)
          · have hx := sameResults_any (c1 := cap9) (c2 := cap) (hγ.2 _ _ (by rw [unhideR Hml])) ((unhideR HL v (below_go (unhideR HB13) hv)).take 0) (by rw [unhideR Hml]; omega)
            rw [unhideR Hml] at hx
            go_simp
            refine hx.mono ?_
            rintro e w9 ⟨rfl, k9⟩
            exact ⟨_, rfl, rfl, k9⟩
          subst hv
          go_simp
          refine hK _ ?_
          clear hK K
          refine lexX_step (fun K hK => ⟨by kernel_rfl, ⟨_, rfl⟩, fun v hv => ?_, fun v hv => ?_⟩)
          · go_simp
            exact mUpon_b
          subst hv
          go_simp
          refine hK _ ?_
          clear hK K
          refine lexX_end (fun v14 hv => ?_)
          have k14 := hv.low
          clear hv
          refine wpAny_step (i := 16) (by kernel_rfl) rfl (by kernel_rfl) (fun K hK => ?_)
          unfold Oper.wp
          go_simp
          refine hK _ _ ?_
          clear hK K
          refine wpAny_end (by kernel_rfl) ?_
          have HB14 := hideR (below_go (unhideR HB13) k14)
          clear k14
          go_wp2
          go_ret
          exact ⟨rfl, unhideR HB14⟩
        case' inr.inr =>
          go_upto_region 25 with fail
          refine wp_region_made 0 #[true, true, true, true, true, true, true, true, true, true, true, true, true, true, true, true, false] [.lets (· = .pointer (some ⟨p3, 0, none⟩)),
            .lets (· = .bool true),
            .lets (· = .bool true),
            .lets (· = .int .i64 (m : Nat)),
            .lets (· = .int .i64 (cn : Nat)),
            .lets (· = .int .i64 (m : Nat)),
            .lets (· = .bool true),
            .lets (· = .bool true),
            .lets (· = .bool true),
            .lets (· = .pointer (some ⟨p3, 0, none⟩)),
            .made (SlR m) (OnR (l.take m)),
            .lets (· = .slice (some a0) l.length cap),
            .lets (· = .int .i64 (m : Nat)),
            .lets (· = .slice (some a0) m cap),
            .uses (· = .bool true),
            .lets (· = .bool true)] [10] [14] (by kernel_rfl) (by kernel_rfl) rfl ?kinds (by kernel_rfl) (by kernel_rfl) (by kernel_rfl) ?_
          case kinds =>
            constructor
            · intro i h
              rcases i with _ | _ | _ | _ | _ | _ | _ | _ | _ | _ | _ | _ | _ | _ | _ | _ | i <;> simp [Kx.isMade] at h ⊢
            · intro i h
              rcases i with _ | _ | _ | _ | _ | _ | _ | _ | _ | _ | _ | _ | _ | _ | _ | _ | i <;> simp [Kx.isUse] at h ⊢
          refine lexX_step (fun K hK => ⟨by kernel_rfl, ⟨_, rfl⟩, fun v hv => ?_, fun v hv => ?_⟩)
          · go_simp
            exact mUpon_b
          subst hv
          go_simp
          refine hK _ ?_
          clear hK K
          refine lexX_step (fun K hK => ⟨by kernel_rfl, ⟨_, rfl⟩, fun v hv => ?_, fun v hv => ?_⟩)
          · go_simp
            exact mUpon_b
          subst hv
          go_simp
          refine hK _ ?_
          clear hK K
          refine lexX_step (fun K hK => ⟨by kernel_rfl, ⟨_, rfl⟩, fun v hv => ?_, fun v hv => ?_⟩)
          · go_simp
            exact mUpon_b
          subst hv
          go_simp
          refine hK _ ?_
          clear hK K
          refine lexX_step (fun K hK => ⟨by kernel_rfl, ⟨_, rfl⟩, fun v hv => ?_, fun v hv => ?_⟩)
          · go_simp
            exact mUpon_b
          subst hv
          go_simp
          refine hK _ ?_
          clear hK K
          refine lexX_step (fun K hK => ⟨by kernel_rfl, ⟨_, rfl⟩, fun v hv => ?_, fun v hv => ?_⟩)
          · go_simp
            exact mUpon_b
          subst hv
          go_simp
          refine hK _ ?_
          clear hK K
          refine lexX_step (fun K hK => ⟨by kernel_rfl, ⟨_, rfl⟩, fun v hv => ?_, fun v hv => ?_⟩)
          · go_simp
            exact mUpon_b
          subst hv
          go_simp
          refine hK _ ?_
          clear hK K
          refine lexX_step (fun K hK => ⟨by kernel_rfl, ⟨_, rfl⟩, fun v hv => ?_, fun v hv => ?_⟩)
          · go_simp
            exact mUpon_b
          subst hv
          go_simp
          refine hK _ ?_
          clear hK K
          refine lexX_step (fun K hK => ⟨by kernel_rfl, ⟨_, rfl⟩, fun v hv => ?_, fun v hv => ?_⟩)
          · go_simp
            exact mUpon_b
          subst hv
          go_simp
          refine hK _ ?_
          clear hK K
          refine lexX_step (fun K hK => ⟨by kernel_rfl, ⟨_, rfl⟩, fun v hv => ?_, fun v hv => ?_⟩)
          · go_simp
            exact mUpon_b
          subst hv
          go_simp
          refine hK _ ?_
          clear hK K
          refine lexX_step (fun K hK => ⟨by kernel_rfl, ⟨_, rfl⟩, fun v hv => ?_, fun v hv => ?_⟩)
          · go_simp
            exact mUpon_b
          subst hv
          go_simp
          refine hK _ ?_
          clear hK K
          refine lexX_made ⟨by kernel_rfl, ⟨_, none, 0, rfl⟩, onR_stb _, fun v hv => ?_, ?_⟩
          · have hx := hP.results (hP.below (unhideR HR13) hv) (by rw [unhideR Hml]; omega)
            go_simp
            refine hx.mono ?_
            rintro e w9 ⟨⟨v9, rfl, ad9, cap9, rfl, ha9⟩, k9⟩
            rw [unhideR Hml]
            exact ⟨_, rfl, ⟨⟨ad9, cap9, rfl⟩, fun ad c e => by (try rw [unhideR Hml] at e); cases e; exact ha9⟩, k9⟩
          rintro _ ⟨ad9, cap9, rfl⟩ K9 hK9
          go_simp
          refine hK9 _ ?_
          clear hK9 K9
          refine lexX_step (fun K hK => ⟨by kernel_rfl, ⟨_, rfl⟩, fun v hv => ?_, fun v hv => ?_⟩)
          · go_simp
            exact mUpon_b
          subst hv
          go_simp
          refine hK _ ?_
          clear hK K
          refine lexX_step (fun K hK => ⟨by kernel_rfl, ⟨_, rfl⟩, fun v hv => ?_, fun v hv => ?_⟩)
          · go_simp
            exact mUpon_b
          subst hv
          go_simp
          refine hK _ ?_
          clear hK K
          refine lexX_step (fun K hK => ⟨by kernel_rfl, ⟨_, rfl⟩, fun v hv => ?_, fun v hv => ?_⟩)
          · go_simp
            exact mUpon_b
          subst hv
          go_simp
          refine hK _ ?_
          clear hK K
          refine lexX_uses (fun K hK => ⟨by kernel_rfl, ⟨_, rfl⟩, fun v hv hγ => ?_, fun v hv => ?_⟩)
          · have hx := sameResults_any (c1 := cap9) (c2 := cap) (hγ.2 _ _ (by rw [unhideR Hml])) ((unhideR HL v (below_go (unhideR HB13) hv)).take m) (by rw [unhideR Hml]; omega)
            rw [unhideR Hml] at hx
            go_simp
            refine hx.mono ?_
            rintro e w9 ⟨rfl, k9⟩
            exact ⟨_, rfl, rfl, k9⟩
          subst hv
          go_simp
          refine hK _ ?_
          clear hK K
          refine lexX_step (fun K hK => ⟨by kernel_rfl, ⟨_, rfl⟩, fun v hv => ?_, fun v hv => ?_⟩)
          · go_simp
            exact mUpon_b
          subst hv
          go_simp
          refine hK _ ?_
          clear hK K
          refine lexX_end (fun v14 hv => ?_)
          have k14 := hv.low
          clear hv
          refine wpAny_step (i := 16) (by kernel_rfl) rfl (by kernel_rfl) (fun K hK => ?_)
          unfold Oper.wp
          go_simp
          refine hK _ _ ?_
          clear hK K
          refine wpAny_end (by kernel_rfl) ?_
          have HB14 := hideR (below_go (unhideR HB13) k14)
          clear k14
          go_wp2
          go_ret
          exact ⟨rfl, unhideR HB14⟩
end Go.Proofs.Ytfonpobdnhifgan
