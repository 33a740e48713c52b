/-
  NightBest, walked: the program and the document by their contracts.
-/
import Derived.Test.YtoacdaemhcbbhaaDoorNgL2
import Derived.Test.YtoacdaemhcbbhaaDoorNgH3
import Derived.Test.YtoacdaemhcbbhaaDoorNgK2
import Derived.Test.YtoacdaemhcbbhaaDoorNgK3
import Derived.Test.YtoacdaemhcbbhaaDoorNgK4
import Derived.Test.YtoacdaemhcbbhaaDoorCodA
namespace Go.Proofs.YtoacdaemhcbbhaaDoor
open Go Go.RowKit

theorem joE_pos {l : List Jb} (h : joE l ≠ 0) : 0 < joE l := by
  unfold joE at h ⊢
  split
  · decide
  · split
    · decide
    · split
      · decide
      · rename_i h1 h2 h3
        rw [if_neg h1, if_neg h2, if_neg h3] at h
        exact absurd rfl h
theorem few_is {l : List Jb} (h : fewV l = true) : (∀ k, k < l.length → (l.getD k jb0).ws.length ≤ 20) ∧ (l.length ≤ 6 ∨ 12 < l.length) ∧ l.length ≤ 20 := by
  unfold fewV at h
  rw [Bool.and_eq_true, Bool.or_eq_true, Bool.and_eq_true, decide_eq_true_eq, decide_eq_true_eq, decide_eq_true_eq] at h
  obtain ⟨h1, h2⟩ := h
  have h1 : anyN (fun k => decide (20 < (l.getD k jb0).ws.length)) l.length = false := by simpa using h1
  refine ⟨fun k hk => ?_, ?_, by omega⟩
  · by_cases q : 20 < (l.getD k jb0).ws.length
    · have := (anyN_iff (P := fun k => decide (20 < (l.getD k jb0).ws.length))).2 ⟨k, hk, decide_eq_true q⟩
      rw [h1] at this
      cases this
    · omega
  · omega
def OneT (s : Slt) (v : Value) (w : World) : Prop := ∀ g : Nat, v = .slice (some ⟨g, 0, none⟩) 1 1 → w.heap[g]? = some (.cells #[.string s.nm, .int .i64 s.fr] 38)
theorem oneT_stb (s : Slt) (v : Value) : Stb (OneT s v) := fun _ _ h k g q => keepB (h g q) k
theorem infoRs : (Tryd.prog.info? 38).map (fun i => (i.zero, i.size, i.bytes)) = some (some (.agg #[.string ByteArray.empty, .int .i64 0]), 2, 24) := by kernel_rfl
theorem Sltake {L : List Slt} {k : Nat} (h : k < L.length) : L.take (k + 1) = L.take k ++ [L.getD k sl0] := by
  rw [List.take_add_one, List.getElem?_eq_getElem h, List.getD_eq_getElem?_getD, List.getElem?_eq_getElem h]
  rfl
theorem sl_in {w : World} {B : Nat} {t : TypeId} {v : Value} {L : List Slt} (h : w.ownsRow B t 2 v L.length (flatSl L)) : ∃ ad cap, v = .slice ad L.length cap ∧ SlIn w ad L := by
  rcases sl_own h with ⟨rfl, rfl⟩ | ⟨g, cap, rfl, _, hS⟩
  · exact ⟨none, 0, rfl, ⟨fun k hk => absurd hk (Nat.not_lt_zero k)⟩⟩
  · exact ⟨_, cap, rfl, (cameSl hS.holds hS.lt).to⟩
def NbPost (w : World) (e : Ending) (w' : World) : Prop := e = .returned (.bool true) ∧ Below w.heap.size w w'
set_option maxRecDepth 1000000 in
set_option maxHeartbeats 12800000 in
theorem best_walk {a : Nat → Addr} {w : World} {ad : Option Addr} {cap : Nat} {l : List Jb} (hS : Sents w a) (hl : JbCame w ad l) (hn : l.length ≤ 9223372036854775807) (hw : ∀ k, k < l.length → (l.getD k jb0).ws.length ≤ 9223372036854775807) :
    Calls Tryd.prog 3 #[.slice ad l.length cap] w (NbPost w) := by
  have HS : HeldR (∀ u, Below w.heap.size w u → Sents u a) := hideR (fun u k => hS.below k (Nat.le_refl _))
  have HL : HeldR (∀ u, Below w.heap.size w u → JbCame u ad l) := hideR (fun u k => hl.below k)
  have HP : HeldR (∀ w', Below w.heap.size w w' → NbPost w (.returned (.bool true)) w') := hideR (fun w' h => ⟨rfl, h⟩)
  have HW := hideR hw
  generalize NbPost w = POST at *
  have h1 := planned_any hS
  go_enter Tryd.func3, Tryd.ntmps3
  go_wp2_with fail
  refine h1.mono ?_
  rintro e u1 ⟨rfl, k1⟩
  have HB1 := hideR k1
  have h2 := few_any (cap := cap) (unhideR HL u1 k1) hn (unhideR HW)
  clear h1 k1 hS hl hw
  obtain ⟨fv, hfv⟩ : ∃ fv, fewV l = fv := ⟨_, rfl⟩
  rw [hfv] at h2
  go_wp2_with fail
  refine h2.mono ?_
  rintro e u2 ⟨rfl, rfl⟩
  clear h2
  cases fv
  case false =>
    have HQ := hideR (unhideR HP u2 (unhideR HB1))
    clear HP HS HL HW HB1
    go_wp2
    exact unhideR HQ
  obtain ⟨f1, f2, f3⟩ := few_is hfv
  have HF1 := hideR f1
  clear hfv HW f1
  have h3 := ljobs_any (cap := cap) (unhideR HL u2 (unhideR HB1)) (by omega) (fun k hk => by have := unhideR HF1 k hk; omega)
  go_wp2_with fail
  refine h3.mono ?_
  rintro e u3 ⟨⟨v3, X3, rfl, hj3⟩, k3⟩
  obtain ⟨a3, c3, rfl, hc3, hcp3⟩ := hj3.came
  have HB3 := hideR (below_go (unhideR HB1) k3)
  have h4 := pbest_any (unhideR HS u3 (unhideR HB3)) hc3 hcp3 (by omega) (fun k hk => by have := unhideR HF1 k hk; omega) f2
  clear h3 k3 hj3 hc3 HB1
  go_wp2_with fail
  refine h4.mono ?_
  rintro e u4 ⟨hbe, k4⟩
  have HB4 := hideR (below_go (unhideR HB3) k4)
  clear h4 k4 HB3
  have h5 := jobsError_any (cap := cap) (unhideR HL u4 (unhideR HB4)) (by omega) (fun k hk => by have := unhideR HF1 k hk; omega)
  have HJs : HeldR (∀ u, Below w.heap.size w u → Calls Tryd.prog 9 #[.slice ad l.length cap] u (LjPost l u)) := hideR (fun u hu => ljobs_any (cap := cap) (unhideR HL u hu) (by omega) (fun k hk => by have := unhideR HF1 k hk; omega))
  have HVl : HeldR (∀ u ad2 c2, Below w.heap.size w u → JbCame u ad2 l → l.length ≤ c2 → Calls Tryd.prog 12 #[.slice ad2 l.length c2] u (VlPost a l u)) := hideR (fun u ad2 c2 h1 h2 h3 => pvalid_any (unhideR HS u h1) h2 h3 (by omega) (fun k hk => by have := unhideR HF1 k hk; omega))
  unfold LjPost at HJs
  unfold VlPost at HVl
  rcases hbe with ⟨h0, E, hE, rfl⟩ | ⟨h0, b, ap, cp, hb, rfl, hsl⟩
  · obtain ⟨E0, hE0⟩ : ∃ E0, joE l = E0 := ⟨_, rfl⟩
    have hpos := joE_pos h0
    rw [hE0] at h5 hE hpos
    have tp : decide ((0 : Int) < E0) = true := decide_eq_true hpos
    have HErr := hideR hE
    clear h0 hE
    go_wp2_with fail
    refine h5.mono ?_
    rintro e u5 ⟨rfl, k5⟩
    have HB5 := hideR (below_go (unhideR HB4) k5)
    have Hk5 := hideR k5
    have h6 := unhideR HJs u5 (unhideR HB5)
    clear h5 k5
    go_wp2_with fail
    refine h6.mono ?_
    rintro e u6 ⟨⟨v6, X6, rfl, hj6⟩, k6⟩
    obtain ⟨a6, c6, rfl, hc6, hcp6⟩ := hj6.came
    have HB6 := hideR (below_go (unhideR HB5) k6)
    have Hk6 := hideR (below_go (unhideR Hk5) k6)
    have h7 := unhideR HVl u6 a6 c6 (unhideR HB6) hc6 hcp6
    clear h6 k6 hj6 hc6
    go_wp2_with fail
    refine h7.mono ?_
    rintro e u7 ⟨⟨E7, rfl, hE7⟩, k7⟩
    have HB7 := hideR (below_go (unhideR HB6) k7)
    have Hk7 := hideR (below_go (unhideR Hk6) k7)
    have h8 := coded_err (unhideR HS u7 (unhideR HB7)) hE7
    rw [hE0] at h8
    clear h7 k7 hE7
    go_wp2_with fail
    refine h8.mono ?_
    rintro e u8 ⟨rfl, k8⟩
    have HB8 := hideR (below_go (unhideR HB7) k8)
    have Hk8 := hideR (below_go (unhideR Hk7) k8)
    clear h8 k8
    have h9 := coded_err (unhideR HS u8 (unhideR HB8)) (unhideR HErr)
    clear HErr
    go_wp2_with fail
    refine h9.mono ?_
    rintro e u9 ⟨rfl, k9⟩
    have HQ := hideR (unhideR HP u9 (below_go (unhideR HB8) k9))
    clear h9 k9 HP HS HL HJs HVl HF1 HB4 HB5 HB6 HB7 HB8 Hk5 Hk6 Hk7 Hk8
    go_wp2
    exact unhideR HQ
  obtain ⟨h12, _, hok⟩ := joE_ok h0
  have hn6 : l.length ≤ 6 := by omega
  have HWo := hideR (plan_worth hn6 h0 hb)
  have HMo := hideR (plan_most hn6 h0 hb)
  have HOk := hideR hok
  have hE0 := h0
  have HSl := hideR hsl
  have hlen : (slL l (backL (jo l) tMin 6 b)).length = (slL l (backL (jo l) tMin 6 b)).reverse.length := List.length_reverse.symm
  have hl6 : (slL l (backL (jo l) tMin 6 b)).reverse.length ≤ 6 := by rw [List.length_reverse, slL_len]; exact backL_len _ _ 6 b
  rw [hlen]
  rw [h0] at h5
  clear h0 hb hok hsl hlen
  generalize (slL l (backL (jo l) tMin 6 b)).reverse = P at *
  generalize (rowV (jo l) tMin b).wo = wo at *
  have tp : decide ((0 : Int) < 0) = false := rfl
  have HO0 : HeldR (∀ u : World, u.ownsRow u.heap.size 38 2 (.slice none 0 0) (P.take 0).length (flatSl (P.take 0))) := hideR (fun _ => World.ownsRow_nil _ _ _ _)
  have HT : HeldR (∀ k, k < P.length → P.take (k + 1) = P.take k ++ [P.getD k sl0]) := hideR (fun k hk => Sltake hk)
  have HTl : HeldR (∀ k, k ≤ P.length → (P.take k).length = k) := hideR (fun k hk => by rw [List.length_take]; omega)
  have HTf : HeldR (P.take P.length = P) := hideR (List.take_length ..)
  go_wp2_with fail
  refine h5.mono ?_
  rintro e u5 ⟨rfl, k5⟩
  have HB5 := hideR (below_go (unhideR HB4) k5)
  have Hk5 := hideR k5
  have h6 := unhideR HJs u5 (unhideR HB5)
  clear h5 k5
  go_wp2_with fail
  refine h6.mono ?_
  rintro e u6 ⟨⟨v6, X6, rfl, hj6⟩, k6⟩
  obtain ⟨a6, c6, rfl, hc6, hcp6⟩ := hj6.came
  have HB6 := hideR (below_go (unhideR HB5) k6)
  have Hk6 := hideR (below_go (unhideR Hk5) k6)
  have h7 := unhideR HVl u6 a6 c6 (unhideR HB6) hc6 hcp6
  clear h6 k6 hj6 hc6
  go_wp2_with fail
  refine h7.mono ?_
  rintro e u7 ⟨⟨E7, rfl, hE7⟩, k7⟩
  have HB7 := hideR (below_go (unhideR HB6) k7)
  have Hk7 := hideR (below_go (unhideR Hk6) k7)
  have h8 := coded_err (unhideR HS u7 (unhideR HB7)) hE7
  rw [hE0] at h8
  clear h7 k7 hE7
  go_wp2_with fail
  refine h8.mono ?_
  rintro e u8 ⟨rfl, k8⟩
  have HB8 := hideR (below_go (unhideR HB7) k8)
  have Hk8 := hideR (below_go (unhideR Hk7) k8)
  clear h8 k8
  have HSu : HeldR (∀ u, Below u8.heap.size u8 u → SlIn u ap P) := hideR (fun u hu => (unhideR HSl).to.below (below_go (unhideR Hk8) hu))
  clear HSl Hk5 Hk6 Hk7 Hk8 HB4 HB5 HB6 HB7 HJs HVl HF1
  obtain ⟨n, hn0⟩ : ∃ n, P.length = n := ⟨_, rfl⟩
  have Hn := hideR hn0
  rw [hn0] at HT HTl HTf HWo hl6 ⊢
  clear hn0
  obtain ⟨i0, hi0, hz0, hz1, hz2⟩ := info_parts infoRs
  go_wp2_with fail
  go_loopw [10, 11] (fun pv iv wl => ∃ i : Nat, i ≤ n ∧ iv = .int .i64 (i : Nat) ∧ HeldR (wl.ownsRow u8.heap.size 38 2 pv (P.take i).length (flatSl (P.take i))) ∧ HeldR (Below u8.heap.size u8 wl)) (fun _ iv _ => n + 1 - (intOf iv).toNat)
  case atStart => exact ⟨0, by omega, rfl, hideR (unhideR HO0 _), hideR (Below.refl _ _)⟩
  case round =>
    clear HO0
    obtain ⟨i, hi, rfl, HO, HBl⟩ := hrel
    have HB := hideR (below_go (unhideR HB8) (unhideR HBl))
    have HSi := hideR (unhideR HSu wr (unhideR HBl))
    by_cases q : i < n
    case neg =>
      obtain rfl : i = n := by omega
      have ti : decide ((i : Int) < (i : Int)) = false := decide_eq_false (by omega)
      have tin : decide (i < i) = false := decide_eq_false (by omega)
      rw [unhideR HTf] at HO
      obtain ⟨aq, cq, rfl, hin⟩ := sl_in (unhideR HO)
      rw [unhideR Hn]
      have h9 := rworth_any (cap := cap) (pcap := cq) (unhideR HL wr (unhideR HB)) hin (by omega) (by rw [unhideR Hn]; omega) (unhideR HOk)
      rw [unhideR Hn, unhideR HWo] at h9
      unfold RwPost at h9
      have HMs : HeldR (∀ u, Below w.heap.size w u → Calls Tryd.prog 14 #[.slice ad l.length cap] u fun e w' => e = .returned (.int .i64 wo) ∧ Below u.heap.size u w') := hideR (fun u hu => by rw [unhideR HMo]; exact rmostOf_any (unhideR HL u hu) hn6 (unhideR HOk))
      clear HO hin HSi HWo HMo HOk HT HTl HTf HL HS HBl HB8 HSu
      simp only [Option.getD_some, Option.isSome_some] at h9
      go_wp2_with fail
      refine h9.mono ?_
      rintro e u9 ⟨rfl, k9⟩
      have HB9 := hideR (below_go (unhideR HB) k9)
      have h10 := unhideR HMs u9 (unhideR HB9)
      have tw : (wo == wo) = true := beq_self_eq_true _
      clear h9 k9 HMs HB
      go_wp2_with fail
      refine h10.mono ?_
      rintro e u10 ⟨rfl, k10⟩
      have HQ := hideR (unhideR HP u10 (below_go (unhideR HB9) k10))
      clear h10 k10 HP HB9
      go_wp2
      exact unhideR HQ
    have ti : decide ((i : Int) < (n : Int)) = true := decide_eq_true (by omega)
    have tin : decide (i < n) = true := decide_eq_true q
    have wi : IntKind.i64.wrap ((i : Int) + 1) = (i : Int) + 1 := iwrap (by omega) (by omega)
    have hii : (i : Int) < (n : Int) := by omega
    have HT2 := hideR (unhideR HT i q)
    have hti := unhideR HTl i hi
    have Hti := hideR hti
    rw [hti] at HO
    clear hti
    obtain ⟨pb, po, had, hpb, hs0, hs1⟩ := (unhideR HSi).at_ i (by rw [unhideR Hn]; exact q)
    subst had
    have HY : HeldR (∀ v, Below wr.heap.size wr v → v.cell? ⟨pb, po + i * 2, none⟩ = some (.string (P.getD i sl0).nm) ∧ v.cell? ⟨pb, po + i * 2 + 1, none⟩ = some (.int .i64 (P.getD i sl0).fr)) := hideR (fun v hv => ⟨(hv.cell (p := ⟨pb, po + i * 2, none⟩) hpb).trans hs0, (hv.cell (p := ⟨pb, po + i * 2 + 1, none⟩) hpb).trans hs1⟩)
    clear hs0 hs1 HSi HB
    generalize P.getD i sl0 = s at *
    obtain ⟨aq, cq, eq_⟩ := ownsRow_slice (unhideR HO)
    subst eq_
    go_upto_region 14 with fail
    refine wp_region_made 1 #[true, true, true, true, true, true, true, true, true, true, true, true, true, false, false] [.lets (· = .slice aq i cq),
      .lets (· = .slice (some ⟨pb, po, none⟩) n cp),
      .lets (· = .int .i64 (i : Nat)),
      .lets (· = .pointer (some ⟨pb, po + i * 2, none⟩)),
      .lets (· = .pointer (some ⟨pb, po + i * 2, none⟩)),
      .lets (· = .string s.nm),
      .lets (· = .slice (some ⟨pb, po, none⟩) n cp),
      .lets (· = .int .i64 (i : Nat)),
      .lets (· = .pointer (some ⟨pb, po + i * 2, none⟩)),
      .lets (· = .pointer (some ⟨pb, po + i * 2 + 1, none⟩)),
      .lets (· = .int .i64 s.fr),
      .lets (· = .agg #[.string s.nm, .int .i64 s.fr]),
      .made SlP (OneT s)] [12] [] (by kernel_rfl) (by kernel_rfl) rfl ?kinds (by kernel_rfl) (by kernel_rfl) (by kernel_rfl) ?_
    case kinds =>
      constructor
      · intro i h
        rcases i with _ | _ | _ | _ | _ | _ | _ | _ | _ | _ | _ | _ | _ | i <;> simp [Kx.isMade] at h ⊢
      · intro i h
        rcases i with _ | _ | _ | _ | _ | _ | _ | _ | _ | _ | _ | _ | _ | i <;> simp [Kx.isUse] at h
    refine lexX_step (fun K hK => ⟨by kernel_rfl, ⟨_, rfl⟩, fun v hv => ?_, fun v hv => ?_⟩)
    · go_simp
      exact mUpon_b
    subst hv
    go_simp
    refine hK _ ?_
    clear hK K
    refine lexX_step (fun K hK => ⟨by kernel_rfl, ⟨_, rfl⟩, fun v hv => ?_, fun v hv => ?_⟩)
    · go_simp
      exact mUpon_b
    subst hv
    go_simp
    refine hK _ ?_
    clear hK K
    refine lexX_step (fun K hK => ⟨by kernel_rfl, ⟨_, rfl⟩, fun v hv => ?_, fun v hv => ?_⟩)
    · go_simp
      exact mUpon_b
    subst hv
    go_simp
    refine hK _ ?_
    clear hK K
    refine lexX_step (fun K hK => ⟨by kernel_rfl, ⟨_, rfl⟩, fun v hv => ?_, fun v hv => ?_⟩)
    · go_simp
      exact mUpon_b
    subst hv
    go_simp
    refine hK _ ?_
    clear hK K
    refine lexX_step (fun K hK => ⟨by kernel_rfl, ⟨_, rfl⟩, fun v hv => ?_, fun v hv => ?_⟩)
    · go_simp
      exact mUpon_b
    subst hv
    go_simp
    refine hK _ ?_
    clear hK K
    refine lexX_step (fun K hK => ⟨by kernel_rfl, ⟨_, rfl⟩, fun v hv => ?_, fun v hv => ?_⟩)
    · have y9 := (unhideR HY v hv).1
      go_simp
      exact mUpon_b
    subst hv
    go_simp
    refine hK _ ?_
    clear hK K
    refine lexX_step (fun K hK => ⟨by kernel_rfl, ⟨_, rfl⟩, fun v hv => ?_, fun v hv => ?_⟩)
    · go_simp
      exact mUpon_b
    subst hv
    go_simp
    refine hK _ ?_
    clear hK K
    refine lexX_step (fun K hK => ⟨by kernel_rfl, ⟨_, rfl⟩, fun v hv => ?_, fun v hv => ?_⟩)
    · go_simp
      exact mUpon_b
    subst hv
    go_simp
    refine hK _ ?_
    clear hK K
    refine lexX_step (fun K hK => ⟨by kernel_rfl, ⟨_, rfl⟩, fun v hv => ?_, fun v hv => ?_⟩)
    · go_simp
      exact mUpon_b
    subst hv
    go_simp
    refine hK _ ?_
    clear hK K
    refine lexX_step (fun K hK => ⟨by kernel_rfl, ⟨_, rfl⟩, fun v hv => ?_, fun v hv => ?_⟩)
    · go_simp
      exact mUpon_b
    subst hv
    go_simp
    refine hK _ ?_
    clear hK K
    refine lexX_step (fun K hK => ⟨by kernel_rfl, ⟨_, rfl⟩, fun v hv => ?_, fun v hv => ?_⟩)
    · have y9 := (unhideR HY v hv).2
      go_simp
      exact mUpon_b
    subst hv
    go_simp
    refine hK _ ?_
    clear hK K
    refine lexX_step (fun K hK => ⟨by kernel_rfl, ⟨_, rfl⟩, fun v hv => ?_, fun v hv => ?_⟩)
    · go_simp
      exact mUpon_b
    subst hv
    go_simp
    refine hK _ ?_
    clear hK K
    refine lexX_made ⟨by kernel_rfl, ⟨_, 0, rfl⟩, oneT_stb _, fun v hv => ?_, ?_⟩
    · go_simp
      exact ⟨below_a v _, ⟨_, rfl⟩, fun q' hq' => by cases hq'; exact alloc_last v _⟩
    rintro _ ⟨u9, rfl⟩ K9 hK
    go_simp
    refine hK _ ?_
    clear hK K9
    refine lexX_end (fun v5 hv => ?_)
    have z9 := hv.fact.2 _ rfl
    have hO5 := own_below2 (unhideR HO) hv.low
    have HO5 := hideR hO5
    have HB5 := hideR ((unhideR HBl).trans (hv.low.mono (unhideR HBl).size))
    clear hv HY
    refine wpAny_step (i := 13) (by kernel_rfl) rfl (by kernel_rfl) (fun K hK => ?_)
    refine wp_append_at _ _ 35 rfl u8.heap.size 38 i0 (.agg #[.string ByteArray.empty, .int .i64 0]) 2 24 Tryd.underlying35 hi0 hz0 hz1 hz2 rfl (by decide) _ i (flatSl (P.take i)) rfl hO5 ⟨u9, 0, none⟩ 1 1 (valSl s) rfl rfl ?q1 ?q2 ?q3 ?q4 ?q5 ?_
    case q1 =>
      intro j u hu
      rw [add_pl2, Nat.zero_add]
      rcases j with _ | _ | j
      · rw [← hu]; exact (cells_at z9 0 (by simp)).1
      · rw [← hu]; exact (cells_at z9 1 (by simp)).1
      · simp [valSl] at hu
    case q2 => exact valSl_one _
    case q3 => unfold maxLen; omega
    case q4 => omega
    case q5 => exact (unhideR HB5).size
    intro v6 w6 hown hgrow hloc
    have HB9 := hideR ((unhideR HB5).grown hgrow (unhideR HB5).size (fun k e => ((unhideR HO5).lt k e).1))
    have HO9 : HeldR (w6.ownsRow u8.heap.size 38 2 v6 (P.take (i + 1)).length (flatSl (P.take (i + 1)))) := hideR (by
      rw [unhideR HT2, List.length_append, unhideR Hti, flatSl_append]
      have e1 : flatSl [s] = valSl s := List.append_nil _
      rw [e1]
      exact hown)
    clear hown hgrow hloc hO5 HO5 HB5 z9 HO HT2 HBl
    go_simp
    refine hK _ _ ?_
    clear hK K
    refine wpAny_step (i := 14) (by kernel_rfl) rfl (by kernel_rfl) (fun K hK => ?_)
    unfold Oper.wp
    go_simp
    refine hK _ _ ?_
    clear hK K
    refine wpAny_end (by kernel_rfl) ?_
    go_wp2
    exact ⟨⟨i + 1, by omega, by go_num, HO9, HB9⟩, by simp [intOf]; omega⟩
end Go.Proofs.YtoacdaemhcbbhaaDoor
