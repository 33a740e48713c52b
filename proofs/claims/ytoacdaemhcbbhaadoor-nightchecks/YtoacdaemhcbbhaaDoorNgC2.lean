/-
  NightChecks, walked: the program and the document by their contracts.
-/
import Derived.Test.YtoacdaemhcbbhaaDoorNgC1
import Derived.Test.YtoacdaemhcbbhaaDoorNgL3
namespace Go.Proofs.YtoacdaemhcbbhaaDoor
open Go Go.RowKit

def OneU (s : Slt) (v : Value) (w : World) : Prop := ∀ g : Nat, v = .slice (some ⟨g, 0, none⟩) 1 1 → w.heap[g]? = some (.cells #[.string s.nm, .int .i64 s.fr] 37)
theorem oneU_stb (s : Slt) (v : Value) : Stb (OneU s v) := fun _ _ h k g q => keepB (h g q) k
theorem infoNu : (Tryd.prog.info? 37).map (fun i => (i.zero, i.size, i.bytes)) = some (some (.agg #[.string ByteArray.empty, .int .i64 0]), 2, 24) := by kernel_rfl
set_option maxRecDepth 1000000 in
set_option maxHeartbeats 12800000 in
theorem checks_walk {a : Nat → Addr} {w : World} {ad pd : Option Addr} {cap pcap : Nat} {l : List Jb} {P : List Slt} (hS : Sents w a) (hl : JbCame w ad l) (hn : l.length ≤ 9223372036854775807) (hw : ∀ k, k < l.length → (l.getD k jb0).ws.length ≤ 9223372036854775807) (hp : SlIn w pd P) (hpn : P.length ≤ 9223372036854775807) :
    Calls Tryd.prog 4 #[.slice ad l.length cap, .slice pd P.length pcap] w (NbPost w) := by
  have HS : HeldR (∀ u, Below w.heap.size w u → Sents u a) := hideR (fun u k => hS.below k (Nat.le_refl _))
  have HL : HeldR (∀ u, Below w.heap.size w u → JbCame u ad l) := hideR (fun u k => hl.below k)
  have HPl : HeldR (∀ u, Below w.heap.size w u → SlIn u pd P) := hideR (fun u k => hp.below k)
  have HP : HeldR (∀ w', Below w.heap.size w w' → NbPost w (.returned (.bool true)) w') := hideR (fun w' h => ⟨rfl, h⟩)
  have HW := hideR hw
  generalize NbPost w = POST at *
  have h1 := planned_any hS
  go_enter Tryd.func4, Tryd.ntmps4
  go_wp2_with fail
  refine h1.mono ?_
  rintro e u1 ⟨rfl, k1⟩
  have HB1 := hideR k1
  have h2 := few_any (cap := cap) (unhideR HL u1 k1) hn (unhideR HW)
  clear h1 k1 hS hl hw hp
  obtain ⟨fv, hfv⟩ : ∃ fv, fewV l = fv := ⟨_, rfl⟩
  rw [hfv] at h2
  go_wp2_with fail
  refine h2.mono ?_
  rintro e u2 ⟨rfl, rfl⟩
  clear h2
  obtain ⟨n, hn0⟩ : ∃ n, P.length = n := ⟨_, rfl⟩
  have Hn := hideR hn0
  rw [hn0] at hpn ⊢
  clear hn0
  cases fv
  case false =>
    have HQ := hideR (unhideR HP u2 (unhideR HB1))
    clear HP HS HL HW HB1 HPl
    go_wp2
    exact unhideR HQ
  by_cases q30 : 30 < n
  case pos =>
    have t30 : decide ((30 : Int) < (n : Int)) = true := decide_eq_true (by omega)
    have t30n : decide (30 < n) = true := decide_eq_true q30
    have HQ := hideR (unhideR HP u2 (unhideR HB1))
    clear HP HS HL HW HB1 HPl
    go_wp2
    exact unhideR HQ
  have t30 : decide ((30 : Int) < (n : Int)) = false := decide_eq_false (by omega)
  have t30n : decide (30 < n) = false := decide_eq_false q30
  have hnl : n ≤ 30 := by omega
  obtain ⟨f1, f2, f3⟩ := few_is hfv
  have HF1 := hideR f1
  clear hfv HW f1 q30
  have HO0 : HeldR (∀ u : World, u.ownsRow u.heap.size 37 2 (.slice none 0 0) (P.take 0).length (flatSl (P.take 0))) := hideR (fun _ => World.ownsRow_nil _ _ _ _)
  have HT : HeldR (∀ k, k < n → P.take (k + 1) = P.take k ++ [P.getD k sl0]) := hideR (fun k hk => Sltake (by rw [unhideR Hn]; exact hk))
  have HTl : HeldR (∀ k, k ≤ n → (P.take k).length = k) := hideR (fun k hk => by rw [List.length_take, unhideR Hn]; omega)
  have HTf : HeldR (P.take n = P) := hideR (by rw [← unhideR Hn]; exact List.take_length ..)
  obtain ⟨i0, hi0, hz0, hz1, hz2⟩ := info_parts infoNu
  go_wp2_with fail
  go_loopw [7, 8] (fun pv iv wl => ∃ i : Nat, i ≤ n ∧ iv = .int .i64 (i : Nat) ∧ HeldR (wl.ownsRow u2.heap.size 37 2 pv (P.take i).length (flatSl (P.take i))) ∧ HeldR (Below u2.heap.size u2 wl)) (fun _ iv _ => n + 1 - (intOf iv).toNat)
  case atStart => exact ⟨0, by omega, rfl, hideR (unhideR HO0 _), hideR (Below.refl _ _)⟩
  case round =>
    clear HO0
    obtain ⟨i, hi, rfl, HO, HBl⟩ := hrel
    have HB := hideR (below_go (unhideR HB1) (unhideR HBl))
    by_cases q : i < n
    case neg =>
      obtain rfl : i = n := by omega
      have ti : decide ((i : Int) < (i : Int)) = false := decide_eq_false (by omega)
      have tin : decide (i < i) = false := decide_eq_false (by omega)
      rw [unhideR HTf] at HO
      obtain ⟨aq, cq, rfl, hin⟩ := sl_in (unhideR HO)
      rw [unhideR Hn]
      have h3 := ljobs_any (cap := cap) (unhideR HL wr (unhideR HB)) (by omega) (fun k hk => by have := unhideR HF1 k hk; omega)
      have HIn : HeldR (∀ u, Below wr.heap.size wr u → SlIn u aq P) := hideR (fun u hu => hin.below hu)
      clear HO hin HT HTl HTf HBl HB1
      go_wp2_with fail
      refine h3.mono ?_
      rintro e u3 ⟨⟨v3, X3, rfl, hj3⟩, k3⟩
      obtain ⟨a3, c3, rfl, hc3, hcp3⟩ := hj3.came
      have HB3 := hideR (below_go (unhideR HB) k3)
      have h4 := pcheck_any (pcap := cq) (unhideR HS u3 (unhideR HB3)) hc3 (unhideR HIn u3 k3) hcp3 (by omega) (by rw [unhideR Hn]; omega) (fun k hk => by have := unhideR HF1 k hk; omega)
      rw [unhideR Hn] at h4
      clear h3 k3 hj3 hc3 HB HIn
      go_wp2_with fail
      refine h4.mono ?_
      rintro e u4 ⟨hbe, k4⟩
      have HB4 := hideR (below_go (unhideR HB3) k4)
      clear h4 k4 HB3
      have h5 := jobsError_any (cap := cap) (unhideR HL u4 (unhideR HB4)) (by omega) (fun k hk => by have := unhideR HF1 k hk; omega)
      rcases hbe with ⟨h0, E, hE, rfl⟩ | ⟨h0, rfl⟩
      · obtain ⟨E0, hE0⟩ : ∃ E0, joE l = E0 := ⟨_, rfl⟩
        have hpos := joE_pos h0
        rw [hE0] at h5 hE hpos
        have tp : decide ((0 : Int) < E0) = true := decide_eq_true hpos
        have HErr := hideR hE
        clear h0 hE
        go_wp2_with fail
        refine h5.mono ?_
        rintro e u5 ⟨rfl, k5⟩
        have HB5 := hideR (below_go (unhideR HB4) k5)
        clear h5 k5
        have h9 := coded_err (unhideR HS u5 (unhideR HB5)) (unhideR HErr)
        clear HErr
        go_wp2_with fail
        refine h9.mono ?_
        rintro e u9 ⟨rfl, k9⟩
        have HQ := hideR (unhideR HP u9 (below_go (unhideR HB5) k9))
        clear h9 k9 HP HS HL HF1 HB4 HB5 HPl
        go_wp2
        exact unhideR HQ
      obtain ⟨h12, _, hok⟩ := joE_ok h0
      have HOk := hideR hok
      rw [h0] at h5
      rw [unhideR Hn]
      have tp : decide ((0 : Int) < 0) = false := rfl
      have HWo : HeldR (∀ u, Below w.heap.size w u → Calls Tryd.prog 13 #[.slice ad l.length cap, .slice pd i pcap] u (RwPost (worK l P i) u)) := hideR (fun u hu => by
        have := rworth_any (cap := cap) (pcap := pcap) (unhideR HL u hu) (unhideR HPl u hu) h12 (by rw [unhideR Hn]; omega) (unhideR HOk)
        rw [unhideR Hn] at this
        exact this)
      unfold RwPost at HWo
      clear h0 hok HOk HL HPl HS HF1
      generalize (worK l P i).getD 0 = wo at *
      generalize (worK l P i).isSome = is_ at *
      have tw : (wo == wo) = true := beq_self_eq_true _
      have ts : (is_ == is_) = true := beq_self_eq_true _
      go_wp2_with fail
      refine h5.mono ?_
      rintro e u5 ⟨rfl, k5⟩
      have HB5 := hideR (below_go (unhideR HB4) k5)
      have h6 := unhideR HWo u5 (unhideR HB5)
      clear h5 k5 HWo
      go_wp2_with fail
      refine h6.mono ?_
      rintro e u6 ⟨rfl, k6⟩
      have HQ := hideR (unhideR HP u6 (below_go (unhideR HB5) k6))
      clear h6 k6 HP HB4 HB5
      go_wp2
      exact unhideR HQ
    have ti : decide ((i : Int) < (n : Int)) = true := decide_eq_true (by omega)
    have tin : decide (i < n) = true := decide_eq_true q
    have wi : IntKind.i64.wrap ((i : Int) + 1) = (i : Int) + 1 := iwrap (by omega) (by omega)
    have hii : (i : Int) < (n : Int) := by omega
    have HT2 := hideR (unhideR HT i q)
    have hti := unhideR HTl i hi
    have Hti := hideR hti
    rw [hti] at HO
    clear hti
    obtain ⟨pb, po, had, hpb, hs0, hs1⟩ := (unhideR HPl wr (unhideR HB)).at_ i (by rw [unhideR Hn]; exact q)
    subst had
    have HY : HeldR (∀ v, Below wr.heap.size wr v → v.cell? ⟨pb, po + i * 2, none⟩ = some (.string (P.getD i sl0).nm) ∧ v.cell? ⟨pb, po + i * 2 + 1, none⟩ = some (.int .i64 (P.getD i sl0).fr)) := hideR (fun v hv => ⟨(hv.cell (p := ⟨pb, po + i * 2, none⟩) hpb).trans hs0, (hv.cell (p := ⟨pb, po + i * 2 + 1, none⟩) hpb).trans hs1⟩)
    clear hs0 hs1 HB
    generalize P.getD i sl0 = s at *
    obtain ⟨aq, cq, eq_⟩ := ownsRow_slice (unhideR HO)
    subst eq_
    go_upto_region 9 with fail
    refine wp_region_made 1 #[true, true, true, true, true, true, true, true, true, true, true, true, true, false, false] [.lets (· = .slice aq i cq),
      .lets (· = .slice (some ⟨pb, po, none⟩) n pcap),
      .lets (· = .int .i64 (i : Nat)),
      .lets (· = .pointer (some ⟨pb, po + i * 2, none⟩)),
      .lets (· = .pointer (some ⟨pb, po + i * 2, none⟩)),
      .lets (· = .string s.nm),
      .lets (· = .slice (some ⟨pb, po, none⟩) n pcap),
      .lets (· = .int .i64 (i : Nat)),
      .lets (· = .pointer (some ⟨pb, po + i * 2, none⟩)),
      .lets (· = .pointer (some ⟨pb, po + i * 2 + 1, none⟩)),
      .lets (· = .int .i64 s.fr),
      .lets (· = .agg #[.string s.nm, .int .i64 s.fr]),
      .made SlP (OneU s)] [12] [] (by kernel_rfl) (by kernel_rfl) rfl ?kinds (by kernel_rfl) (by kernel_rfl) (by kernel_rfl) ?_
    case kinds =>
      constructor
      · intro i h
        rcases i with _ | _ | _ | _ | _ | _ | _ | _ | _ | _ | _ | _ | _ | i <;> simp [Kx.isMade] at h ⊢
      · intro i h
        rcases i with _ | _ | _ | _ | _ | _ | _ | _ | _ | _ | _ | _ | _ | i <;> simp [Kx.isUse] at h
    refine lexX_step (fun K hK => ⟨by kernel_rfl, ⟨_, rfl⟩, fun v hv => ?_, fun v hv => ?_⟩)
    · go_simp
      exact mUpon_b
    subst hv
    go_simp
    refine hK _ ?_
    clear hK K
    refine lexX_step (fun K hK => ⟨by kernel_rfl, ⟨_, rfl⟩, fun v hv => ?_, fun v hv => ?_⟩)
    · go_simp
      exact mUpon_b
    subst hv
    go_simp
    refine hK _ ?_
    clear hK K
    refine lexX_step (fun K hK => ⟨by kernel_rfl, ⟨_, rfl⟩, fun v hv => ?_, fun v hv => ?_⟩)
    · go_simp
      exact mUpon_b
    subst hv
    go_simp
    refine hK _ ?_
    clear hK K
    refine lexX_step (fun K hK => ⟨by kernel_rfl, ⟨_, rfl⟩, fun v hv => ?_, fun v hv => ?_⟩)
    · go_simp
      exact mUpon_b
    subst hv
    go_simp
    refine hK _ ?_
    clear hK K
    refine lexX_step (fun K hK => ⟨by kernel_rfl, ⟨_, rfl⟩, fun v hv => ?_, fun v hv => ?_⟩)
    · go_simp
      exact mUpon_b
    subst hv
    go_simp
    refine hK _ ?_
    clear hK K
    refine lexX_step (fun K hK => ⟨by kernel_rfl, ⟨_, rfl⟩, fun v hv => ?_, fun v hv => ?_⟩)
    · have y9 := (unhideR HY v hv).1
      go_simp
      exact mUpon_b
    subst hv
    go_simp
    refine hK _ ?_
    clear hK K
    refine lexX_step (fun K hK => ⟨by kernel_rfl, ⟨_, rfl⟩, fun v hv => ?_, fun v hv => ?_⟩)
    · go_simp
      exact mUpon_b
    subst hv
    go_simp
    refine hK _ ?_
    clear hK K
    refine lexX_step (fun K hK => ⟨by kernel_rfl, ⟨_, rfl⟩, fun v hv => ?_, fun v hv => ?_⟩)
    · go_simp
      exact mUpon_b
    subst hv
    go_simp
    refine hK _ ?_
    clear hK K
    refine lexX_step (fun K hK => ⟨by kernel_rfl, ⟨_, rfl⟩, fun v hv => ?_, fun v hv => ?_⟩)
    · go_simp
      exact mUpon_b
    subst hv
    go_simp
    refine hK _ ?_
    clear hK K
    refine lexX_step (fun K hK => ⟨by kernel_rfl, ⟨_, rfl⟩, fun v hv => ?_, fun v hv => ?_⟩)
    · go_simp
      exact mUpon_b
    subst hv
    go_simp
    refine hK _ ?_
    clear hK K
    refine lexX_step (fun K hK => ⟨by kernel_rfl, ⟨_, rfl⟩, fun v hv => ?_, fun v hv => ?_⟩)
    · have y9 := (unhideR HY v hv).2
      go_simp
      exact mUpon_b
    subst hv
    go_simp
    refine hK _ ?_
    clear hK K
    refine lexX_step (fun K hK => ⟨by kernel_rfl, ⟨_, rfl⟩, fun v hv => ?_, fun v hv => ?_⟩)
    · go_simp
      exact mUpon_b
    subst hv
    go_simp
    refine hK _ ?_
    clear hK K
    refine lexX_made ⟨by kernel_rfl, ⟨_, 0, rfl⟩, oneU_stb _, fun v hv => ?_, ?_⟩
    · go_simp
      exact ⟨below_a v _, ⟨_, rfl⟩, fun q' hq' => by cases hq'; exact alloc_last v _⟩
    rintro _ ⟨u9, rfl⟩ K9 hK
    go_simp
    refine hK _ ?_
    clear hK K9
    refine lexX_end (fun v5 hv => ?_)
    have z9 := hv.fact.2 _ rfl
    have hO5 := own_below2 (unhideR HO) hv.low
    have HO5 := hideR hO5
    have HB5 := hideR ((unhideR HBl).trans (hv.low.mono (unhideR HBl).size))
    clear hv HY
    refine wpAny_step (i := 13) (by kernel_rfl) rfl (by kernel_rfl) (fun K hK => ?_)
    refine wp_append_at _ _ 25 rfl u2.heap.size 37 i0 (.agg #[.string ByteArray.empty, .int .i64 0]) 2 24 Tryd.underlying25 hi0 hz0 hz1 hz2 rfl (by decide) _ i (flatSl (P.take i)) rfl hO5 ⟨u9, 0, none⟩ 1 1 (valSl s) rfl rfl ?q1 ?q2 ?q3 ?q4 ?q5 ?_
    case q1 =>
      intro j u hu
      rw [add_pl2, Nat.zero_add]
      rcases j with _ | _ | j
      · rw [← hu]; exact (cells_at z9 0 (by simp)).1
      · rw [← hu]; exact (cells_at z9 1 (by simp)).1
      · simp [valSl] at hu
    case q2 => exact valSl_one _
    case q3 => unfold maxLen; omega
    case q4 => omega
    case q5 => exact (unhideR HB5).size
    intro v6 w6 hown hgrow hloc
    have HB9 := hideR ((unhideR HB5).grown hgrow (unhideR HB5).size (fun k e => ((unhideR HO5).lt k e).1))
    have HO9 : HeldR (w6.ownsRow u2.heap.size 37 2 v6 (P.take (i + 1)).length (flatSl (P.take (i + 1)))) := hideR (by
      rw [unhideR HT2, List.length_append, unhideR Hti, flatSl_append]
      have e1 : flatSl [s] = valSl s := List.append_nil _
      rw [e1]
      exact hown)
    clear hown hgrow hloc hO5 HO5 HB5 z9 HO HT2 HBl
    go_simp
    refine hK _ _ ?_
    clear hK K
    refine wpAny_step (i := 14) (by kernel_rfl) rfl (by kernel_rfl) (fun K hK => ?_)
    unfold Oper.wp
    go_simp
    refine hK _ _ ?_
    clear hK K
    refine wpAny_end (by kernel_rfl) ?_
    go_wp2
    exact ⟨⟨i + 1, by omega, by go_num, HO9, HB9⟩, by simp [intOf]; omega⟩
end Go.Proofs.YtoacdaemhcbbhaaDoor
