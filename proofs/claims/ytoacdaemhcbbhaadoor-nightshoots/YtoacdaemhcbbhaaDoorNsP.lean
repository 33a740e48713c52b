/-
  NightShoots, walked: the program and the document by their contracts.
-/
import Derived.Test.YtoacdaemhcbbhaaDoorNsO
namespace Go.Proofs.YtoacdaemhcbbhaaDoor
open Go Go.RowKit

set_option maxRecDepth 100000 in
set_option maxHeartbeats 1600000 in
theorem pnew_any (w : World) : Calls Tryd.prog 18 #[] w fun e w' => e = .returned (.pointer (some ⟨w.heap.size, 0, none⟩)) ∧ w' = w.alloc (.cells #[.slice none 0 0] 96) := by
  go_enter Tryd.func18, Tryd.ntmps18
  go_wp2
  go_ret
  exact ⟨rfl, rfl⟩
theorem Ls.start {w u : World} {hb : Nat} (hz : u.heap[hb]? = some (.cells #[.slice none 0 0] 96)) (k : Below w.heap.size w u) (h : w.heap.size ≤ hb) : Ls w hb [] (.slice none 0 0) (.slice none 0 0) u :=
  ⟨World.ownsRow_nil _ _ _ _, World.ownsRow_nil _ _ _ _, ⟨[], ⟨⟨_, hz, World.ownsRow_nil _ _ _ _⟩, List.Pairwise.nil, fun f hf => (nomatch hf), h⟩, List.Perm.refl _⟩, fun x hx => (nomatch hx), by decide, k⟩
def SwPost (w : World) (e : Ending) (w' : World) : Prop := e = .returned (.bool true) ∧ Below w.heap.size w w'
set_option maxRecDepth 1000000 in
set_option maxHeartbeats 25600000 in
theorem shoots_walk {a : Nat → Addr} {w : World} {ad : Option Addr} {cap : Nat} {M : List TT} {x0 : Int} (hS : Sents w a) (hM : TtCame w ad M) (hk : ∀ x ∈ M, x.2.Ok w x.1) (hn : M.length ≤ 9223372036854775807) :
    Calls Tryd.prog 5 #[.slice ad M.length cap, .int .i64 x0] w (SwPost w) := by
  have HS : HeldR (∀ u, Below w.heap.size w u → Sents u a) := hideR (fun u k => hS.below k (Nat.le_refl _))
  have HM : HeldR (∀ u, Below w.heap.size w u → TtCame u ad M) := hideR (fun u k => hM.below k)
  have HP : HeldR (∀ w', Below w.heap.size w w' → SwPost w (.returned (.bool true)) w') := hideR (fun w' h => ⟨rfl, h⟩)
  have HK : HeldR (∀ i, i < M.length → (M.getD i tt0).2.Ok w (M.getD i tt0).1) := hideR (fun i hi => hk _ (tt_mem hi))
  generalize SwPost w = POST at *
  clear hS hM hk
  have h1 := pfixed_any w 1 1
  have h2 := fun u => kindFi_any u 1
  have h3 := fun u => pnew_any u
  unfold bPtr at h2
  obtain ⟨n, hn0⟩ : ∃ n, M.length = n := ⟨_, rfl⟩
  have Hn := hideR hn0
  rw [hn0] at hn HK ⊢
  clear hn0
  go_enter Tryd.func5, Tryd.ntmps5
  go_wp2_with fail
  refine h1.mono ?_
  rintro e u1 ⟨rfl, rfl⟩
  clear h1
  go_wp2_with fail
  refine (h2 _).mono ?_
  rintro e u2 ⟨rfl, k2⟩
  clear h2
  go_wp2_with fail
  refine (h3 _).mono ?_
  rintro e u3 ⟨rfl, rfl⟩
  clear h3
  have hz := alloc_last u2 (.cells #[.slice none 0 0] 96)
  have k3 := below_go k2 (below_a u2 (.cells #[.slice none 0 0] 96))
  have hge : u1.heap.size ≤ u2.heap.size := k2.size
  have HL0 := hideR (Ls.start hz k3 hge)
  have HB3 := hideR k3
  clear hz k2 k3
  generalize u2.alloc (.cells #[.slice none 0 0] 96) = W at *
  generalize u2.heap.size = hb at *
  by_cases q20 : 20 < n
  case pos =>
    have t20 : decide ((20 : Int) < (n : Int)) = true := decide_eq_true (by omega)
    have t20n : decide (20 < n) = true := decide_eq_true q20
    have HQ := hideR (unhideR HP W (unhideR HB3))
    clear HP HS HM HK HL0 HB3
    go_wp2
    exact unhideR HQ
  have t20 : decide ((20 : Int) < (n : Int)) = false := decide_eq_false (by omega)
  have t20n : decide (20 < n) = false := decide_eq_false q20
  have hn20 : n ≤ 20 := by omega
  clear q20 HB3
  obtain ⟨i0, hi0, hz0, hz1, hz2⟩ := info_parts infoTT
  obtain ⟨j0, hj0, hy0, hy1, hy2⟩ := info_parts infoStr
  go_wp2_with fail
  go_loopw [7, 8, 9] (fun nv fv iv wl => ∃ (i : Nat) (F : List TT), i ≤ n ∧ iv = .int .i64 (i : Nat) ∧ HeldR (Ls u1 hb F nv fv wl)) (fun _ _ iv _ => n + 1 - (intOf iv).toNat)
  case atStart => exact ⟨0, [], by omega, rfl, HL0⟩
  case round =>
    clear HL0
    obtain ⟨i, F, hi, rfl, HL⟩ := hrel
    by_cases q : i < n
    case neg =>
      obtain rfl : i = n := by omega
      have ti : decide ((i : Int) < (i : Int)) = false := decide_eq_false (by omega)
      have tin : decide (i < i) = false := decide_eq_false (by omega)
      as_aux_lemma =>
        clear HM HK
        obtain ⟨nv', nc', rfl⟩ := ownsRow_slice (unhideR HL).nr
        obtain ⟨fv', fc', rfl⟩ := ownsRow_slice (unhideR HL).fr
        have HA0 : HeldR ((F.take 0).any (fun z => wayV z.1 x0) = false) := hideR rfl
        have HAs : HeldR (∀ k, k < F.length → (F.take (k + 1)).any (fun z => wayV z.1 x0) = ((F.take k).any (fun z => wayV z.1 x0) || wayV (F.getD k tt0).1 x0)) := hideR (fun k hk => anyT_next hk _)
        have HAe : HeldR ((F.take F.length).any (fun z => wayV z.1 x0) = F.any (fun z => wayV z.1 x0)) := hideR (by rw [List.take_length])
        have HSh0 : HeldR (∀ u : World, u.ownsRow u1.heap.size 57 7 (.slice none 0 0) (shL (F.take 0)).length (flatTT (shL (F.take 0)))) := hideR (fun u => World.ownsRow_nil _ _ _ _)
        have HShs : HeldR (∀ k, k < F.length → shL (F.take (k + 1)) = if (F.getD k tt0).1.kd = 1 then insT (shL (F.take k)) (F.getD k tt0) else shL (F.take k)) := hideR (fun k hk => shL_next hk)
        have HShl : HeldR (∀ k, (shL (F.take k)).length ≤ 12) := hideR (fun k => by
          refine Nat.le_trans (shL_len _) ?_
          rw [List.length_take]
          have := (unhideR HL).n
          omega)
        have HShe : HeldR (shL (F.take F.length) = shL F) := hideR (by rw [List.take_length])
        have HFo : HeldR (∀ k, k < F.length → TtOk u1 (F.getD k tt0) ∧ 1 ≤ (F.getD k tt0).1.kd ∧ (F.getD k tt0).1.kd ≤ 4) := hideR (fun k hk => (unhideR HL).ok _ (tt_mem hk))
        have HFc : HeldR (∀ u, Below wr.heap.size wr u → ∀ k, k < F.length → ∃ g, fv' = some ⟨g, 0, none⟩ ∧ TtC u g (k * 7) (F.getD k tt0)) := hideR (fun u hu k hk => by
          rcases tt_own ((unhideR HL).below hu).fr with ⟨_, e⟩ | ⟨g, c, e, _, _, h⟩
          · rw [e] at hk; exact absurd hk (Nat.not_lt_zero k)
          · cases e
            obtain ⟨b', o', e', _, h'⟩ := h.at_ k hk
            cases e'
            rw [Nat.zero_add] at h'
            exact ⟨g, rfl, h'⟩)
        have h12 := (unhideR HL).n
        have HBu := hideR (unhideR HL).bl
        obtain ⟨w0, hw0⟩ : ∃ w0, w0 = wr := ⟨_, rfl⟩
        subst hw0
        generalize hAK : (fun k => (F.take k).any (fun z => wayV z.1 x0)) = AK at *
        have HAK : HeldR (∀ k, (F.take k).any (fun z => wayV z.1 x0) = AK k) := hideR (fun k => by rw [← hAK])
        replace HA0 := hideR ((unhideR HAK 0).symm.trans (unhideR HA0))
        replace HAs : HeldR (∀ k, k < F.length → AK (k + 1) = (AK k || wayV (F.getD k tt0).1 x0)) := hideR (fun k hk => by rw [← unhideR HAK, ← unhideR HAK]; exact unhideR HAs k hk)
        replace HAe := hideR ((unhideR HAK _).symm.trans (unhideR HAe))
        clear hAK HAK
        obtain ⟨m, hm⟩ : ∃ m, F.length = m := ⟨_, rfl⟩
        have Hm := hideR hm
        rw [hm] at HAs HAe HShs HShe HFo HFc h12 ⊢
        clear hm
        go_wp2_with fail
        go_loopw [15, 16, 17] (fun bv sv kv wl => ∃ k : Nat, k ≤ m ∧ bv = .bool (AK k) ∧ kv = .int .i64 (k : Nat) ∧ HeldR (wl.ownsRow u1.heap.size 57 7 sv (shL (F.take k)).length (flatTT (shL (F.take k)))) ∧ HeldR (Below w0.heap.size w0 wl)) (fun _ _ kv _ => m + 1 - (intOf kv).toNat)
        case atStart => exact ⟨0, by omega, by rw [unhideR HA0], rfl, hideR (unhideR HSh0 _), hideR (Below.refl _ _)⟩
        case round =>
          clear HA0 HSh0
          obtain ⟨k, hkm, rfl, rfl, HSv, HBr⟩ := hrel
          by_cases qk : k < m
          case neg =>
            obtain rfl : k = m := by omega
            have tk : decide ((k : Int) < (k : Int)) = false := decide_eq_false (by omega)
            have tkn : decide (k < k) = false := decide_eq_false (by omega)
            as_aux_lemma =>
              have HLr := hideR ((unhideR HL).below (unhideR HBr))
              obtain ⟨X, hsX, hrX⟩ := (unhideR HLr).hs
              have hsh := pshoot_any (unhideR HS wr (unhideR HLr).bl) hsX (fg_ok hrX (unhideR HLr).n (unhideR HLr).ok) x0
              unfold ShPost at hsh
              rw [any_is hrX x0, ← unhideR HAe] at hsh
              rw [unhideR HShe] at HSv
              have hcm := cams_are hsX.ord hrX
              have HCa : HeldR (∀ j, j < (shL F).length → (camL X).getD j tl0 = ((shL F).getD j tt0).1) := hideR (fun j hj => cam_at hcm hj)
              have HCl : HeldR ((camL X).length = (shL F).length) := hideR (by rw [← hcm, List.length_map])
              have HSo : HeldR (∀ j, j < (shL F).length → TtOk u1 ((shL F).getD j tt0)) := hideR (fun j hj => ((unhideR HLr).ok _ (shL_mem (tt_mem hj))).1)
              have HBw := hideR (unhideR HLr).bl
              have hq12 : (shL F).length ≤ 12 := Nat.le_trans (shL_len F) (unhideR HLr).n
              obtain ⟨sa, sc, rfl⟩ := ownsRow_slice (unhideR HSv)
              have HSc : HeldR (∀ u, Below wr.heap.size wr u → ∀ j, j < (shL F).length → ∃ g, sa = some ⟨g, 0, none⟩ ∧ TtC u g (j * 7) ((shL F).getD j tt0)) := hideR (fun u hu j hj => by
                rcases tt_own (own_below2 (unhideR HSv) hu) with ⟨_, e⟩ | ⟨g, c, e, _, _, h⟩
                · rw [e] at hj; exact absurd hj (Nat.not_lt_zero j)
                · cases e
                  obtain ⟨b', o', e', _, h'⟩ := h.at_ j hj
                  cases e'
                  rw [Nat.zero_add] at h'
                  exact ⟨g, rfl, h'⟩)
              clear hcm hsX hrX HLr HL HSv HBr HFc HAs HShs HShl HFo HAe HShe
              generalize AK k = SB at *
              generalize shL F = SL at *
              generalize camL X = CX at *
              obtain ⟨qn, hqn⟩ : ∃ qn, SL.length = qn := ⟨_, rfl⟩
              rw [hqn] at HCa HCl HSo hq12 HSc ⊢
              clear hqn
              go_wp2_with fail
              refine hsh.mono ?_
              rintro e u10 ⟨he, k10⟩
              have HB10 := hideR (below_go (unhideR HBw) k10)
              have HK10 := hideR k10
              clear hsh k10
              rcases he with ⟨hsb, E, rfl, hE⟩ | ⟨hsb, v, Y, rfl, hpc⟩
              · subst hsb
                as_aux_lemma =>
                  have hco := coded_err (unhideR HS u10 (unhideR HB10)) hE
                  clear HCa HCl HSo HSc hE HBw HK10
                  go_wp2_with fail
                  refine hco.mono ?_
                  rintro e u11 ⟨rfl, k11⟩
                  have HQ := hideR (unhideR HP u11 (below_go (unhideR HB10) k11))
                  clear hco k11 HP HS HB10
                  go_wp2
                  exact unhideR HQ
              subst hsb
              as_aux_lemma =>
                obtain ⟨pad, pcap, rfl, hpm⟩ := hpc.came
                have HPm : HeldR (∀ u, Below u10.heap.size u10 u → ∀ j, j < qn → ∃ b ca cc, pad = some ⟨b, 0, none⟩ ∧ u.cell? ⟨b, j * 3, none⟩ = some (.int .i64 (SL.getD j tt0).1.wd) ∧ u.cell? ⟨b, j * 3 + 1, none⟩ = some (.int .i64 (SL.getD j tt0).1.hi) ∧ u.cell? ⟨b, j * 3 + 2, none⟩ = some (.slice ca (SL.getD j tt0).1.cs.length cc) ∧ ICame u ca (SL.getD j tt0).1.cs) := hideR (fun u hu j hj => by
                  obtain ⟨b, ca, cc, e, hb, h1, h2, h3, h4⟩ := hpm.at_ j (by rw [unhideR HCl]; exact hj)
                  rw [unhideR HCa j hj] at h1 h2 h3 h4
                  exact ⟨b, ca, cc, e, (hu.cell (p := ⟨b, j * 3, none⟩) hb).trans h1, (hu.cell (p := ⟨b, j * 3 + 1, none⟩) hb).trans h2, (hu.cell (p := ⟨b, j * 3 + 2, none⟩) hb).trans h3, h4.below hu⟩)
                rw [unhideR HCl]
                have tq : ((qn : Int) != (qn : Int)) = false := by simp
                clear hpc hpm HCa HCl HS
                go_wp2_with fail
                go_loopw [22] (fun jv wl => ∃ j : Nat, j ≤ qn ∧ jv = .int .i64 (j : Nat) ∧ HeldR (Below u10.heap.size u10 wl)) (fun jv _ => qn + 1 - (intOf jv).toNat)
                case atStart => exact ⟨0, by omega, rfl, hideR (Below.refl _ _)⟩
                case round =>
                  obtain ⟨j, hjq, rfl, HBj⟩ := hrel
                  by_cases qj : j < qn
                  case neg =>
                    obtain rfl : j = qn := by omega
                    have tj : decide ((j : Int) < (j : Int)) = false := decide_eq_false (by omega)
                    have tjn : decide (j < j) = false := decide_eq_false (by omega)
                    have HQ := hideR (unhideR HP _ (below_go (unhideR HB10) (unhideR HBj)))
                    clear HP HBj HB10 HPm HSc HSo HBw HK10 HBu
                    go_wp2
                    exact unhideR HQ
                  as_aux_lemma =>
                    have tj : decide ((j : Int) < (qn : Int)) = true := decide_eq_true (by omega)
                    have tjn : decide (j < qn) = true := decide_eq_true qj
                    have wj : IntKind.i64.wrap ((j : Int) + 1) = (j : Int) + 1 := iwrap (by omega) (by omega)
                    have hji : (j : Int) < (qn : Int) := by omega
                    obtain ⟨pb, ca, cc, ep, _, _, hp3, _⟩ := unhideR HPm _ (unhideR HBj) j qj
                    subst ep
                    obtain ⟨sg, es, _⟩ := unhideR HSc _ (below_go (unhideR HK10) (unhideR HBj)) j qj
                    subst es
                    have HY : HeldR (∀ u, Below wr.heap.size wr u → (u.cell? ⟨pb, j * 3, none⟩ = some (.int .i64 (SL.getD j tt0).1.wd) ∧ u.cell? ⟨pb, j * 3 + 1, none⟩ = some (.int .i64 (SL.getD j tt0).1.hi) ∧ u.cell? ⟨pb, j * 3 + 2, none⟩ = some (.slice ca (SL.getD j tt0).1.cs.length cc) ∧ ICame u ca (SL.getD j tt0).1.cs) ∧ TtC u sg (j * 7) (SL.getD j tt0) ∧ Below u10.heap.size u10 u) := hideR (fun u hu => by
                      have hb := below_go (unhideR HBj) hu
                      obtain ⟨b', ca', cc', e', h1, h2, h3, h4⟩ := unhideR HPm u hb j qj
                      cases e'
                      have e3 := (hu.cell (p := ⟨pb, j * 3 + 2, none⟩) (lt_cell hp3)).trans hp3
                      rw [e3] at h3
                      injection h3 with h3
                      injection h3 with h3 _ h5
                      subst h3
                      obtain ⟨g', e'', h7⟩ := unhideR HSc u (below_go (unhideR HK10) hb) j qj
                      cases e''
                      exact ⟨⟨h1, h2, e3, h4⟩, h7, hb⟩)
                    have hto := unhideR HSo j qj
                    generalize SL.getD j tt0 = y at *
                    have HSm : HeldR (∀ u, Below wr.heap.size wr u → Calls Tryd.prog 24 #[.slice ca y.1.cs.length cc, .slice y.2.ca y.1.cs.length y.2.cc] u fun e w' => e = .returned (.bool true) ∧ Below u.heap.size u w') := hideR (fun u hu => by
                      obtain ⟨⟨_, _, _, h4⟩, _, h6⟩ := unhideR HY u hu
                      exact sameInts_any h4 (hto.o.ci.below (below_go (unhideR HB10) h6)) (by have := hto.c; omega))
                    clear hp3 hto HBj HPm HSc HSo HBw HK10 HBu
                    go_upto_region 52 with fail
                    refine wp_region_made 0 #[true, true, true, true, true, true, true, true, true, true, true, true, false] [.lets (· = .slice (some ⟨pb, 0, none⟩) qn pcap),
                      .lets (· = .int .i64 (j : Nat)),
                      .lets (· = .pointer (some ⟨pb, j * 3, none⟩)),
                      .lets (· = .pointer (some ⟨pb, j * 3 + 2, none⟩)),
                      .lets (· = .slice ca y.1.cs.length cc),
                      .lets (· = .slice (some ⟨sg, 0, none⟩) qn sc),
                      .lets (· = .int .i64 (j : Nat)),
                      .lets (· = .pointer (some ⟨sg, j * 7, none⟩)),
                      .lets (· = .pointer (some ⟨sg, j * 7 + 2, none⟩)),
                      .lets (· = .pointer (some ⟨sg, j * 7 + 4, none⟩)),
                      .lets (· = .slice y.2.ca y.1.cs.length y.2.cc),
                      .lets (· = .bool true)] [] [] (by kernel_rfl) (by kernel_rfl) rfl ?kinds (by kernel_rfl) (by kernel_rfl) (by kernel_rfl) ?_
                    case kinds =>
                      constructor
                      · intro i h
                        rcases i with _ | _ | _ | _ | _ | _ | _ | _ | _ | _ | _ | _ | i <;> simp [Kx.isMade] at h
                      · intro i h
                        rcases i with _ | _ | _ | _ | _ | _ | _ | _ | _ | _ | _ | _ | i <;> simp [Kx.isUse] at h
                    refine lexX_step (fun K hK => ⟨by kernel_rfl, ⟨_, rfl⟩, fun v hv => ?_, fun v hv => ?_⟩)
                    · go_simp
                      exact mUpon_b
                    subst hv
                    go_simp
                    refine hK _ ?_
                    clear hK K
                    refine lexX_step (fun K hK => ⟨by kernel_rfl, ⟨_, rfl⟩, fun v hv => ?_, fun v hv => ?_⟩)
                    · go_simp
                      exact mUpon_b
                    subst hv
                    go_simp
                    refine hK _ ?_
                    clear hK K
                    refine lexX_step (fun K hK => ⟨by kernel_rfl, ⟨_, rfl⟩, fun v hv => ?_, fun v hv => ?_⟩)
                    · go_simp
                      exact mUpon_b
                    subst hv
                    go_simp
                    refine hK _ ?_
                    clear hK K
                    refine lexX_step (fun K hK => ⟨by kernel_rfl, ⟨_, rfl⟩, fun v hv => ?_, fun v hv => ?_⟩)
                    · go_simp
                      exact mUpon_b
                    subst hv
                    go_simp
                    refine hK _ ?_
                    clear hK K
                    refine lexX_step (fun K hK => ⟨by kernel_rfl, ⟨_, rfl⟩, fun v hv => ?_, fun v hv => ?_⟩)
                    · have y9 := (unhideR HY v hv).1.2.2.1
                      go_simp
                      exact mUpon_b
                    subst hv
                    go_simp
                    refine hK _ ?_
                    clear hK K
                    refine lexX_step (fun K hK => ⟨by kernel_rfl, ⟨_, rfl⟩, fun v hv => ?_, fun v hv => ?_⟩)
                    · go_simp
                      exact mUpon_b
                    subst hv
                    go_simp
                    refine hK _ ?_
                    clear hK K
                    refine lexX_step (fun K hK => ⟨by kernel_rfl, ⟨_, rfl⟩, fun v hv => ?_, fun v hv => ?_⟩)
                    · go_simp
                      exact mUpon_b
                    subst hv
                    go_simp
                    refine hK _ ?_
                    clear hK K
                    refine lexX_step (fun K hK => ⟨by kernel_rfl, ⟨_, rfl⟩, fun v hv => ?_, fun v hv => ?_⟩)
                    · go_simp
                      exact mUpon_b
                    subst hv
                    go_simp
                    refine hK _ ?_
                    clear hK K
                    refine lexX_step (fun K hK => ⟨by kernel_rfl, ⟨_, rfl⟩, fun v hv => ?_, fun v hv => ?_⟩)
                    · go_simp
                      exact mUpon_b
                    subst hv
                    go_simp
                    refine hK _ ?_
                    clear hK K
                    refine lexX_step (fun K hK => ⟨by kernel_rfl, ⟨_, rfl⟩, fun v hv => ?_, fun v hv => ?_⟩)
                    · go_simp
                      exact mUpon_b
                    subst hv
                    go_simp
                    refine hK _ ?_
                    clear hK K
                    refine lexX_step (fun K hK => ⟨by kernel_rfl, ⟨_, rfl⟩, fun v hv => ?_, fun v hv => ?_⟩)
                    · have y9 := (unhideR HY v hv).2.1.c4
                      go_simp
                      exact mUpon_b
                    subst hv
                    go_simp
                    refine hK _ ?_
                    clear hK K
                    refine lexX_step (fun K hK => ⟨by kernel_rfl, ⟨_, rfl⟩, fun v hv => ?_, fun v hv => ?_⟩)
                    · go_simp
                      refine (unhideR HSm v hv).mono ?_
                      rintro e w9 ⟨rfl, k⟩
                      exact ⟨_, rfl, rfl, k⟩
                    subst hv
                    go_simp
                    refine hK _ ?_
                    clear hK K
                    refine lexX_end (fun v5 hv => ?_)
                    have HY5 : HeldR (∀ u, Below v5.heap.size v5 u → u.cell? ⟨pb, j * 3, none⟩ = some (.int .i64 y.1.wd) ∧ u.cell? ⟨pb, j * 3 + 1, none⟩ = some (.int .i64 y.1.hi) ∧ TtC u sg (j * 7) y ∧ Below u10.heap.size u10 u) := hideR (fun u hu => by
                      obtain ⟨⟨h1, h2, _, _⟩, h5, h6⟩ := unhideR HY u (below_go hv.low hu)
                      exact ⟨h1, h2, h5, h6⟩)
                    clear hv HY HSm
                    refine wpAny_step (i := 12) (by kernel_rfl) rfl (by kernel_rfl) (fun K hK => ?_)
                    unfold Oper.wp
                    go_simp
                    refine hK _ _ ?_
                    clear hK K
                    refine wpAny_end (by kernel_rfl) ?_
                    have nw : (y.1.wd != y.1.wd) = false := by simp
                    have nh : (y.1.hi != y.1.hi) = false := by simp
                    go_upto_region 53 with fail
                    refine wp_region_made 0 #[true, true, true, true, true, true, true, true, true, true, true, true, true, true, true, true, true, true, true, true, true, true, true, true, true, true, true, true, true, false] [.lets (· = .bool true),
                      .lets (· = .bool false),
                      .lets (· = .bool false),
                      .lets (· = .slice (some ⟨pb, 0, none⟩) qn pcap),
                      .lets (· = .int .i64 (j : Nat)),
                      .lets (· = .pointer (some ⟨pb, j * 3, none⟩)),
                      .lets (· = .pointer (some ⟨pb, j * 3, none⟩)),
                      .lets (· = .int .i64 y.1.wd),
                      .lets (· = .slice (some ⟨sg, 0, none⟩) qn sc),
                      .lets (· = .int .i64 (j : Nat)),
                      .lets (· = .pointer (some ⟨sg, j * 7, none⟩)),
                      .lets (· = .pointer (some ⟨sg, j * 7 + 2, none⟩)),
                      .lets (· = .pointer (some ⟨sg, j * 7 + 2, none⟩)),
                      .lets (· = .int .i64 y.1.wd),
                      .lets (· = .bool false),
                      .lets (· = .bool false),
                      .lets (· = .bool false),
                      .lets (· = .slice (some ⟨pb, 0, none⟩) qn pcap),
                      .lets (· = .int .i64 (j : Nat)),
                      .lets (· = .pointer (some ⟨pb, j * 3, none⟩)),
                      .lets (· = .pointer (some ⟨pb, j * 3 + 1, none⟩)),
                      .lets (· = .int .i64 y.1.hi),
                      .lets (· = .slice (some ⟨sg, 0, none⟩) qn sc),
                      .lets (· = .int .i64 (j : Nat)),
                      .lets (· = .pointer (some ⟨sg, j * 7, none⟩)),
                      .lets (· = .pointer (some ⟨sg, j * 7 + 2, none⟩)),
                      .lets (· = .pointer (some ⟨sg, j * 7 + 3, none⟩)),
                      .lets (· = .int .i64 y.1.hi),
                      .lets (· = .bool false)] [] [] (by kernel_rfl) (by kernel_rfl) rfl ?kinds (by kernel_rfl) (by kernel_rfl) (by kernel_rfl) ?_
                    case kinds =>
                      constructor
                      · intro i h
                        rcases i with _ | _ | _ | _ | _ | _ | _ | _ | _ | _ | _ | _ | _ | _ | _ | _ | _ | _ | _ | _ | _ | _ | _ | _ | _ | _ | _ | _ | _ | i <;> simp [Kx.isMade] at h
                      · intro i h
                        rcases i with _ | _ | _ | _ | _ | _ | _ | _ | _ | _ | _ | _ | _ | _ | _ | _ | _ | _ | _ | _ | _ | _ | _ | _ | _ | _ | _ | _ | _ | i <;> simp [Kx.isUse] at h
                    refine lexX_step (fun K hK => ⟨by kernel_rfl, ⟨_, rfl⟩, fun v hv => ?_, fun v hv => ?_⟩)
                    · go_simp
                      exact mUpon_b
                    subst hv
                    go_simp
                    refine hK _ ?_
                    clear hK K
                    refine lexX_step (fun K hK => ⟨by kernel_rfl, ⟨_, rfl⟩, fun v hv => ?_, fun v hv => ?_⟩)
                    · go_simp
                      exact mUpon_b
                    subst hv
                    go_simp
                    refine hK _ ?_
                    clear hK K
                    refine lexX_step (fun K hK => ⟨by kernel_rfl, ⟨_, rfl⟩, fun v hv => ?_, fun v hv => ?_⟩)
                    · go_simp
                      exact mUpon_b
                    subst hv
                    go_simp
                    refine hK _ ?_
                    clear hK K
                    refine lexX_step (fun K hK => ⟨by kernel_rfl, ⟨_, rfl⟩, fun v hv => ?_, fun v hv => ?_⟩)
                    · go_simp
                      exact mUpon_b
                    subst hv
                    go_simp
                    refine hK _ ?_
                    clear hK K
                    refine lexX_step (fun K hK => ⟨by kernel_rfl, ⟨_, rfl⟩, fun v hv => ?_, fun v hv => ?_⟩)
                    · go_simp
                      exact mUpon_b
                    subst hv
                    go_simp
                    refine hK _ ?_
                    clear hK K
                    refine lexX_step (fun K hK => ⟨by kernel_rfl, ⟨_, rfl⟩, fun v hv => ?_, fun v hv => ?_⟩)
                    · go_simp
                      exact mUpon_b
                    subst hv
                    go_simp
                    refine hK _ ?_
                    clear hK K
                    refine lexX_step (fun K hK => ⟨by kernel_rfl, ⟨_, rfl⟩, fun v hv => ?_, fun v hv => ?_⟩)
                    · go_simp
                      exact mUpon_b
                    subst hv
                    go_simp
                    refine hK _ ?_
                    clear hK K
                    refine lexX_step (fun K hK => ⟨by kernel_rfl, ⟨_, rfl⟩, fun v hv => ?_, fun v hv => ?_⟩)
                    · have y9 := (unhideR HY5 v hv).1
                      go_simp
                      exact mUpon_b
                    subst hv
                    go_simp
                    refine hK _ ?_
                    clear hK K
                    refine lexX_step (fun K hK => ⟨by kernel_rfl, ⟨_, rfl⟩, fun v hv => ?_, fun v hv => ?_⟩)
                    · go_simp
                      exact mUpon_b
                    subst hv
                    go_simp
                    refine hK _ ?_
                    clear hK K
                    refine lexX_step (fun K hK => ⟨by kernel_rfl, ⟨_, rfl⟩, fun v hv => ?_, fun v hv => ?_⟩)
                    · go_simp
                      exact mUpon_b
                    subst hv
                    go_simp
                    refine hK _ ?_
                    clear hK K
                    refine lexX_step (fun K hK => ⟨by kernel_rfl, ⟨_, rfl⟩, fun v hv => ?_, fun v hv => ?_⟩)
                    · go_simp
                      exact mUpon_b
                    subst hv
                    go_simp
                    refine hK _ ?_
                    clear hK K
                    refine lexX_step (fun K hK => ⟨by kernel_rfl, ⟨_, rfl⟩, fun v hv => ?_, fun v hv => ?_⟩)
                    · go_simp
                      exact mUpon_b
                    subst hv
                    go_simp
                    refine hK _ ?_
                    clear hK K
                    refine lexX_step (fun K hK => ⟨by kernel_rfl, ⟨_, rfl⟩, fun v hv => ?_, fun v hv => ?_⟩)
                    · go_simp
                      exact mUpon_b
                    subst hv
                    go_simp
                    refine hK _ ?_
                    clear hK K
                    refine lexX_step (fun K hK => ⟨by kernel_rfl, ⟨_, rfl⟩, fun v hv => ?_, fun v hv => ?_⟩)
                    · have y9 := (unhideR HY5 v hv).2.2.1.c2
                      go_simp
                      exact mUpon_b
                    subst hv
                    go_simp
                    refine hK _ ?_
                    clear hK K
                    refine lexX_step (fun K hK => ⟨by kernel_rfl, ⟨_, rfl⟩, fun v hv => ?_, fun v hv => ?_⟩)
                    · go_simp
                      exact mUpon_b
                    subst hv
                    go_simp
                    refine hK _ ?_
                    clear hK K
                    refine lexX_step (fun K hK => ⟨by kernel_rfl, ⟨_, rfl⟩, fun v hv => ?_, fun v hv => ?_⟩)
                    · go_simp
                      exact mUpon_b
                    subst hv
                    go_simp
                    refine hK _ ?_
                    clear hK K
                    refine lexX_step (fun K hK => ⟨by kernel_rfl, ⟨_, rfl⟩, fun v hv => ?_, fun v hv => ?_⟩)
                    · go_simp
                      exact mUpon_b
                    subst hv
                    go_simp
                    refine hK _ ?_
                    clear hK K
                    refine lexX_step (fun K hK => ⟨by kernel_rfl, ⟨_, rfl⟩, fun v hv => ?_, fun v hv => ?_⟩)
                    · go_simp
                      exact mUpon_b
                    subst hv
                    go_simp
                    refine hK _ ?_
                    clear hK K
                    refine lexX_step (fun K hK => ⟨by kernel_rfl, ⟨_, rfl⟩, fun v hv => ?_, fun v hv => ?_⟩)
                    · go_simp
                      exact mUpon_b
                    subst hv
                    go_simp
                    refine hK _ ?_
                    clear hK K
                    refine lexX_step (fun K hK => ⟨by kernel_rfl, ⟨_, rfl⟩, fun v hv => ?_, fun v hv => ?_⟩)
                    · go_simp
                      exact mUpon_b
                    subst hv
                    go_simp
                    refine hK _ ?_
                    clear hK K
                    refine lexX_step (fun K hK => ⟨by kernel_rfl, ⟨_, rfl⟩, fun v hv => ?_, fun v hv => ?_⟩)
                    · go_simp
                      exact mUpon_b
                    subst hv
                    go_simp
                    refine hK _ ?_
                    clear hK K
                    refine lexX_step (fun K hK => ⟨by kernel_rfl, ⟨_, rfl⟩, fun v hv => ?_, fun v hv => ?_⟩)
                    · have y9 := (unhideR HY5 v hv).2.1
                      go_simp
                      exact mUpon_b
                    subst hv
                    go_simp
                    refine hK _ ?_
                    clear hK K
                    refine lexX_step (fun K hK => ⟨by kernel_rfl, ⟨_, rfl⟩, fun v hv => ?_, fun v hv => ?_⟩)
                    · go_simp
                      exact mUpon_b
                    subst hv
                    go_simp
                    refine hK _ ?_
                    clear hK K
                    refine lexX_step (fun K hK => ⟨by kernel_rfl, ⟨_, rfl⟩, fun v hv => ?_, fun v hv => ?_⟩)
                    · go_simp
                      exact mUpon_b
                    subst hv
                    go_simp
                    refine hK _ ?_
                    clear hK K
                    refine lexX_step (fun K hK => ⟨by kernel_rfl, ⟨_, rfl⟩, fun v hv => ?_, fun v hv => ?_⟩)
                    · go_simp
                      exact mUpon_b
                    subst hv
                    go_simp
                    refine hK _ ?_
                    clear hK K
                    refine lexX_step (fun K hK => ⟨by kernel_rfl, ⟨_, rfl⟩, fun v hv => ?_, fun v hv => ?_⟩)
                    · go_simp
                      exact mUpon_b
                    subst hv
                    go_simp
                    refine hK _ ?_
                    clear hK K
                    refine lexX_step (fun K hK => ⟨by kernel_rfl, ⟨_, rfl⟩, fun v hv => ?_, fun v hv => ?_⟩)
                    · go_simp
                      exact mUpon_b
                    subst hv
                    go_simp
                    refine hK _ ?_
                    clear hK K
                    refine lexX_step (fun K hK => ⟨by kernel_rfl, ⟨_, rfl⟩, fun v hv => ?_, fun v hv => ?_⟩)
                    · have y9 := (unhideR HY5 v hv).2.2.1.c3
                      go_simp
                      exact mUpon_b
                    subst hv
                    go_simp
                    refine hK _ ?_
                    clear hK K
                    refine lexX_step (fun K hK => ⟨by kernel_rfl, ⟨_, rfl⟩, fun v hv => ?_, fun v hv => ?_⟩)
                    · go_simp
                      exact mUpon_b
                    subst hv
                    go_simp
                    refine hK _ ?_
                    clear hK K
                    refine lexX_end (fun v6 hv => ?_)
                    have HB6 := hideR (unhideR HY5 v6 hv.low).2.2.2
                    clear hv HY5
                    refine wpAny_step (i := 29) (by kernel_rfl) rfl (by kernel_rfl) (fun K hK => ?_)
                    unfold Oper.wp
                    go_simp
                    refine hK _ _ ?_
                    clear hK K
                    refine wpAny_end (by kernel_rfl) ?_
                    go_wp2
                    exact ⟨⟨j + 1, by omega, by go_num, HB6⟩, by simp [intOf]; omega⟩
          have tk : decide ((k : Int) < (m : Int)) = true := decide_eq_true (by omega)
          have tkn : decide (k < m) = true := decide_eq_true qk
          have wk : IntKind.i64.wrap ((k : Int) + 1) = (k : Int) + 1 := iwrap (by omega) (by omega)
          have hki : (k : Int) < (m : Int) := by omega
          obtain ⟨fg, ef, hC⟩ := unhideR HFc _ (unhideR HBr) k qk
          subst ef
          have HAk := hideR (unhideR HAs k qk)
          have HSk := hideR (unhideR HShs k qk)
          have hSl := unhideR HShl k
          have hok := unhideR HFo k qk
          generalize F.getD k tt0 = y at *
          have c0 := hC.c0
          have c1 := hC.c1
          have c2 := hC.c2
          have c3 := hC.c3
          have c4 := hC.c4
          have c5 := hC.c5
          have c6 := hC.c6
          clear hC HFc HAs HShs HShl HFo HAe HShe HL HP HS
          have z := alloc_last wr (.cells #[.string y.1.nm, .int .i64 y.1.kd, .int .i64 y.1.wd, .int .i64 y.1.hi, .slice y.2.ca y.1.cs.length y.2.cc, .slice y.2.oa y.1.op.length y.2.oc, .int .i64 y.1.al] 57)
          have hba := below_a wr (.cells #[.string y.1.nm, .int .i64 y.1.kd, .int .i64 y.1.wd, .int .i64 y.1.hi, .slice y.2.ca y.1.cs.length y.2.cc, .slice y.2.oa y.1.op.length y.2.oc, .int .i64 y.1.al] 57)
          have HBk := hideR (below_go (unhideR HBr) hba)
          have HSw := hideR (own_below2 (unhideR HSv) hba)
          have hin := inSpans_any y.2.oa y.2.oc y.1.op x0 _ (hok.1.o.oi.below (below_go (unhideR HBu) (unhideR HBk))) (by have := hok.1.s; omega)
          obtain ⟨WV, hWV⟩ : ∃ WV, wayV y.1 x0 = WV := ⟨_, rfl⟩
          obtain ⟨bi, hbi⟩ : ∃ bi, inV y.1.op x0 = bi := ⟨_, rfl⟩
          obtain ⟨ba, hbl⟩ : ∃ ba, decide (y.1.al ≤ 0) = ba := ⟨_, rfl⟩
          have HW1 : HeldR (y.1.kd = 1 → WV = false) := hideR (fun h => by rw [← hWV]; exact way_one h)
          have HW2 : HeldR (y.1.kd = 2 → WV = !bi) := hideR (fun h => by rw [← hWV, ← hbi]; exact way_two h)
          have HW3 : HeldR (y.1.kd = 3 → WV = ba) := hideR (fun h => by rw [← hWV, ← hbl]; exact way_three h)
          have HW4 : HeldR (y.1.kd = 4 → WV = (!bi || ba)) := hideR (fun h => by rw [← hWV, ← hbi, ← hbl]; exact way_four h)
          rw [hWV] at HAk
          rw [hbi] at hin
          have hkd : y.1.kd = 1 ∨ y.1.kd = 2 ∨ y.1.kd = 3 ∨ y.1.kd = 4 := by omega
          have Hkd := hideR hkd
          have HCy : HeldR (∀ u, Below (wr.alloc (.cells #[.string y.1.nm, .int .i64 y.1.kd, .int .i64 y.1.wd, .int .i64 y.1.hi, .slice y.2.ca y.1.cs.length y.2.cc, .slice y.2.oa y.1.op.length y.2.oc, .int .i64 y.1.al] 57)).heap.size (wr.alloc (.cells #[.string y.1.nm, .int .i64 y.1.kd, .int .i64 y.1.wd, .int .i64 y.1.hi, .slice y.2.ca y.1.cs.length y.2.cc, .slice y.2.oa y.1.op.length y.2.oc, .int .i64 y.1.al] 57)) u → TtC u wr.heap.size 0 y) := hideR (fun u hu => TtC.of (fun i hi => by
            have := keepB z hu
            simp only [World.cell?, this, Nat.zero_add]
            simp [vT, valT]))
          clear hWV hbi hkd hok HSv HBr hba z
          go_upto_region 39 with fail
          clear c0 c1 c2 c3 c4 c5 c6
          generalize wr.alloc (.cells #[.string y.1.nm, .int .i64 y.1.kd, .int .i64 y.1.wd, .int .i64 y.1.hi, .slice y.2.ca y.1.cs.length y.2.cc, .slice y.2.oa y.1.op.length y.2.oc, .int .i64 y.1.al] 57) = W9 at *
          obtain ⟨Z, hZ⟩ : ∃ Z, wr.heap.size = Z := ⟨_, rfl⟩
          rw [hZ] at HCy ⊢
          clear hZ
          have hcy := unhideR HCy W9 (Below.refl _ _)
          have d0 : W9.cell? ⟨Z, 0, none⟩ = some (.string y.1.nm) := hcy.c0
          have d1 : W9.cell? ⟨Z, 1, none⟩ = some (.int .i64 y.1.kd) := hcy.c1
          have d2 : W9.cell? ⟨Z, 2, none⟩ = some (.int .i64 y.1.wd) := hcy.c2
          have d3 : W9.cell? ⟨Z, 3, none⟩ = some (.int .i64 y.1.hi) := hcy.c3
          have d4 : W9.cell? ⟨Z, 4, none⟩ = some (.slice y.2.ca y.1.cs.length y.2.cc) := hcy.c4
          have d5 : W9.cell? ⟨Z, 5, none⟩ = some (.slice y.2.oa y.1.op.length y.2.oc) := hcy.c5
          have d6 : W9.cell? ⟨Z, 6, none⟩ = some (.int .i64 y.1.al) := hcy.c6
          clear hcy HCy
          go_wp2_with fail
          refine hin.mono ?_
          rintro e u9 ⟨rfl, rfl⟩
          clear hin
          as_aux_lemma =>
            go_upto_region 40 with fail
            go_cut [200] from 156 to 206 (fun s200 wx => s200 = .bool WV ∧ wx = u9)
            case' first =>
              rcases unhideR Hkd with q | q | q | q
              · have e9 := unhideR HW1 q
                rw [q] at d1
                clear q Hkd HW1 HW2 HW3 HW4
                go_wp2_with fail
                go_meet
                exact ⟨by rw [e9], rfl⟩
              · have e9 := unhideR HW2 q
                rw [q] at d1
                clear q Hkd HW1 HW2 HW3 HW4
                cases bi <;> (go_wp2_with fail; go_meet; exact ⟨by rw [e9]; rfl, rfl⟩)
              · have e9 := unhideR HW3 q
                rw [q] at d1
                clear q Hkd HW1 HW2 HW3 HW4
                cases ba <;> (go_wp2_with fail; go_meet; exact ⟨by rw [e9], rfl⟩)
              · have e9 := unhideR HW4 q
                rw [q] at d1
                clear q Hkd HW1 HW2 HW3 HW4
                cases bi <;> cases ba <;> (go_wp2_with fail; go_meet; exact ⟨by rw [e9]; rfl, rfl⟩)
            obtain ⟨rfl, hwc⟩ := hcut
            subst hwc
            clear HW1 HW2 HW3 HW4 Hkd hbl
            go_upto_if 200 with fail
            go_cut [15] from 156 to 206 (fun s15 wx => s15 = .bool (AK (k + 1)) ∧ wx = wc)
            case' first =>
              cases WV
              case' false =>
                have e9 : AK (k + 1) = AK k := by rw [unhideR HAk, Bool.or_false]
                go_wp2_with fail
                go_meet
                exact ⟨by rw [e9], rfl⟩
              case' true =>
                have e9 : AK (k + 1) = true := by rw [unhideR HAk, Bool.or_true]
                go_wp2_with fail
                go_meet
                exact ⟨by rw [e9], rfl⟩
            obtain ⟨rfl, hwc⟩ := hcut
            subst hwc
            clear HAk
            as_aux_lemma =>
              by_cases q1 : y.1.kd = 1
              case neg =>
                have t1 : (y.1.kd == 1) = false := beq_eq_false_iff_ne.2 q1
                rw [if_neg q1] at HSk
                rw [← unhideR HSk] at HSw
                clear q1 HSk
                go_wp2
                exact ⟨⟨k + 1, by omega, rfl, by go_num, HSw, HBk⟩, by simp [intOf]; omega⟩
              have t1 : (y.1.kd == 1) = true := beq_iff_eq.2 q1
              rw [if_pos q1] at HSk
              have hby := byName_any y (unhideR HSw) (by omega)
              unfold ByPost at hby
              have e0 : (vT y).toArray = #[.string y.1.nm, .int .i64 y.1.kd, .int .i64 y.1.wd, .int .i64 y.1.hi, .slice y.2.ca y.1.cs.length y.2.cc, .slice y.2.oa y.1.op.length y.2.oc, .int .i64 y.1.al] := rfl
              rw [e0] at hby
              clear q1 e0
              have hszc : u1.heap.size ≤ wc.heap.size := (below_go (unhideR HBu) (unhideR HBk)).size
              go_wp2_with fail
              refine hby.mono ?_
              rintro e u9 ⟨⟨v9, rfl, ow⟩, k9⟩
              rw [← unhideR HSk] at ow
              have HS9 := hideR (own_lowerG ow hszc)
              have HB9 := hideR (below_go (unhideR HBk) k9)
              clear hby ow k9 HSk HSw HBk d0 d1 d2 d3 d4 d5 d6
              go_wp2
              exact ⟨⟨k + 1, by omega, rfl, by go_num, HS9, HB9⟩, by simp [intOf]; omega⟩
    have ti : decide ((i : Int) < (n : Int)) = true := decide_eq_true (by omega)
    have tin : decide (i < n) = true := decide_eq_true q
    have wi : IntKind.i64.wrap ((i : Int) + 1) = (i : Int) + 1 := iwrap (by omega) (by omega)
    have hii : (i : Int) < (n : Int) := by omega
    obtain ⟨bb, off, had, hbb, hC⟩ := (unhideR HM wr (unhideR HL).bl).at_ i (by rw [unhideR Hn]; exact q)
    subst had
    have HCu : HeldR (∀ u, Below u1.heap.size u1 u → TtC u bb (off + i * 7) (M.getD i tt0)) := hideR (fun u hu => by
      obtain ⟨b', o', e', _, h'⟩ := (unhideR HM u hu).at_ i (by rw [unhideR Hn]; exact q)
      cases e'
      exact h')
    have hok := unhideR HK i q
    generalize M.getD i tt0 = x at *
    have c0 := hC.c0
    have c1 := hC.c1
    have c2 := hC.c2
    have c3 := hC.c3
    have c4 := hC.c4
    have c5 := hC.c5
    have c6 := hC.c6
    clear hC
    obtain ⟨nv', nc', rfl⟩ := ownsRow_slice (unhideR HL).nr
    obtain ⟨fv', fc', rfl⟩ := ownsRow_slice (unhideR HL).fr
    have HQb := hideR (unhideR HP wr (unhideR HL).bl)
    by_cases qa : 100 < x.1.nm.size
    · have ta : decide ((100 : Int) < (x.1.nm.size : Int)) = true := decide_eq_true (by omega)
      have tan : decide (100 < x.1.nm.size) = true := decide_eq_true qa
      clear HP HS HM HK HL HCu
      go_wp2
      exact unhideR HQb
    have ta : decide ((100 : Int) < (x.1.nm.size : Int)) = false := decide_eq_false (by omega)
    have tan : decide (100 < x.1.nm.size) = false := decide_eq_false qa
    by_cases qb : 100 < x.1.cs.length
    · have tb : decide ((100 : Int) < (x.1.cs.length : Int)) = true := decide_eq_true (by omega)
      have tbn : decide (100 < x.1.cs.length) = true := decide_eq_true qb
      clear HP HS HM HK HL HCu
      go_wp2
      exact unhideR HQb
    have tb : decide ((100 : Int) < (x.1.cs.length : Int)) = false := decide_eq_false (by omega)
    have tbn : decide (100 < x.1.cs.length) = false := decide_eq_false qb
    by_cases qc : 30 < x.1.op.length
    · have tc : decide ((30 : Int) < (x.1.op.length : Int)) = true := decide_eq_true (by omega)
      have tcn : decide (30 < x.1.op.length) = true := decide_eq_true qc
      clear HP HS HM HK HL HCu
      go_wp2
      exact unhideR HQb
    have tc : decide ((30 : Int) < (x.1.op.length : Int)) = false := decide_eq_false (by omega)
    have tcn : decide (30 < x.1.op.length) = false := decide_eq_false qc
    clear HQb
    have HTo : HeldR (TtOk u1 x) := hideR ⟨hok, by omega, by omega⟩
    have hto := tool_any (x := x.2) (hok.below (unhideR HL).bl) (by omega) (by omega)
    unfold ToPost valT at hto
    clear hok
    go_wp2_with fail
    refine hto.mono ?_
    rintro e u4 ⟨⟨v, rfl, hv⟩, k4⟩
    have HL4 := hideR ((unhideR HL).below k4)
    have Hv := hideR (hv.lower (unhideR HL).bl.size)
    have hkf := kindOf_any hv u4
    clear hto hv k4 HL c0 c1 c2 c3 c4 c5 c6 ta tan tb tbn tc tcn
    generalize kindB x.1.kd = kb at *
    go_wp2_with fail
    refine hkf.mono ?_
    rintro e u5 ⟨rfl, k5⟩
    have HL5 := hideR ((unhideR HL4).below k5)
    have Hv5 := hideR ((unhideR Hv).keep (Kf.of k5))
    have hC5 := unhideR HCu u5 (unhideR HL5).bl
    have c0 := hC5.c0
    have c1 := hC5.c1
    have h12 := (unhideR HL5).n
    clear hkf k5 HL4 Hv hC5
    go_upto_if 90 with fail
    go_cut [12] from 44 to 155 (fun s12 wx => s12 = .int .i64 (e0T F) ∧ wx = u5)
    case' first =>
      by_cases q12 : F.length = 12
      case' pos =>
        have t12 : ((F.length : Int) == 12) = true := by rw [q12]; rfl
        have e12 : e0T F = 2 := if_pos q12
        have t12n : (F.length == 12) = true := beq_iff_eq.2 q12
        clear q12
        go_wp2_with fail
        go_meet
        exact ⟨by rw [e12], rfl⟩
      case' neg =>
        have t12 : ((F.length : Int) == 12) = false := beq_eq_false_iff_ne.2 (by omega)
        have e12 : e0T F = 0 := if_neg q12
        have t12n : (F.length == 12) = false := beq_eq_false_iff_ne.2 q12
        clear q12
        go_wp2_with fail
        go_meet
        exact ⟨by rw [e12], rfl⟩
    obtain ⟨rfl, hwc⟩ := hcut
    subst hwc
    obtain ⟨b1, hb1⟩ : ∃ b, decide (x.1.kd < 1) = b := ⟨_, rfl⟩
    obtain ⟨b2, hb2⟩ : ∃ b, decide (4 < x.1.kd) = b := ⟨_, rfl⟩
    have HE1 : HeldR (e1T F x.1 = if b1 || b2 then 5 else e0T F) := hideR (by
      unfold e1T
      rw [← hb1, ← hb2]
      by_cases q1 : x.1.kd < 1
      · rw [if_pos (.inl q1), decide_eq_true q1, Bool.true_or, if_pos rfl]
      · by_cases q2 : 4 < x.1.kd
        · rw [if_pos (.inr q2), decide_eq_true q2, Bool.or_true, if_pos rfl]
        · rw [if_neg (by omega), decide_eq_false q1, decide_eq_false q2, Bool.or_false, if_neg (by decide)])
    go_upto_region 18 with fail
    go_cut [12, 104] from 44 to 155 (fun s12 s104 wx => s12 = .int .i64 (e0T F) ∧ s104 = .bool (b1 || b2) ∧ wx = wc)
    case' first =>
      cases b1 <;> cases b2 <;> (go_wp2_with fail; go_meet; exact ⟨rfl, rfl, rfl⟩)
    obtain ⟨rfl, rfl, hwc⟩ := hcut
    subst hwc
    clear hb1 hb2
    generalize (b1 || b2) = b3 at *
    go_upto_if 104 with fail
    go_cut [12] from 44 to 155 (fun s12 wx => s12 = .int .i64 (e1T F x.1) ∧ wx = wc)
    case' first =>
      cases b3
      case' false =>
        have e5 : e1T F x.1 = e0T F := unhideR HE1
        go_wp2_with fail
        go_meet
        exact ⟨by rw [e5], rfl⟩
      case' true =>
        have e5 : e1T F x.1 = 5 := unhideR HE1
        go_wp2_with fail
        go_meet
        exact ⟨by rw [e5], rfl⟩
    obtain ⟨rfl, hwc⟩ := hcut
    subst hwc
    clear HE1 c0 c1
    have HE20 : HeldR (e2T F x.1 0 = e1T F x.1) := hideR rfl
    have HE2s : HeldR (∀ k, e2T F x.1 (k + 1) = if eqN (F.getD k tt0).1.nm x.1.nm = true then 10 else e2T F x.1 k) := hideR (fun _ => rfl)
    have HE2e : HeldR (eT F x.1 = if x.1.nm.toList.isEmpty = true then 10 else e2T F x.1 F.length) := hideR (eT_is F x.1)
    have HNm : HeldR (∀ u, Below wc.heap.size wc u → ∀ k, k < F.length → ∃ b, nv' = some ⟨b, 0, none⟩ ∧ u.cell? ⟨b, k, none⟩ = some (.string (F.getD k tt0).1.nm)) := hideR (fun u hu k hk => by
      obtain ⟨ad', cap', e', h'⟩ := nm_cells ((unhideR HL5).below hu).nr
      cases e'
      obtain ⟨b, e1, _, h2⟩ := h' k hk
      exact ⟨b, e1, h2⟩)
    rw [← unhideR HE20]
    generalize e2T F x.1 = E2 at *
    obtain ⟨m, hm⟩ : ∃ m, F.length = m := ⟨_, rfl⟩
    have Hm := hideR hm
    rw [hm] at HE2e HNm h12 ⊢
    clear hm HE20
    go_wp2_with fail
    go_loopw [12, 13] (fun ev kv wl => ∃ k : Nat, k ≤ m ∧ ev = .int .i64 (E2 k) ∧ kv = .int .i64 (k : Nat) ∧ HeldR (Below wc.heap.size wc wl)) (fun _ kv _ => m + 1 - (intOf kv).toNat)
    case atStart => exact ⟨0, by omega, rfl, rfl, hideR (Below.refl _ _)⟩
    case round =>
      obtain ⟨k, hkm, rfl, rfl, HBk⟩ := hrel
      by_cases qk : k < m
      case pos =>
        have tk : decide ((k : Int) < (m : Int)) = true := decide_eq_true (by omega)
        have tkn : decide (k < m) = true := decide_eq_true qk
        have wk : IntKind.i64.wrap ((k : Int) + 1) = (k : Int) + 1 := iwrap (by omega) (by omega)
        have hki : (k : Int) < (m : Int) := by omega
        obtain ⟨nb', en, _⟩ := unhideR HNm wc (Below.refl _ _) k qk
        subst en
        have HY : HeldR (∀ u, Below wr.heap.size wr u → u.cell? ⟨nb', k, none⟩ = some (.string (F.getD k tt0).1.nm) ∧ u.cell? ⟨bb, off + i * 7, none⟩ = some (.string x.1.nm) ∧ Below wc.heap.size wc u) := hideR (fun u hu => by
          have h1 := below_go (unhideR HBk) hu
          obtain ⟨b', e', h'⟩ := unhideR HNm u h1 k qk
          cases e'
          exact ⟨h', (unhideR HCu u (below_go (unhideR HL5).bl h1)).c0, h1⟩)
        have HEs := hideR (unhideR HE2s k)
        clear HBk HE2e HE2s HP HS HM HK HTo Hv5
        generalize (F.getD k tt0).1.nm = y at *
        obtain ⟨cb, hcb⟩ : ∃ cb, eqN y x.1.nm = cb := ⟨_, rfl⟩
        have hcb2 : (y.toList == x.1.nm.toList) = cb := hcb
        rw [hcb] at HEs
        clear hcb
        go_upto_region 23 with fail
        refine wp_region_made 0 #[true, true, true, true, true, true, true, true, true, false] [.lets (· = .slice (some ⟨nb', 0, none⟩) m nc'),
          .lets (· = .int .i64 (k : Nat)),
          .lets (· = .pointer (some ⟨nb', k, none⟩)),
          .lets (· = .string y),
          .lets (· = .slice (some ⟨bb, off, none⟩) n cap),
          .lets (· = .int .i64 (i : Nat)),
          .lets (· = .pointer (some ⟨bb, off + i * 7, none⟩)),
          .lets (· = .pointer (some ⟨bb, off + i * 7, none⟩)),
          .lets (· = .string x.1.nm)] [] [] (by kernel_rfl) (by kernel_rfl) rfl ?kinds (by kernel_rfl) (by kernel_rfl) (by kernel_rfl) ?_
        case kinds =>
          constructor
          · intro i h
            rcases i with _ | _ | _ | _ | _ | _ | _ | _ | _ | i <;> simp [Kx.isMade] at h
          · intro i h
            rcases i with _ | _ | _ | _ | _ | _ | _ | _ | _ | i <;> simp [Kx.isUse] at h
        refine lexX_step (fun K hK => ⟨by kernel_rfl, ⟨_, rfl⟩, fun v hv => ?_, fun v hv => ?_⟩)
        · go_simp
          exact mUpon_b
        subst hv
        go_simp
        refine hK _ ?_
        clear hK K
        refine lexX_step (fun K hK => ⟨by kernel_rfl, ⟨_, rfl⟩, fun v hv => ?_, fun v hv => ?_⟩)
        · go_simp
          exact mUpon_b
        subst hv
        go_simp
        refine hK _ ?_
        clear hK K
        refine lexX_step (fun K hK => ⟨by kernel_rfl, ⟨_, rfl⟩, fun v hv => ?_, fun v hv => ?_⟩)
        · go_simp
          exact mUpon_b
        subst hv
        go_simp
        refine hK _ ?_
        clear hK K
        refine lexX_step (fun K hK => ⟨by kernel_rfl, ⟨_, rfl⟩, fun v hv => ?_, fun v hv => ?_⟩)
        · have y9 := (unhideR HY v hv).1
          go_simp
          exact mUpon_b
        subst hv
        go_simp
        refine hK _ ?_
        clear hK K
        refine lexX_step (fun K hK => ⟨by kernel_rfl, ⟨_, rfl⟩, fun v hv => ?_, fun v hv => ?_⟩)
        · go_simp
          exact mUpon_b
        subst hv
        go_simp
        refine hK _ ?_
        clear hK K
        refine lexX_step (fun K hK => ⟨by kernel_rfl, ⟨_, rfl⟩, fun v hv => ?_, fun v hv => ?_⟩)
        · go_simp
          exact mUpon_b
        subst hv
        go_simp
        refine hK _ ?_
        clear hK K
        refine lexX_step (fun K hK => ⟨by kernel_rfl, ⟨_, rfl⟩, fun v hv => ?_, fun v hv => ?_⟩)
        · go_simp
          exact mUpon_b
        subst hv
        go_simp
        refine hK _ ?_
        clear hK K
        refine lexX_step (fun K hK => ⟨by kernel_rfl, ⟨_, rfl⟩, fun v hv => ?_, fun v hv => ?_⟩)
        · go_simp
          exact mUpon_b
        subst hv
        go_simp
        refine hK _ ?_
        clear hK K
        refine lexX_step (fun K hK => ⟨by kernel_rfl, ⟨_, rfl⟩, fun v hv => ?_, fun v hv => ?_⟩)
        · have y9 := (unhideR HY v hv).2.1
          go_simp
          exact mUpon_b
        subst hv
        go_simp
        refine hK _ ?_
        clear hK K
        refine lexX_end (fun v5 hv => ?_)
        have HB5 := hideR (unhideR HY v5 hv.low).2.2
        clear hv HY
        refine wpAny_step (i := 9) (by kernel_rfl) rfl (by kernel_rfl) (fun K hK => ?_)
        unfold Oper.wp
        go_simp
        refine hK _ _ ?_
        clear hK K
        refine wpAny_end (by kernel_rfl) ?_
        cases cb
        case false =>
          rw [if_neg (by decide)] at HEs
          rw [← unhideR HEs]
          clear HEs
          go_wp2
          exact ⟨⟨k + 1, by omega, rfl, by go_num, HB5⟩, by simp [intOf]; omega⟩
        rw [if_pos rfl] at HEs
        go_wp2
        exact ⟨⟨k + 1, by omega, by rw [unhideR HEs], by go_num, HB5⟩, by simp [intOf]; omega⟩
      obtain rfl : k = m := by omega
      have tk : decide ((k : Int) < (k : Int)) = false := decide_eq_false (by omega)
      have tkn : decide (k < k) = false := decide_eq_false (by omega)
      have HL6 := hideR ((unhideR HL5).below (unhideR HBk))
      have Hv6 := hideR ((unhideR Hv5).keep (Kf.of (unhideR HBk)))
      have c0 := (unhideR HCu wr (unhideR HL6).bl).c0
      obtain ⟨em, hem⟩ : ∃ em, x.1.nm.toList.isEmpty = em := ⟨_, rfl⟩
      have hem2 : (x.1.nm.toList == []) = em := by rw [← hem]; cases x.1.nm.toList <;> rfl
      rw [hem] at HE2e
      clear HBk HNm HE2s HL5 Hv5
      go_upto_if 126 with fail
      go_cut [12] from 44 to 155 (fun s12 wx => s12 = .int .i64 (eT F x.1) ∧ wx = wr)
      case' first =>
        cases em
        case' false =>
          have e6 : eT F x.1 = E2 k := (unhideR HE2e).trans (if_neg (by decide))
          go_wp2_with fail
          go_meet
          exact ⟨by rw [e6], rfl⟩
        case' true =>
          have e6 : eT F x.1 = 10 := (unhideR HE2e).trans (if_pos rfl)
          go_wp2_with fail
          go_meet
          exact ⟨by rw [e6], rfl⟩
      obtain ⟨rfl, hwc⟩ := hcut
      subst hwc
      clear HE2e hem hem2 c0
      obtain ⟨X, hsX, hrX⟩ := (unhideR HL6).hs
      have hFm := unhideR Hm
      have hft := pfit_any (unhideR HS _ (unhideR HL6).bl) hsX (by rw [hrX.len, hFm]; exact h12) (unhideR Hv6) (unhideR HL6).bl.size
      unfold FtPost at hft
      rw [fit_is hrX (by rw [hFm]; exact h12) x.1] at hft
      have HT0 : HeldR (eT F x.1 = 0 → (1 ≤ x.1.kd ∧ x.1.kd ≤ 4) ∧ F.length < 12) := hideR (fun h => eT_zero h (by rw [hFm]; exact h12))
      have HrX := hideR hrX
      have c0 := (unhideR HCu _ (unhideR HL6).bl).c0
      generalize eT F x.1 = ET at *
      clear hsX hrX hFm Hv6
      go_wp2_with fail
      refine hft.mono ?_
      rintro e u7 ⟨⟨E, rfl, hE⟩, kf, kb7, g1, g2⟩
      have HB7 := hideR ((unhideR HL6).bl.trans kb7)
      have hco := coded_err (unhideR HS u7 (unhideR HB7)) hE
      clear hft hE c0
      go_wp2_with fail
      refine hco.mono ?_
      rintro e u8 ⟨rfl, k8⟩
      have HB8 := hideR (below_go (unhideR HB7) k8)
      clear hco
      by_cases qe : ET = 0
      case neg =>
        have tE : (ET == 0) = false := beq_eq_false_iff_ne.2 qe
        have HL8 := hideR (((unhideR HL6).after kf kb7 (g1 qe) (unhideR HrX)).below k8)
        rw [unhideR Hm] at HL8
        clear HL6 kf kb7 g1 g2 k8 HP HS HM HK HCu HrX HT0 HB7 HB8 qe
        go_wp2
        exact ⟨⟨i + 1, F, by omega, by go_num, HL8⟩, by simp [intOf]; omega⟩
      obtain ⟨X', f, hfx, hpx, hsx⟩ := g2 qe
      obtain ⟨hkd, hm12⟩ := unhideR HT0 qe
      have hLa := (unhideR HL6)
      have HN8 := hideR (own_below2 (kf.own hLa.nr (by decide) (by decide)) k8)
      have HF8 := hideR (own_below2 (kf.own hLa.fr (by decide) (by decide)) k8)
      have Hs8 := hideR (hsx.below k8)
      have HR8 := hideR ((unhideR HrX).next hpx hfx)
      have HOk := hideR hLa.ok
      have HXo : HeldR (TtOk u1 x ∧ 1 ≤ x.1.kd ∧ x.1.kd ≤ 4) := hideR ⟨unhideR HTo, hkd.1, hkd.2⟩
      subst qe
      have Hm12 := hideR hm12
      clear hLa HL6 kf kb7 g1 g2 k8 HrX HT0 HB7 hpx hfx hsx hkd hm12
      have HPu : HeldR (∀ ua w1 ub w2 v1 v2, Below u8.heap.size u8 ua → ua.grownBy w1 (Value.slice nv' k nc').ownBlock → w1.ownsRow u1.heap.size 9 1 v1 (k + 1) ((F.map fun x => Value.string x.1.nm) ++ [.string x.1.nm]) → Below w1.heap.size w1 ub → ub.grownBy w2 (Value.slice fv' k fc').ownBlock → w2.ownsRow u1.heap.size 57 7 v2 (k + 1) (flatTT F ++ vT x) → Ls u1 hb (F ++ [x]) v1 v2 w2) := hideR (fun ua w1 ub w2 v1 v2 a1 a2 a3 a4 a5 a6 => by
        rw [← unhideR Hm] at a2 a3 a5 a6
        exact Ls.push (unhideR HN8) (unhideR HF8) (unhideR Hs8) (unhideR HR8) (unhideR HOk) (unhideR HXo) (unhideR Hm12) (unhideR HB8) a1 a2 a3 a4 a5 a6)
      have c0 := (unhideR HCu _ (unhideR HB8)).c0
      have hsz8 : u1.heap.size ≤ u8.heap.size := (unhideR HB8).size
      rw [unhideR Hm] at HN8 HF8
      have hC1 : ∀ j z, ([Value.string x.1.nm] : List Value)[j]? = some z → (u8.alloc (.cells #[.string x.1.nm] 9)).cell? ((⟨u8.heap.size, 0, none⟩ : Addr).add j) = some z := fun j z hz => by
        rw [add_pl2, Nat.zero_add]
        have := alloc_last u8 (.cells #[.string x.1.nm] 9)
        simp only [World.cell?, this]
        rcases j with _ | j
        · exact hz
        · simp at hz
      have HC1 := hideR hC1
      clear hC1 HP HS HK HM Hs8 HR8 HOk HXo Hm12
      generalize (F.map fun x => Value.string x.1.nm) = FN at *
      go_wp2_with (first
        | (at_builtin; refine wpList_append_own _ rfl _ _ 51 rfl u1.heap.size 9 j0 (.string ByteArray.empty) 1 16 Tryd.underlying51 hj0 hy0 hy1 hy2 rfl (by decide) _ k FN rfl ((unhideR HN8).alloc _) ⟨u8.heap.size, 0, none⟩ 1 1 [.string x.1.nm] rfl rfl (unhideR HC1) (fun u hu => by rw [List.mem_singleton] at hu; subst hu; rfl) ?c3 ?c4 (by simp; omega) ?_))
      case c3 => unfold maxLen; omega
      case c4 => omega
      intro v9 w9 hown9 hgrow9 _
      have ka := below_a u8 (.cells #[.string x.1.nm] 9)
      have hB9 := (below_go (unhideR HB8) ka).grown hgrow9 (by simp; omega) (fun k e => (row_block (unhideR HN8) e).1)
      have hcx := unhideR HCu w9 hB9
      have d0 := hcx.c0
      have d1 := hcx.c1
      have d2 := hcx.c2
      have d3 := hcx.c3
      have d4 := hcx.c4
      have d5 := hcx.c5
      have d6 := hcx.c6
      have y9 : Ty 9 (u8.alloc (.cells #[.string x.1.nm] 9)) w9 := Ty.grown (own_below2 (unhideR HN8) ka) hgrow9
      have HF9 := hideR (y9.own (own_below2 (unhideR HF8) ka) (by decide))
      have HPv := hideR (fun ub w2 v2 => unhideR HPu _ w9 ub w2 v9 v2 ka hgrow9 hown9)
      have hsz9 : u1.heap.size ≤ w9.heap.size := hB9.size
      have HV1y := hideR (vT_one x)
      have HVly : HeldR ((vT x).length = 1 * 7) := hideR rfl
      have HCy : HeldR (∀ (u : World) (g : Nat), u.heap[g]? = some (.cells #[.string x.1.nm, .int .i64 x.1.kd, .int .i64 x.1.wd, .int .i64 x.1.hi, .slice x.2.ca x.1.cs.length x.2.cc, .slice x.2.oa x.1.op.length x.2.oc, .int .i64 x.1.al] 57) → ∀ j z, (vT x)[j]? = some z → u.cell? ((⟨g, 0, none⟩ : Addr).add j) = some z) := hideR (fun u g h => tt_cells h)
      clear hown9 hgrow9 ka hB9 hcx y9 HPu HN8 HF8 HB8 HC1 c0 HCu
      generalize vT x = VX at *
      generalize flatTT F = FM at *
      go_wp2_with (first
        | (at_builtin; refine wpList_append_own _ rfl _ _ 44 rfl u1.heap.size 57 i0 (.agg #[.string ByteArray.empty, .int .i64 0, .int .i64 0, .int .i64 0, .slice none 0 0, .slice none 0 0, .int .i64 0]) 7 96 Tryd.underlying44 hi0 hz0 hz1 hz2 rfl (by decide) _ k FM rfl ((unhideR HF9).alloc _) ⟨w9.heap.size, 0, none⟩ 1 1 VX rfl (unhideR HVly) (unhideR HCy _ _ (alloc_last w9 _)) (unhideR HV1y) ?c3 ?c4 (by simp; omega) ?_))
      case c3 => unfold maxLen; omega
      case c4 => omega
      intro v10 w10 hown10 hgrow10 _
      have HL10 := hideR (unhideR HPv _ w10 v10 (below_a w9 _) hgrow10 hown10)
      clear hown10 hgrow10 HPv HF9 HV1y HVly HCy d0 d1 d2 d3 d4 d5 d6
      go_wp2
      exact ⟨⟨i + 1, F ++ [x], by omega, by go_num, HL10⟩, by simp [intOf]; omega⟩
end Go.Proofs.YtoacdaemhcbbhaaDoor
