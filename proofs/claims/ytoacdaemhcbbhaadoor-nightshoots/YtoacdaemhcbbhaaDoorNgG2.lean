/-
  The first instant at which a job may begin, the windows in which it has room, a set without a job: the program's, by contract.
-/
import Derived.Test.YtoacdaemhcbbhaaDoorNgG1
import Derived.Test.YtoacdaemhcbbhaaDoorAppAt
namespace Go.Proofs.YtoacdaemhcbbhaaDoor
open Go Go.RowKit

def bgV (lo t : Int) (W : List Spn) : Option Int := (W.find? (soQ lo t)).map (fun s => if s.f < t then t else s.f)
def BgPost (lo t : Int) (W : List Spn) (w : World) (e : Ending) (w' : World) : Prop := e = .returned (.tuple #[.int .i64 ((bgV lo t W).getD 0), .bool (bgV lo t W).isSome]) ∧ Below w.heap.size w w'
set_option maxRecDepth 100000 in
set_option maxHeartbeats 3200000 in
theorem pbegin_any {w : World} {ad : Option Addr} {cap : Nat} {W : List Spn} (hl : SpCame w ad W) (hW : WsOk W) {lo : Int} (hlo : 1 ≤ lo ∧ lo ≤ 1099511627776) (t : Int) :
    Calls Tryd.prog 47 #[.slice ad W.length cap, .int .i64 lo, .int .i64 t] w (BgPost lo t W w) := by
  have z := alloc_last w (.cells #[.int .i64 lo] 3)
  have hb := below_a w (.cells #[.int .i64 lo] 3)
  have hc := pbs_any (cap := cap) (hl.below hb) hW z hlo t
  have HB := hideR hb
  have HL : HeldR (∀ u, Below w.heap.size w u → SpCame u ad W) := hideR (fun u q => hl.below q)
  have HF : HeldR (∀ k, IsCut (fun j => soQ lo t (W.getD j sp0)) W.length k → bgV lo t W = if k < W.length then some (if (W.getD k sp0).f < t then t else (W.getD k sp0).f) else none) := hideR (fun k h => by
    unfold bgV
    rw [cut_find h]
    split <;> rfl)
  have HP : HeldR (∀ r w', bgV lo t W = r → Below w.heap.size w w' → BgPost lo t W w (.returned (.tuple #[.int .i64 (r.getD 0), .bool r.isSome])) w') := hideR (fun r w' e h => by subst e; exact ⟨rfl, h⟩)
  have hnl := hW.n
  generalize BgPost lo t W w = BP at *
  unfold BsPost at hc
  obtain ⟨n, hn⟩ : ∃ n, W.length = n := ⟨_, rfl⟩
  have Hn := hideR hn
  rw [hn] at hc HF hnl ⊢
  clear z hb hl hW hn
  go_enter Tryd.func47, Tryd.ntmps47
  go_wp2_with fail
  refine hc.mono ?_
  rintro e u ⟨⟨k, b, rfl, hcut⟩, kb⟩
  have hv := unhideR HF k hcut
  have HB2 := hideR (below_go (unhideR HB) kb)
  have hkn := hcut.1
  clear hc hcut kb HF HB
  by_cases q : k = n
  · subst q
    rw [if_neg (Nat.lt_irrefl _)] at hv
    have HQ := hideR (unhideR HP none u hv (unhideR HB2))
    clear hv HP HB2 HL
    go_wp2
    exact unhideR HQ
  · have hkl : k < n := by omega
    rw [if_pos hkl] at hv
    have tq : ((k : Int) == (n : Int)) = false := beq_eq_false_iff_ne.2 (by omega)
    have tqn : (k == n) = false := beq_eq_false_iff_ne.2 q
    have hki : (k : Int) < (n : Int) := by omega
    obtain ⟨bb, off, had, hbb, hS⟩ := (unhideR HL u (unhideR HB2)).at_ k (by rw [unhideR Hn]; exact hkl)
    subst had
    have c0 := hS.c0
    generalize W.getD k sp0 = s at *
    have HQ := hideR (unhideR HP _ u hv (unhideR HB2))
    clear hv HP HB2 HL hS
    go_wp2
    all_goals (have h := unhideR HQ; first | (rw [show (if s.f < t then t else s.f) = s.f from by split <;> omega] at h; exact h) | (rw [show (if s.f < t then t else s.f) = t from by split <;> omega] at h; exact h))
theorem andNot_is {s i : Nat} (hs : s < 64) (hi : i < 6) : bits .andNot .i64 ((s : Nat) : Int) (wrap64 (2 ^ i)) = ((if s.testBit i then s - 2 ^ i else s : Nat) : Int) := by
  have h : (List.range 64).all (fun s => (List.range 6).all fun i => decide (bits .andNot .i64 ((s : Nat) : Int) (wrap64 (2 ^ i)) = ((if s.testBit i then s - 2 ^ i else s : Nat) : Int))) = true := by decide +kernel
  exact of_decide_eq_true (all_lt (all_lt h hs) hi)
set_option maxRecDepth 100000 in
set_option maxHeartbeats 1600000 in
theorem pwo_any (s i : Nat) (hs : s < 64) (hi : i < 6) (w : World) :
    Calls Tryd.prog 46 #[.int .i64 (s : Nat), .int .i64 (i : Nat)] w fun e w' => e = .returned (.int .i64 ((if s.testBit i then s - 2 ^ i else s : Nat) : Int)) ∧ w' = w := by
  have ha := andNot_is hs hi
  generalize (if s.testBit i then s - 2 ^ i else s : Nat) = r at *
  have hi2 : (i : Int) < 64 := by omega
  go_enter Tryd.func46, Tryd.ntmps46
  go_wp2
  go_ret
  exact ⟨rfl, rfl⟩
theorem own_lowerG {w : World} {A B n s : Nat} {e : TypeId} {v : Value} {xs : List Value} (h : w.ownsRow B e s v n xs) (hb : A ≤ B) : w.ownsRow A e s v n xs := ⟨h.1, h.2.imp id fun ⟨g, cap, cur, h1, h2, h3⟩ => ⟨g, cap, cur, h1, Nat.le_trans hb h2, h3⟩⟩
theorem infoSpP : (Tryd.prog.info? 69).map (fun i => (i.zero, i.size, i.bytes)) = some (some (.agg #[.int .i64 0, .int .i64 0]), 2, 16) := by kernel_rfl
theorem leL_take (lo : Int) {ws : List Spn} {k : Nat} (h : k < ws.length) : leL lo (ws.take (k + 1)) = if decide (lo ≤ (ws.getD k sp0).t - (ws.getD k sp0).f) then leL lo (ws.take k) ++ [ws.getD k sp0] else leL lo (ws.take k) := by
  unfold leL
  rw [Sptake h, List.filter_append]
  generalize ws.getD k sp0 = s
  by_cases q : lo ≤ s.t - s.f
  · rw [decide_eq_true q, if_pos rfl]
    simp [q]
  · rw [decide_eq_false q, if_neg (by decide)]
    simp [q]
theorem leL_len (lo : Int) (ws : List Spn) : (leL lo ws).length ≤ ws.length := List.length_filter_le _ _
def LePost (lo : Int) (ws : List Spn) (w : World) (e : Ending) (w' : World) : Prop := (∃ v, e = .returned v ∧ w'.ownsRow w.heap.size 69 2 v (leL lo ws).length (flatSp (leL lo ws))) ∧ Below w.heap.size w w'
set_option maxRecDepth 100000 in
set_option maxHeartbeats 6400000 in
theorem plong_any {w : World} {j : Jb} {a2 : Option Addr} {c2 : Nat} (hs : SpCame w a2 j.ws) (hk : j.Ok) :
    Calls Tryd.prog 45 #[jbV j a2 c2] w (LePost j.lo j.ws w) := by
  unfold jbV
  obtain ⟨i0, hi0, hz0, hz1, hz2⟩ := info_parts infoSpP
  have z := alloc_last w (.cells #[.string j.nm, .slice a2 j.ws.length c2, .int .i64 j.lo, .int .i64 j.wo] 72)
  have hb := below_a w (.cells #[.string j.nm, .slice a2 j.ws.length c2, .int .i64 j.lo, .int .i64 j.wo] 72)
  have HZ := hideR z
  have HL : HeldR (∀ u, Below w.heap.size w u → SpCame u a2 j.ws) := hideR (fun u q => hs.below q)
  have HP : HeldR (∀ v w', w'.ownsRow w.heap.size 69 2 v (leL j.lo (j.ws.take j.ws.length)).length (flatSp (leL j.lo (j.ws.take j.ws.length))) → Below w.heap.size w w' → LePost j.lo j.ws w (.returned v) w') := hideR (fun v w' h1 h2 => by rw [List.take_length] at h1; exact ⟨⟨v, rfl, h1⟩, h2⟩)
  have HT : HeldR (∀ k, k < j.ws.length → leL j.lo (j.ws.take (k + 1)) = if decide (j.lo ≤ (j.ws.getD k sp0).t - (j.ws.getD k sp0).f) then leL j.lo (j.ws.take k) ++ [j.ws.getD k sp0] else leL j.lo (j.ws.take k)) := hideR (fun k hk => leL_take j.lo hk)
  have HTl : HeldR (∀ k, k ≤ j.ws.length → (leL j.lo (j.ws.take k)).length ≤ k) := hideR (fun k hk => by have := leL_len j.lo (j.ws.take k); rw [List.length_take] at this; omega)
  have HR : HeldR (∀ k, k < j.ws.length → -1152921504606846976 ≤ (j.ws.getD k sp0).f ∧ (j.ws.getD k sp0).f < (j.ws.getD k sp0).t ∧ (j.ws.getD k sp0).t ≤ 1152921504606846976) := hideR (fun k h => by have := hk.r k h; unfold Spn.Ok at this; omega)
  have hnl := hk.n
  have hl1 := hk.l1
  have hl2 := hk.l2
  have x1 := (cells_at z 1 (by simp)).1
  generalize LePost j.lo j.ws w = LP at *
  obtain ⟨n, hn⟩ : ∃ n, j.ws.length = n := ⟨_, rfl⟩
  have Hn := hideR hn
  have HB0 := hideR hb
  rw [hn] at HP HT HTl HR hnl HZ x1 HB0 ⊢
  have HO0 : HeldR ((w.alloc (.cells #[.string j.nm, .slice a2 n c2, .int .i64 j.lo, .int .i64 j.wo] 72)).ownsRow (w.alloc (.cells #[.string j.nm, .slice a2 n c2, .int .i64 j.lo, .int .i64 j.wo] 72)).heap.size 69 2 (.slice none 0 0) (leL j.lo (j.ws.take 0)).length (flatSp (leL j.lo (j.ws.take 0)))) := hideR (World.ownsRow_nil _ _ _ _)
  clear z hb hs hk hn
  go_enter Tryd.func45, Tryd.ntmps45
  go_wp2_with fail
  clear x1
  generalize w.alloc (.cells #[.string j.nm, .slice a2 n c2, .int .i64 j.lo, .int .i64 j.wo] 72) = u0 at *
  obtain ⟨Z, hZ⟩ : ∃ Z, w.heap.size = Z := ⟨_, rfl⟩
  have HZe := hideR hZ
  rw [hZ] at HZ ⊢
  clear hZ
  go_loopw [3, 9] (fun lv kv wl => ∃ k : Nat, k ≤ n ∧ kv = .int .i64 (k : Nat) ∧ HeldR (wl.ownsRow u0.heap.size 69 2 lv (leL j.lo (j.ws.take k)).length (flatSp (leL j.lo (j.ws.take k)))) ∧ HeldR (Below u0.heap.size u0 wl)) (fun _ kv _ => n + 1 - (intOf kv).toNat)
  case atStart => exact ⟨0, by omega, rfl, HO0, hideR (Below.refl _ _)⟩
  case round =>
    clear HO0
    obtain ⟨k, hk, rfl, HO, HB⟩ := hrel
    by_cases q : k < n
    case neg =>
      obtain rfl : k = n := by omega
      have ti : decide ((k : Int) < (k : Int)) = false := decide_eq_false (by omega)
      have tin : decide (k < k) = false := decide_eq_false (by omega)
      have HQ := hideR (unhideR HP _ _ (own_lowerG (unhideR HO) (unhideR HB0).size) ((unhideR HB0).trans ((unhideR HB).mono (unhideR HB0).size)))
      clear HO HB HP HT HTl HR HL HZ
      go_wp2
      exact unhideR HQ
    have ti : decide ((k : Int) < (n : Int)) = true := decide_eq_true (by omega)
    have tin : decide (k < n) = true := decide_eq_true q
    have wi : IntKind.i64.wrap ((k : Int) + 1) = (k : Int) + 1 := iwrap (by omega) (by omega)
    have hii : (k : Int) < (n : Int) := by omega
    obtain ⟨bb, off, had, hbb, hS⟩ := (unhideR HL wr ((unhideR HB0).trans ((unhideR HB).mono (unhideR HB0).size))).at_ k (by rw [unhideR Hn]; exact q)
    subst had
    have c0 := hS.c0
    have c1 := hS.c1
    have hr := unhideR HR k q
    have HT2 := hideR (unhideR HT k q)
    have htl := unhideR HTl k hk
    clear hS
    generalize j.ws.getD k sp0 = s at *
    have hz1a := alloc_last wr (.cells #[.int .i64 s.f, .int .i64 s.t] 69)
    have hba := below_a wr (.cells #[.int .i64 s.f, .int .i64 s.t] 69)
    have j2 := (cells_at (keepB (keepB (unhideR HZ) (unhideR HB)) hba) 2 (by simp)).1
    have e0 := (cells_at hz1a 0 (by simp)).1
    have e1 := (cells_at hz1a 1 (by simp)).1
    have HB1 := hideR ((unhideR HB).trans (hba.mono (unhideR HB).size))
    have HO1 := hideR (own_below2 (unhideR HO) hba)
    have ws1 : IntKind.i64.wrap (s.t - s.f) = s.t - s.f := iwrap (by omega) (by omega)
    clear hz1a hba HO HB
    by_cases qe : j.lo ≤ s.t - s.f
    case neg =>
      have tq : decide (j.lo ≤ s.t - s.f) = false := decide_eq_false qe
      rw [tq, if_neg (by decide)] at HT2
      rw [← unhideR HT2] at HO1
      clear HT2
      go_wp2
      exact ⟨⟨k + 1, by omega, by go_num, HO1, HB1⟩, by simp [intOf]; omega⟩
    have tq : decide (j.lo ≤ s.t - s.f) = true := decide_eq_true qe
    rw [tq, if_pos rfl] at HT2
    obtain ⟨m, hm⟩ : ∃ m, (leL j.lo (j.ws.take k)).length = m := ⟨_, rfl⟩
    have Hm := hideR hm
    rw [hm] at HO1 htl
    clear hm
    obtain ⟨ap, cp, ep⟩ := ownsRow_slice (unhideR HO1)
    subst ep
    have hz9 := alloc_last (wr.alloc (.cells #[.int .i64 s.f, .int .i64 s.t] 69)) (.cells #[.int .i64 s.f, .int .i64 s.t] 69)
    go_upto_region 6 with fail
    generalize wr.alloc (.cells #[.int .i64 s.f, .int .i64 s.t] 69) = u1 at *
    go_wp2_with (first
      | (at_builtin; refine wpList_append_own _ rfl _ _ 70 rfl u0.heap.size 69 i0 (.agg #[.int .i64 0, .int .i64 0]) 2 16 Tryd.underlying70 hi0 hz0 hz1 hz2 rfl (by decide) _ m _ rfl ((unhideR HO1).alloc _) ⟨u1.heap.size, 0, none⟩ 1 1 (valSp s) rfl rfl ?c1 ?c2 ?c3 ?c4 ?c5 ?_))
    case c1 =>
      intro jj u hu
      rw [add_pl2, Nat.zero_add]
      rcases jj with _ | _ | jj
      · rw [← hu]; exact (cells_at hz9 0 (by simp)).1
      · rw [← hu]; exact (cells_at hz9 1 (by simp)).1
      · simp [valSp] at hu
    case c2 =>
      intro u hu
      simp only [valSp, List.mem_cons, List.not_mem_nil, or_false] at hu
      rcases hu with rfl | rfl <;> rfl
    case c3 => unfold maxLen; omega
    case c4 => omega
    case c5 =>
      have := (unhideR HB1).size
      simp
      omega
    intro v6 w6 hown hgrow _
    have HB9 := hideR (((unhideR HB1).alloc (unhideR HB1).size (.cells #[.int .i64 s.f, .int .i64 s.t] 69)).grown hgrow (by have := (unhideR HB1).size; simp; omega) (fun k e => ((unhideR HO1).lt k e).1))
    have HO9 : HeldR (w6.ownsRow u0.heap.size 69 2 v6 (leL j.lo (j.ws.take (k + 1))).length (flatSp (leL j.lo (j.ws.take (k + 1))))) := hideR (by
      rw [unhideR HT2, List.length_append, unhideR Hm, flatSp_append]
      have e1 : flatSp [s] = valSp s := List.append_nil _
      rw [e1]
      exact hown)
    clear hown hgrow HO1 HB1 HT2 hz9 e0 e1 j2 c0 c1
    go_wp2
    exact ⟨⟨k + 1, by omega, by go_num, HO9, HB9⟩, by simp [intOf]; omega⟩
end Go.Proofs.YtoacdaemhcbbhaaDoor
