/-
  The document's parts of lit pixels, by contract.
-/
import Derived.Test.YtgmaganajfcpbaiDoorPureA
import Derived.Test.YtgmaganajfcpbaiDoorSpKA
import Derived.Test.YtgmaganajfcpbaiDoorSpLs
namespace Go.Proofs.YtgmaganajfcpbaiDoor
open Go Go.RowKit

set_option maxRecDepth 100000 in
set_option maxHeartbeats 12800000 in
theorem labelsOf_any {w : World} {ad : Option Addr} {cap W : Nat} {L : List Bool} (hL : LCame w ad L) (hW : 1 ≤ W) (hWb : 0 < L.length → W ≤ 65536) (hn : L.length ≤ 65536) :
    Calls Tryd.prog 19 #[.slice ad L.length cap, .int .i64 (W : Nat)] w (LbPost L W w) := by
  obtain ⟨w1, hmk, ho, hb1⟩ := make_zeroS (w := w) (n := L.length) w.heap.size (Nat.le_refl _) hn
  have HS0 : HeldR (LbS w w.heap.size L.length (List.replicate L.length 0) w1) := hideR ⟨ho, by simp, hb1⟩
  have HF0 := hideR (fst0 L)
  have HL : HeldR (∀ u, Below w.heap.size w u → LCame u ad L) := hideR (fun u k => hL.below k)
  have HEnd : HeldR (∀ V C u, OnWay L W V → Still L W V → NegTo V V.length C → LbS w w.heap.size L.length C u → LbPost L W w (.returned (.tuple #[.slice (some ⟨w.heap.size, 0, none⟩) L.length L.length, .int .i64 (rankV V L.length : Nat)])) u) := hideR (fun V C u o s q h => by
    refine ⟨_, _, _, _, rfl, labels_of o s, rank_le _ _, ?_, h.bel⟩
    rw [← q.done]
    exact h.own.row)
  generalize hC0 : List.replicate L.length (0 : Int) = C0 at *
  obtain ⟨n, hnn⟩ : ∃ n, L.length = n := ⟨_, rfl⟩
  have HN := hideR hnn
  rw [hnn] at hmk HS0 HEnd hn hWb ⊢
  have HWb := hideR hWb
  clear ho hb1 hL hC0 hnn hWb
  go_enter Tryd.func19, Tryd.ntmps19
  go_wp2
  clear hmk
  generalize w.heap.size = g at *
  go_loopw [8] (fun iv wl => ∃ (i : Nat) (C : List Int), i ≤ n ∧ iv = .int .i64 (i : Nat) ∧ HeldR (LbS w g n C wl) ∧ HeldR (Fst L i C)) (fun iv _ => 100000 - (intOf iv).toNat)
  case atStart => exact ⟨0, C0, by omega, rfl, HS0, HF0⟩
  case round =>
    clear HS0 HF0
    obtain ⟨i, C, hin, rfl, HS, HF⟩ := hrel
    by_cases hi : i < n
    · obtain ⟨b, o, e, hb, xl⟩ := (unhideR HL wr (unhideR HS).bel).at_ i (by rw [unhideR HN]; exact hi)
      subst e
      obtain ⟨xo, fo⟩ := (unhideR HS).own.has (unhideR HS).len hi
      have HS2 := hideR ((unhideR HS).put i ((i : Int) + 1))
      have tin : decide (i < n) = true := decide_eq_true hi
      have wi : IntKind.i64.wrap ((i : Int) + 1) = (i : Int) + 1 := iwrap (by omega) (by omega)
      generalize C.getD i 0 = x at xo
      cases hlb : litB L i with
      | true =>
        have HF2 := hideR ((unhideR HF).lit hlb)
        have xl2 : wr.cell? ⟨b, o + i, none⟩ = some (.bool true) := by rw [← hlb]; exact xl
        clear xl hlb HF HS hb
        go_wp2
        exact ⟨⟨i + 1, _, by omega, by go_num, HS2, HF2⟩, by simp [intOf]; omega⟩
      | false =>
        have HF2 := hideR ((unhideR HF).dark hlb)
        have xl2 : wr.cell? ⟨b, o + i, none⟩ = some (.bool false) := by rw [← hlb]; exact xl
        clear xl hlb HF HS2 hb
        go_wp2
        exact ⟨⟨i + 1, _, by omega, by go_num, HS, HF2⟩, by simp [intOf]; omega⟩
    · obtain rfl : n = i := by omega
      have HO0 : HeldR (OnWay L W C) := hideR (by
        have := unhideR HF
        rw [← unhideR HN] at this
        exact this.way)
      have HT0 : HeldR ((true : Bool) = false → Still L W C) := hideR (fun q => by cases q)
      have tin : decide (n < n) = false := decide_eq_false hi
      clear HF
      go_wp2
      clear tin
      go_loopw [9] (fun av wl => ∃ (ag : Bool) (C : List Int), av = .bool ag ∧ HeldR (LbS w g n C wl) ∧ HeldR (OnWay L W C) ∧ HeldR (ag = false → Still L W C)) (fun av wl => 2 * rowSum wl g + oneB av)
      case atStart => exact ⟨true, C, rfl, HS, HO0, HT0⟩
      case round =>
        clear HS HO0 HT0
        obtain ⟨ag, C, rfl, HS, HO, HT⟩ := hrel
        cases ag with
        | true =>
          obtain ⟨S0, hS0⟩ : ∃ S0, rowSum wr g = S0 := ⟨_, rfl⟩
          have HM0 : HeldR (rowSum wr g + (if (false : Bool) = true then 1 else 0) ≤ S0) := hideR (by rw [hS0]; simp)
          have HS0 := hideR hS0
          clear HT hS0
          go_wp2
          go_loopw [9, 10] (fun av iv wl => ∃ (i : Nat) (ag : Bool) (C : List Int), i ≤ n ∧ iv = .int .i64 (i : Nat) ∧ av = .bool ag ∧ HeldR (LbS w g n C wl) ∧ HeldR (OnWay L W C) ∧ HeldR (ag = false → StillTo L W C i) ∧ HeldR (rowSum wl g + (if ag = true then 1 else 0) ≤ S0)) (fun _ iv _ => 100000 - (intOf iv).toNat)
          case atStart => exact ⟨0, false, C, by omega, rfl, rfl, HS, HO, hideR (fun _ => still0 L W C), HM0⟩
          case round =>
            clear HS HO HM0
            obtain ⟨i, ag, C, hin, rfl, rfl, HS, HO, HT, HM⟩ := hrel
            by_cases hi : i < n
            · obtain ⟨xo, fo⟩ := (unhideR HS).own.has (unhideR HS).len hi
              have tin : decide (i < n) = true := decide_eq_true hi
              have wi : IntKind.i64.wrap ((i : Int) + 1) = (i : Int) + 1 := iwrap (by omega) (by omega)
              cases hlb : litB L i with
              | false =>
                have HT2 : HeldR (ag = false → StillTo L W C (i + 1)) := hideR (fun q => (unhideR HT q).dark hlb)
                rw [(unhideR HO).dark i hlb] at xo
                clear HT hlb
                go_wp2
                exact ⟨⟨i + 1, ag, C, by omega, by go_num, rfl, HS, HO, HT2, HM⟩, by simp [intOf]; omega⟩
              | true =>
                have hls := least_any (W := W) (cap := n) (i := i) (unhideR HS).own.row (by rw [(unhideR HS).len]; exact hi) hW (by have := unhideR HWb (by omega); omega) (by rw [(unhideR HS).len]; omega)
                rw [(unhideR HS).len] at hls
                have hpos := (unhideR HO).pos.2 hlb
                have HLit := hideR hlb
                obtain ⟨x, hx⟩ : ∃ x, C.getD i 0 = x := ⟨_, rfl⟩
                rw [hx] at xo hpos
                have HX := hideR hx
                have hx0 : x ≠ 0 := by omega
                have hx1 : decide (x = 0) = false := decide_eq_false hx0
                clear hlb hx
                go_wp2_with fail
                refine hls.mono ?_
                rintro e w2 ⟨m, rfl, hm, rfl⟩
                clear hls
                by_cases hlt : m < x
                · have hO2 := (unhideR HO).least (unhideR HLit) hm (by rw [unhideR HX]; exact hlt)
                  have HO2 := hideR hO2.1
                  have HS2 := hideR ((unhideR HS).put i m)
                  have HM2 : HeldR (rowSum (w2.setCell ⟨g, i, none⟩ (.int .i64 m)) g + (if (true : Bool) = true then 1 else 0) ≤ S0) := hideR (by
                    have h1 := unhideR HM
                    rw [(unhideR HS).own.sum (unhideR HS).len] at h1
                    rw [(unhideR HS2).own.sum (unhideR HS2).len, if_pos rfl]
                    have h2 := sum_set (C := C) (i := i) (x := m) (by rw [(unhideR HS).len]; exact hi) hO2.2 (by rw [unhideR HX]; exact hlt)
                    omega)
                  have HT2 : HeldR ((true : Bool) = false → StillTo L W (C.set i m) (i + 1)) := hideR (fun q => by cases q)
                  clear hO2 HO HM HT HX HLit hm HS
                  go_wp2
                  exact ⟨⟨i + 1, true, _, by omega, by go_num, rfl, HS2, HO2, HT2, HM2⟩, by simp [intOf]; omega⟩
                · have HT2 : HeldR (ag = false → StillTo L W C (i + 1)) := hideR (fun q => (unhideR HT q).least (unhideR HO) hm (by rw [unhideR HX]; exact hlt))
                  clear HT HX HLit hm
                  go_wp2
                  exact ⟨⟨i + 1, ag, C, by omega, by go_num, rfl, HS, HO, HT2, HM⟩, by simp [intOf]; omega⟩
            · obtain rfl : n = i := by omega
              have tin : decide (n < n) = false := decide_eq_false hi
              have HT2 : HeldR (ag = false → Still L W C) := hideR (fun q => by
                have := unhideR HT q
                rw [← unhideR HN] at this
                exact this.all)
              clear HT
              go_wp2
              refine ⟨⟨ag, C, rfl, HS, HO, HT2⟩, ?_⟩
              have h1 := unhideR HM
              have h2 := unhideR HS0
              cases ag
              · simp [oneB] at h1 ⊢
                omega
              · simp [oneB] at h1 ⊢
                omega
        | false =>
          have HSti := hideR (unhideR HT rfl)
          have HV := hideR (mid0 (unhideR HO))
          have HVl : HeldR (C.length = n) := hideR (unhideR HS).len
          clear HT
          go_wp2
          go_loopw [12, 13] (fun pv iv wl => ∃ (i : Nat) (D : List Int), i ≤ n ∧ pv = .int .i64 (rankV C i : Nat) ∧ iv = .int .i64 (i : Nat) ∧ HeldR (LbS w g n D wl) ∧ HeldR (Mid C i 0 D)) (fun _ iv _ => 100000 - (intOf iv).toNat)
          case atStart => exact ⟨0, C, by omega, rfl, rfl, HS, HV⟩
          case round =>
            clear HS HV
            obtain ⟨i, D, hin, rfl, rfl, HS, HV⟩ := hrel
            have hrk := rank_le C i
            by_cases hi : i < n
            · obtain ⟨xo, fo⟩ := (unhideR HS).own.has (unhideR HS).len hi
              have tin : decide (i < n) = true := decide_eq_true hi
              have wi : IntKind.i64.wrap ((i : Int) + 1) = (i : Int) + 1 := iwrap (by omega) (by omega)
              have HVo := hideR ((unhideR HV).own (unhideR HO))
              by_cases hr : C.getD i 0 = (i : Int) + 1
              · rw [(unhideR HVo).is.2 hr] at xo
                have hrn := rank_yes hr
                obtain ⟨p, hp⟩ : ∃ p, rankV C i = p := ⟨_, rfl⟩
                rw [hp] at hrk hrn ⊢
                have wp : IntKind.i64.wrap ((p : Int) + 1) = (p : Int) + 1 := iwrap (by omega) (by omega)
                have wq : IntKind.i64.wrap (-((p : Int) + 1)) = -((p : Int) + 1) := iwrap (by omega) (by omega)
                have HP : HeldR (((rankV C (i + 1) : Nat) : Int) = (p : Int) + 1) := hideR (by rw [hrn]; omega)
                clear hp hrn HV hr
                go_wp2
                go_loopw [14] (fun kv wl => ∃ (k : Nat) (D : List Int), k ≤ n ∧ kv = .int .i64 (k : Nat) ∧ HeldR (LbS w g n D wl) ∧ HeldR (Mid C i k D)) (fun kv _ => 100000 - (intOf kv).toNat)
                case atStart => exact ⟨i, D, by omega, rfl, HS, HVo⟩
                case round =>
                  clear HS HVo xo fo
                  obtain ⟨k, D, hkn, rfl, HS, HV⟩ := hrel
                  by_cases hk : k < n
                  · obtain ⟨xo, fo⟩ := (unhideR HS).own.has (unhideR HS).len hk
                    have tkn : decide (k < n) = true := decide_eq_true hk
                    have wk : IntKind.i64.wrap ((k : Int) + 1) = (k : Int) + 1 := iwrap (by omega) (by omega)
                    by_cases hq : C.getD k 0 = (i : Int) + 1
                    · rw [(unhideR HV).is.2 hq] at xo
                      have HV2 := hideR ((unhideR HV).put (by rw [unhideR HVl]; exact hk) hq)
                      rw [unhideR HP] at HV2
                      have HS2 := hideR ((unhideR HS).put k (-((p : Int) + 1)))
                      clear HV HS hq
                      go_wp2
                      exact ⟨⟨k + 1, _, by omega, by go_num, HS2, HV2⟩, by simp [intOf]; omega⟩
                    · obtain ⟨x, hx⟩ : ∃ x, D.getD k 0 = x := ⟨_, rfl⟩
                      have hne : x ≠ (i : Int) + 1 := fun q => hq ((unhideR HV).is.1 (hx.trans q))
                      have hnd : decide (x = (i : Int) + 1) = false := decide_eq_false hne
                      rw [hx] at xo
                      have HV2 := hideR ((unhideR HV).skip hq)
                      clear HV hx hq wp wq hnd
                      go_wp2
                      exact ⟨⟨k + 1, _, by omega, by go_num, HS, HV2⟩, by simp [intOf]; omega⟩
                  · obtain rfl : n = k := by omega
                    have tkn : decide (n < n) = false := decide_eq_false hk
                    have HV2 : HeldR (Mid C (i + 1) 0 D) := hideR (by
                      have := unhideR HV
                      rw [← unhideR HVl] at this
                      exact this.next)
                    clear HV
                    go_wp2
                    exact ⟨⟨i + 1, D, by omega, by rw [unhideR HP], by go_num, HS, HV2⟩, by simp [intOf]; omega⟩
              · obtain ⟨x, hx⟩ : ∃ x, D.getD i 0 = x := ⟨_, rfl⟩
                have hne : x ≠ (i : Int) + 1 := fun q => hr ((unhideR HVo).is.1 (hx.trans q))
                have hnd : decide (x = (i : Int) + 1) = false := decide_eq_false hne
                rw [hx] at xo
                have HV2 := hideR ((unhideR HV).none (unhideR HO) (unhideR HSti) hr)
                have HRn := hideR (rank_no hr)
                clear HV HVo hx hr
                go_wp2
                exact ⟨⟨i + 1, D, by omega, by rw [unhideR HRn], by go_num, HS, HV2⟩, by simp [intOf]; omega⟩
            · obtain rfl : n = i := by omega
              have tin : decide (n < n) = false := decide_eq_false hi
              have HG0 : HeldR (NegTo C 0 D) := hideR (by
                have := unhideR HV
                rw [← unhideR HVl] at this
                exact this.neg (unhideR HO))
              clear HV
              go_wp2
              clear tin
              go_loopw [15] (fun iv wl => ∃ (i : Nat) (D : List Int), i ≤ n ∧ iv = .int .i64 (i : Nat) ∧ HeldR (LbS w g n D wl) ∧ HeldR (NegTo C i D)) (fun iv _ => 100000 - (intOf iv).toNat)
              case atStart => exact ⟨0, D, by omega, rfl, HS, HG0⟩
              case round =>
                clear HS HG0
                obtain ⟨i, D, hin, rfl, HS, HG⟩ := hrel
                by_cases hi : i < n
                · obtain ⟨xo, fo⟩ := (unhideR HS).own.has (unhideR HS).len hi
                  have tin : decide (i < n) = true := decide_eq_true hi
                  have wi : IntKind.i64.wrap ((i : Int) + 1) = (i : Int) + 1 := iwrap (by omega) (by omega)
                  obtain ⟨hg2, hg3⟩ := (unhideR HG).put (by rw [unhideR HVl]; exact hi)
                  have hl1 := num_nat C i
                  have hl2 := num_le (j := i) (unhideR HO)
                  rw [unhideR HVl] at hl2
                  rw [hg3] at xo
                  have HG2 := hideR hg2
                  clear hg2 hg3 HG
                  generalize numV2 C i = x at *
                  have wx : IntKind.i64.wrap x = x := iwrap (by omega) (by omega)
                  have wx2 : - - x = x := Int.neg_neg x
                  have HS2 := hideR ((unhideR HS).put i x)
                  clear HS
                  go_wp2
                  exact ⟨⟨i + 1, _, by omega, by go_num, HS2, HG2⟩, by simp [intOf]; omega⟩
                · obtain rfl : n = i := by omega
                  have tin : decide (n < n) = false := decide_eq_false hi
                  have HF : HeldR (LbPost L W w (.returned (.tuple #[.slice (some ⟨g, 0, none⟩) n n, .int .i64 (rankV C n : Nat)])) wr) := hideR (unhideR HEnd C D wr (unhideR HO) (unhideR HSti) (by rw [unhideR HVl]; exact unhideR HG) (unhideR HS))
                  clear HG HS
                  go_wp2
                  go_ret2
                  exact unhideR HF
end Go.Proofs.YtgmaganajfcpbaiDoor
