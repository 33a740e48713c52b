/-
  The document's spots, by contract.
-/
import Derived.Test.YtgmaganajfcpbaiDoorSpF1
import Derived.Deep.CutRange
namespace Go.Proofs.YtgmaganajfcpbaiDoor
open Go Go.RowKit

def findE (p : Pic) (t o l : Int) : Int := if groundE p t ≠ 0 then groundE p t else if o < 0 ∨ l < 1 then 5 else 0
def SpPost (p : Pic) (t o l : Int) (w : World) (e : Ending) (w' : World) : Prop := ∃ (v : Value) (X : List Sta), e = .returned (.tuple #[v, .int .i64 (findE p t o l)]) ∧ SxSl w' v X ∧ (findE p t o l ≠ 0 → X = []) ∧ (findE p t o l = 0 → ∃ lab parts, IsLabels (litV p t.toNat o) p.wide.toNat lab parts ∧ X = (spotsV lab (overV p t.toNat) p.wide.toNat p.high.toNat l parts).map starOf) ∧ Below w.heap.size w w'
theorem sp_none {p : Pic} {t o l E : Int} {w w' : World} (h : findE p t o l = E) (h0 : E ≠ 0) (k : Below w.heap.size w w') : SpPost p t o l w (.returned (.tuple #[.slice none 0 0, .int .i64 E])) w' :=
  ⟨_, [], by rw [h], .nil, fun _ => rfl, fun q => absurd (h.symm.trans q) h0, k⟩
theorem spots_len (lab ov : List Int) (W H : Nat) (least : Int) : ∀ n, (spotsV lab ov W H least n).length ≤ n
  | 0 => Nat.le_refl _
  | n + 1 => by
    have := spots_len lab ov W H least n
    unfold spotsV
    split
    · omega
    · rw [(place_perm _ _).length_eq, List.length_append]
      simp
      exact this
def sb0 : Obj := .cells #[.int .i64 0, .int .i64 0, .int .i64 0, .int .i64 0, .int .i64 0, .int .i64 0, .int .i64 0, .int .i64 0, .int .i64 0] 63
theorem nine_set {v : World} {gs : Nat} {a0 a1 a2 a3 a4 a5 a6 a7 a8 : Int} (h5 : v.heap[gs]? = some sb0) : (((((((((v.setCell ⟨gs, 0, none⟩ (.int .i64 a0)).setCell ⟨gs, 1, none⟩ (.int .i64 a1)).setCell ⟨gs, 2, none⟩ (.int .i64 a2)).setCell ⟨gs, 3, none⟩ (.int .i64 a3)).setCell ⟨gs, 4, none⟩ (.int .i64 a4)).setCell ⟨gs, 5, none⟩ (.int .i64 a5)).setCell ⟨gs, 6, none⟩ (.int .i64 a6)).setCell ⟨gs, 7, none⟩ (.int .i64 a7)).setCell ⟨gs, 8, none⟩ (.int .i64 a8)).heap[gs]? = some (.cells #[.int .i64 a0, .int .i64 a1, .int .i64 a2, .int .i64 a3, .int .i64 a4, .int .i64 a5, .int .i64 a6, .int .i64 a7, .int .i64 a8] 63) := by
  unfold sb0 at h5
  have g0 : (v.setCell ⟨gs, 0, none⟩ (.int .i64 a0)).heap[gs]? = some (.cells #[.int .i64 a0, .int .i64 0, .int .i64 0, .int .i64 0, .int .i64 0, .int .i64 0, .int .i64 0, .int .i64 0, .int .i64 0] 63) := heap_setCell_same _ gs 0 _ _ _ h5
  have g1 : ((v.setCell ⟨gs, 0, none⟩ (.int .i64 a0)).setCell ⟨gs, 1, none⟩ (.int .i64 a1)).heap[gs]? = some (.cells #[.int .i64 a0, .int .i64 a1, .int .i64 0, .int .i64 0, .int .i64 0, .int .i64 0, .int .i64 0, .int .i64 0, .int .i64 0] 63) := heap_setCell_same _ gs 1 _ _ _ g0
  have g2 : (((v.setCell ⟨gs, 0, none⟩ (.int .i64 a0)).setCell ⟨gs, 1, none⟩ (.int .i64 a1)).setCell ⟨gs, 2, none⟩ (.int .i64 a2)).heap[gs]? = some (.cells #[.int .i64 a0, .int .i64 a1, .int .i64 a2, .int .i64 0, .int .i64 0, .int .i64 0, .int .i64 0, .int .i64 0, .int .i64 0] 63) := heap_setCell_same _ gs 2 _ _ _ g1
  have g3 : ((((v.setCell ⟨gs, 0, none⟩ (.int .i64 a0)).setCell ⟨gs, 1, none⟩ (.int .i64 a1)).setCell ⟨gs, 2, none⟩ (.int .i64 a2)).setCell ⟨gs, 3, none⟩ (.int .i64 a3)).heap[gs]? = some (.cells #[.int .i64 a0, .int .i64 a1, .int .i64 a2, .int .i64 a3, .int .i64 0, .int .i64 0, .int .i64 0, .int .i64 0, .int .i64 0] 63) := heap_setCell_same _ gs 3 _ _ _ g2
  have g4 : (((((v.setCell ⟨gs, 0, none⟩ (.int .i64 a0)).setCell ⟨gs, 1, none⟩ (.int .i64 a1)).setCell ⟨gs, 2, none⟩ (.int .i64 a2)).setCell ⟨gs, 3, none⟩ (.int .i64 a3)).setCell ⟨gs, 4, none⟩ (.int .i64 a4)).heap[gs]? = some (.cells #[.int .i64 a0, .int .i64 a1, .int .i64 a2, .int .i64 a3, .int .i64 a4, .int .i64 0, .int .i64 0, .int .i64 0, .int .i64 0] 63) := heap_setCell_same _ gs 4 _ _ _ g3
  have g5 : ((((((v.setCell ⟨gs, 0, none⟩ (.int .i64 a0)).setCell ⟨gs, 1, none⟩ (.int .i64 a1)).setCell ⟨gs, 2, none⟩ (.int .i64 a2)).setCell ⟨gs, 3, none⟩ (.int .i64 a3)).setCell ⟨gs, 4, none⟩ (.int .i64 a4)).setCell ⟨gs, 5, none⟩ (.int .i64 a5)).heap[gs]? = some (.cells #[.int .i64 a0, .int .i64 a1, .int .i64 a2, .int .i64 a3, .int .i64 a4, .int .i64 a5, .int .i64 0, .int .i64 0, .int .i64 0] 63) := heap_setCell_same _ gs 5 _ _ _ g4
  have g6 : (((((((v.setCell ⟨gs, 0, none⟩ (.int .i64 a0)).setCell ⟨gs, 1, none⟩ (.int .i64 a1)).setCell ⟨gs, 2, none⟩ (.int .i64 a2)).setCell ⟨gs, 3, none⟩ (.int .i64 a3)).setCell ⟨gs, 4, none⟩ (.int .i64 a4)).setCell ⟨gs, 5, none⟩ (.int .i64 a5)).setCell ⟨gs, 6, none⟩ (.int .i64 a6)).heap[gs]? = some (.cells #[.int .i64 a0, .int .i64 a1, .int .i64 a2, .int .i64 a3, .int .i64 a4, .int .i64 a5, .int .i64 a6, .int .i64 0, .int .i64 0] 63) := heap_setCell_same _ gs 6 _ _ _ g5
  have g7 : ((((((((v.setCell ⟨gs, 0, none⟩ (.int .i64 a0)).setCell ⟨gs, 1, none⟩ (.int .i64 a1)).setCell ⟨gs, 2, none⟩ (.int .i64 a2)).setCell ⟨gs, 3, none⟩ (.int .i64 a3)).setCell ⟨gs, 4, none⟩ (.int .i64 a4)).setCell ⟨gs, 5, none⟩ (.int .i64 a5)).setCell ⟨gs, 6, none⟩ (.int .i64 a6)).setCell ⟨gs, 7, none⟩ (.int .i64 a7)).heap[gs]? = some (.cells #[.int .i64 a0, .int .i64 a1, .int .i64 a2, .int .i64 a3, .int .i64 a4, .int .i64 a5, .int .i64 a6, .int .i64 a7, .int .i64 0] 63) := heap_setCell_same _ gs 7 _ _ _ g6
  have g8 : (((((((((v.setCell ⟨gs, 0, none⟩ (.int .i64 a0)).setCell ⟨gs, 1, none⟩ (.int .i64 a1)).setCell ⟨gs, 2, none⟩ (.int .i64 a2)).setCell ⟨gs, 3, none⟩ (.int .i64 a3)).setCell ⟨gs, 4, none⟩ (.int .i64 a4)).setCell ⟨gs, 5, none⟩ (.int .i64 a5)).setCell ⟨gs, 6, none⟩ (.int .i64 a6)).setCell ⟨gs, 7, none⟩ (.int .i64 a7)).setCell ⟨gs, 8, none⟩ (.int .i64 a8)).heap[gs]? = some (.cells #[.int .i64 a0, .int .i64 a1, .int .i64 a2, .int .i64 a3, .int .i64 a4, .int .i64 a5, .int .i64 a6, .int .i64 a7, .int .i64 a8] 63) := heap_setCell_same _ gs 8 _ _ _ g7
  exact g8
theorem nine_low {w v : World} {B gs : Nat} {a0 a1 a2 a3 a4 a5 a6 a7 a8 : Int} (h : Below B w v) (hg : B ≤ gs) : Below B w (((((((((v.setCell ⟨gs, 0, none⟩ (.int .i64 a0)).setCell ⟨gs, 1, none⟩ (.int .i64 a1)).setCell ⟨gs, 2, none⟩ (.int .i64 a2)).setCell ⟨gs, 3, none⟩ (.int .i64 a3)).setCell ⟨gs, 4, none⟩ (.int .i64 a4)).setCell ⟨gs, 5, none⟩ (.int .i64 a5)).setCell ⟨gs, 6, none⟩ (.int .i64 a6)).setCell ⟨gs, 7, none⟩ (.int .i64 a7)).setCell ⟨gs, 8, none⟩ (.int .i64 a8)) :=
  ((((((((h.setCell hg _).setCell hg _).setCell hg _).setCell hg _).setCell hg _).setCell hg _).setCell hg _).setCell hg _).setCell hg _
theorem three_more {u : World} {gs : Nat} {s : Sp} {x y z : Int} (h : SbAt u gs s) : (((u.setCell ⟨gs, 6, none⟩ (.int .i64 x)).setCell ⟨gs, 7, none⟩ (.int .i64 y)).setCell ⟨gs, 8, none⟩ (.int .i64 z)).heap[gs]? = some (.cells #[.int .i64 s.le, .int .i64 s.tp, .int .i64 s.ri, .int .i64 s.lo, .int .i64 s.px, .int .i64 s.li, .int .i64 x, .int .i64 y, .int .i64 z] 63) := by
  have g6 : (u.setCell ⟨gs, 6, none⟩ (.int .i64 x)).heap[gs]? = some (.cells #[.int .i64 s.le, .int .i64 s.tp, .int .i64 s.ri, .int .i64 s.lo, .int .i64 s.px, .int .i64 s.li, .int .i64 x, .int .i64 0, .int .i64 0] 63) := heap_setCell_same _ gs 6 _ _ _ h
  have g7 : ((u.setCell ⟨gs, 6, none⟩ (.int .i64 x)).setCell ⟨gs, 7, none⟩ (.int .i64 y)).heap[gs]? = some (.cells #[.int .i64 s.le, .int .i64 s.tp, .int .i64 s.ri, .int .i64 s.lo, .int .i64 s.px, .int .i64 s.li, .int .i64 x, .int .i64 y, .int .i64 0] 63) := heap_setCell_same _ gs 7 _ _ _ g6
  exact heap_setCell_same _ gs 8 _ _ _ g7
theorem ground_ok {p : Pic} {t : Int} (h : groundE p t = 0) : PicOk p ∧ 1 ≤ t ∧ t ≤ 256 := by
  unfold groundE at h
  by_cases e : picE p = 0
  · rw [if_neg (by simpa using e)] at h
    by_cases q : t < 1 ∨ 256 < t
    · rw [if_pos q] at h; cases h
    · exact ⟨pic_ok e, by omega, by omega⟩
  · rw [if_pos e] at h
    exact absurd h e
theorem ground_pos {p : Pic} {t : Int} (h : groundE p t ≠ 0) : 0 < groundE p t := by
  have := picE_range p
  unfold groundE at *
  split at h
  · rename_i q
    rw [if_pos q]
    omega
  · rename_i q
    rw [if_neg q]
    split
    · omega
    · rename_i q2
      rw [if_neg q2] at h
      exact absurd rfl h
set_option maxRecDepth 100000 in
set_option maxHeartbeats 12800000 in
theorem spotsOf_any {w : World} {b o cap : Nat} {ad : Option Addr} {p : Pic} (h : PicAt w b o ad cap p) (hl : p.L.length * 8 ≤ 140737488355328) (tile over least : Int) :
    Calls Tryd.prog 21 #[.pointer (some ⟨b, o, none⟩), .int .i64 tile, .int .i64 over, .int .i64 least] w (SpPost p tile over least w) := by
  have hgr := groundOf_any h hl tile
  by_cases e0 : groundE p tile = 0
  case neg =>
    have hE : findE p tile over least = groundE p tile := by unfold findE; rw [if_pos e0]
    have HF : HeldR (∀ u, Below w.heap.size w u → SpPost p tile over least w (.returned (.tuple #[.slice none 0 0, .int .i64 (groundE p tile)])) u) := hideR (fun u k => sp_none hE e0 k)
    have hp0 := ground_pos e0
    unfold GrPost at hgr
    generalize groundE p tile = E at *
    clear h hE
    go_enter Tryd.func21, Tryd.ntmps21
    go_wp2_with fail
    refine hgr.mono ?_
    rintro e w1 ⟨X, ag, gc, rfl, _, _, _, k1⟩
    have HF2 := hideR (unhideR HF w1 k1)
    clear HF hgr k1
    go_wp2
    go_ret2
    exact unhideR HF2
  case pos =>
  obtain ⟨hok, ht1, ht2⟩ := ground_ok e0
  by_cases hs : over < 0 ∨ least < 1
  case pos =>
    have hE : findE p tile over least = 5 := by unfold findE; rw [if_neg (by simpa using e0), if_pos hs]
    have HF : HeldR (∀ u, Below w.heap.size w u → SpPost p tile over least w (.returned (.tuple #[.slice none 0 0, .int .i64 5])) u) := hideR (fun u k => sp_none hE (by decide) k)
    unfold GrPost at hgr
    rw [e0] at hgr
    clear h hE hok
    by_cases hs1 : over < 0
    · have t1 : decide (over < 0) = true := decide_eq_true hs1
      clear hs
      go_enter Tryd.func21, Tryd.ntmps21
      go_wp2_with fail
      refine hgr.mono ?_
      rintro e w1 ⟨X, ag, gc, rfl, _, _, _, k1⟩
      have HF2 := hideR (unhideR HF w1 k1)
      clear HF hgr k1
      go_wp2
      go_ret2
      exact unhideR HF2
    · have t1 : decide (over < 0) = false := decide_eq_false hs1
      have hs2 : least < 1 := by omega
      have t2 : decide (least < 1) = true := decide_eq_true hs2
      clear hs
      go_enter Tryd.func21, Tryd.ntmps21
      go_wp2_with fail
      refine hgr.mono ?_
      rintro e w1 ⟨X, ag, gc, rfl, _, _, _, k1⟩
      have HF2 := hideR (unhideR HF w1 k1)
      clear HF hgr k1
      go_wp2
      go_ret2
      exact unhideR HF2
  case neg =>
  have hE : findE p tile over least = 0 := by unfold findE; rw [if_neg (by simpa using e0), if_neg hs]
  obtain ⟨t, rfl⟩ : ∃ t : Nat, tile = (t : Nat) := ⟨tile.toNat, by omega⟩
  have s1 : ¬ over < 0 := fun q => hs (.inl q)
  have s2 : ¬ least < 1 := fun q => hs (.inr q)
  have t1 : decide (over < 0) = false := decide_eq_false s1
  have t2 : decide (least < 1) = false := decide_eq_false s2
  have HEnd : HeldR (∀ (v : Value) (u : World) lab parts, IsLabels (litV p t over) p.wide.toNat lab parts → SxSl u v ((spotsV lab (overV p t) p.wide.toNat p.high.toNat least parts).map starOf) → Below w.heap.size w u → SpPost p (t : Nat) over least w (.returned (.tuple #[v, .int .i64 0])) u) := hideR (fun v u lab parts il hx k => ⟨v, _, by rw [hE], hx, fun q => absurd hE q, fun _ => ⟨lab, parts, il, rfl⟩, k⟩)
  have HOv : HeldR (∀ u, Below w.heap.size w u → Calls Tryd.prog 17 #[.pointer (some ⟨b, o, none⟩), .int .i64 (t : Nat)] u (OvPost p t u)) := hideR (fun u k => overGround_any (h.below k) hok t (by omega) (by omega))
  have HP := hideR h
  have HHi : HeldR (∀ i, i < p.high.toNat * p.wide.toNat → (overV p t).getD i 0 ≤ 65535) := hideR (fun i hi => over_hi hok (by omega) hi)
  have HLa : HeldR (∀ i, i < p.high.toNat * p.wide.toNat → (litV p t over).getD i false = decide (over < (overV p t).getD i 0)) := hideR (fun i hi => lit_at hi)
  have hlo := over_len p t
  have hll := lit_len p t over
  have q1 := hok.w1
  have q2 := hok.w2
  have q3 := hok.h1
  have q4 := hok.h2
  obtain ⟨W, hW⟩ : ∃ W : Nat, p.wide = (W : Nat) := ⟨p.wide.toNat, by omega⟩
  obtain ⟨H, hH⟩ : ∃ H : Nat, p.high = (H : Nat) := ⟨p.high.toNat, by omega⟩
  have hW2 : p.wide.toNat = W := by omega
  have hH2 : p.high.toNat = H := by omega
  have HCe : HeldR (∀ u, Below w.heap.size w u → u.cell? ⟨b, o, none⟩ = some (.int .i64 (W : Nat)) ∧ u.cell? ⟨b, o + 1, none⟩ = some (.int .i64 (H : Nat))) := hideR (fun u k => by
    have := (h.below k)
    rw [← hW, ← hH]
    exact ⟨this.c0, this.c1⟩)
  rw [hW2, hH2] at HEnd
  rw [hW2, hH2] at HHi HLa hlo hll
  rw [hW] at q1 q2
  rw [hH] at q3 q4
  obtain ⟨n, hn⟩ : ∃ n, H * W = n := ⟨_, rfl⟩
  have hnb : n ≤ 65536 := by
    rw [← hn]
    have := Nat.mul_le_mul (show H ≤ 256 by omega) (show W ≤ 256 by omega)
    omega
  have HXY : HeldR (∀ i, i < n → i % W ≤ 255 ∧ i / W ≤ 255) := hideR (fun i hi => by
    have h1 := Nat.mod_lt i (show W > 0 by omega)
    have h2 : i / W < H := Nat.div_lt_of_lt_mul (by rw [Nat.mul_comm, hn]; exact hi)
    omega)
  have HN0 : HeldR (0 < n) := hideR (by rw [← hn]; exact Nat.mul_pos (by omega) (by omega))
  rw [hn] at HHi HLa hlo hll
  unfold GrPost at hgr
  rw [e0] at hgr
  clear h hok hE e0 hs hn HP hW2 hH2 hW hH
  go_enter Tryd.func21, Tryd.ntmps21
  go_wp2_with fail
  refine hgr.mono ?_
  rintro e w1 ⟨X, ag, gc, rfl, _, _, _, k1⟩
  have hov := unhideR HOv w1 k1
  have HW1 := hideR k1
  clear HOv hgr k1
  go_wp2_with fail
  refine hov.mono ?_
  rintro e w2 ⟨ao, co, rfl, hvO, k2⟩
  rw [hlo]
  have HO := hideR hvO
  replace HW1 := hideR (below_go (unhideR HW1) k2)
  clear hov k2 hvO
  obtain ⟨w3, hmk, hlw⟩ := make_bools (w := w2) hnb
  have HL0 : HeldR (LOwn w2 w2.heap.size n (List.replicate n false) w3) := hideR hlw
  have HT0 : HeldR (LitTo (litV p t over) 0 (List.replicate n false)) := hideR (by rw [← hll]; exact lit0 _)
  have HOb : HeldR (∀ u, Below w2.heap.size w2 u → ICame u ao (overV p t)) := hideR (fun u k => (unhideR HO).below k)
  have HWb : HeldR (∀ u, Below w2.heap.size w2 u → Below w.heap.size w u) := hideR (fun u k => below_go (unhideR HW1) k)
  have HLO := hideR hlo
  have HLL := hideR hll
  clear hlw HO HW1 hlo hll
  go_wp2
  clear hmk
  generalize List.replicate n false = C0 at *
  generalize w2.heap.size = g at *
  go_loopw [14] (fun iv wl => ∃ (i : Nat) (C : List Bool), i ≤ n ∧ iv = .int .i64 (i : Nat) ∧ HeldR (LOwn w2 g n C wl) ∧ HeldR (LitTo (litV p t over) i C)) (fun iv _ => 100000 - (intOf iv).toNat)
  case atStart => exact ⟨0, C0, by omega, rfl, HL0, HT0⟩
  case round =>
    clear HL0 HT0
    obtain ⟨i, C, hin, rfl, HLo, HTo⟩ := hrel
    by_cases hi : i < n
    · have tin : decide (i < n) = true := decide_eq_true hi
      have wi : IntKind.i64.wrap ((i : Int) + 1) = (i : Int) + 1 := iwrap (by omega) (by omega)
      obtain ⟨bv, ov, e, _, xv⟩ := (unhideR HOb wr (unhideR HLo).bel).at_ i (by rw [unhideR HLO]; exact hi)
      subst e
      obtain ⟨xl, fl⟩ := (unhideR HLo).has hi
      have HT2 := hideR ((unhideR HTo).put (by rw [unhideR HLL]; exact hi))
      rw [unhideR HLa i hi] at HT2
      have HL2 := hideR ((unhideR HLo).put i (decide (over < (overV p t).getD i 0)))
      generalize C.getD i false = bo at xl
      generalize (overV p t).getD i 0 = x at *
      clear HTo HLo
      by_cases hx : over < x
      · have tx : decide (over < x) = true := decide_eq_true hx
        rw [tx] at HT2 HL2
        go_wp2
        exact ⟨⟨i + 1, _, by omega, by go_num, HL2, HT2⟩, by simp [intOf]; omega⟩
      · have tx : decide (over < x) = false := decide_eq_false hx
        rw [tx] at HT2 HL2
        go_wp2
        exact ⟨⟨i + 1, _, by omega, by go_num, HL2, HT2⟩, by simp [intOf]; omega⟩
    · obtain rfl : n = i := by omega
      have tin : decide (n < n) = false := decide_eq_false hi
      have HCl : HeldR (C = litV p t over) := hideR (by
        have := unhideR HTo
        rw [← unhideR HLL] at this
        exact this.done)
      have hlc := (unhideR HLo).came
      rw [unhideR HCl] at hlc
      have hlb := labelsOf_any (W := W) (cap := n) hlc (by omega) (fun _ => by omega) (by rw [unhideR HLL]; exact hnb)
      rw [unhideR HLL] at hlb
      obtain ⟨x0, _⟩ := unhideR HCe wr (unhideR HWb wr (unhideR HLo).bel)
      clear hlc HTo HCl
      go_wp2_with fail
      refine hlb.mono ?_
      rintro e w4 ⟨al, cl, lab, parts, rfl, hil, hpn, hla, k4⟩
      rw [unhideR HLL]
      have HIl := hideR hil
      have HLab := hideR hla
      have HB4 : HeldR (Below g w2 w4) := hideR ((unhideR HLo).bel.trans (k4.mono (Nat.le_of_lt (by
        exact (unhideR HLo).low (unhideR HN0)))))
      rw [unhideR HLL] at hpn
      have HG4 : HeldR (g ≤ w4.heap.size) := hideR (Nat.le_trans (Nat.le_of_lt ((unhideR HLo).low (unhideR HN0))) k4.size)
      clear hlb hil hla k4 HLo x0
      go_wp2_with fail
      go_loopw [17, 18] (fun ov kv wl => ∃ k : Nat, k ≤ parts ∧ kv = .int .i64 ((k : Int) + 1) ∧ HeldR (SxSl wl ov ((spotsV lab (overV p t) W H least k).map starOf)) ∧ HeldR (Below w4.heap.size w4 wl)) (fun _ kv _ => 100000 - (intOf kv).toNat)
      case atStart => exact ⟨0, by omega, rfl, hideR .nil, hideR (Below.refl _ _)⟩
      case round =>
        obtain ⟨k, hkp, rfl, HX, HWl⟩ := hrel
        by_cases hk : k < parts
        · have tkp : decide ((k : Int) + 1 ≤ (parts : Int)) = true := decide_eq_true (by omega)
          have tkn : decide (k + 1 ≤ parts) = true := decide_eq_true (by omega)
          have hkq : (k : Int) + 1 ≤ (parts : Int) := by omega
          have HCr : HeldR (∀ v, Below wr.heap.size wr v → v.cell? ⟨b, o, none⟩ = some (.int .i64 (W : Nat)) ∧ v.cell? ⟨b, o + 1, none⟩ = some (.int .i64 (H : Nat))) := hideR (fun v kv => unhideR HCe v (unhideR HWb v ((unhideR HB4).trans (((unhideR HWl).trans (kv.mono (unhideR HWl).size)).mono (unhideR HG4)))))
          go_wp2_with fail
          refine wp_region_new 0 #[true, true, true, true, true, true, true, true, true, true, false] [.lets (· = .pointer (some ⟨b, o, none⟩)),
            .lets (· = .pointer (some ⟨b, o, none⟩)),
            .lets (· = .pointer (some ⟨b, o, none⟩)),
            .lets (· = .int .i64 (W : Nat)),
            .lets (· = .pointer (some ⟨b, o, none⟩)),
            .lets (· = .pointer (some ⟨b, o, none⟩)),
            .lets (· = .pointer (some ⟨b, o + 1, none⟩)),
            .lets (· = .int .i64 (H : Nat)),
            .lets (· = .agg #[.int .i64 (W : Nat), .int .i64 (H : Nat), .int .i64 (-1), .int .i64 (-1), .int .i64 0, .int .i64 0, .int .i64 0, .int .i64 0, .int .i64 0]),
            .new sb0] (by kernel_rfl) (by kernel_rfl) rfl (by kernel_rfl) (by kernel_rfl) ?_
          refine lexK_step (fun K hK => ⟨by kernel_rfl, ⟨_, rfl⟩, fun v hv => ?_, fun v hv => ?_⟩)
          · go_simp
            exact mUpon_b
          subst hv
          go_simp
          refine hK _ ?_
          clear hK K
          refine lexK_step (fun K hK => ⟨by kernel_rfl, ⟨_, rfl⟩, fun v hv => ?_, fun v hv => ?_⟩)
          · go_simp
            exact mUpon_b
          subst hv
          go_simp
          refine hK _ ?_
          clear hK K
          refine lexK_step (fun K hK => ⟨by kernel_rfl, ⟨_, rfl⟩, fun v hv => ?_, fun v hv => ?_⟩)
          · go_simp
            exact mUpon_b
          subst hv
          go_simp
          refine hK _ ?_
          clear hK K
          refine lexK_step (fun K hK => ⟨by kernel_rfl, ⟨_, rfl⟩, fun v hv => ?_, fun v hv => ?_⟩)
          · obtain ⟨c0, c1⟩ := unhideR HCr v hv
            go_simp
            exact mUpon_b
          subst hv
          go_simp
          refine hK _ ?_
          clear hK K
          refine lexK_step (fun K hK => ⟨by kernel_rfl, ⟨_, rfl⟩, fun v hv => ?_, fun v hv => ?_⟩)
          · go_simp
            exact mUpon_b
          subst hv
          go_simp
          refine hK _ ?_
          clear hK K
          refine lexK_step (fun K hK => ⟨by kernel_rfl, ⟨_, rfl⟩, fun v hv => ?_, fun v hv => ?_⟩)
          · go_simp
            exact mUpon_b
          subst hv
          go_simp
          refine hK _ ?_
          clear hK K
          refine lexK_step (fun K hK => ⟨by kernel_rfl, ⟨_, rfl⟩, fun v hv => ?_, fun v hv => ?_⟩)
          · go_simp
            exact mUpon_b
          subst hv
          go_simp
          refine hK _ ?_
          clear hK K
          refine lexK_step (fun K hK => ⟨by kernel_rfl, ⟨_, rfl⟩, fun v hv => ?_, fun v hv => ?_⟩)
          · obtain ⟨c0, c1⟩ := unhideR HCr v hv
            go_simp
            exact mUpon_b
          subst hv
          go_simp
          refine hK _ ?_
          clear hK K
          refine lexK_step (fun K hK => ⟨by kernel_rfl, ⟨_, rfl⟩, fun v hv => ?_, fun v hv => ?_⟩)
          · go_simp
            exact mUpon_b
          subst hv
          go_simp
          refine hK _ ?_
          clear hK K
          refine lexK_new (fun gs fb K hK => ⟨by kernel_rfl, fun v => ?_, ?_⟩) (fin0.some _)
          · go_simp
            exact ⟨rfl, rfl⟩
          unfold ptr
          go_simp
          refine hK _ ?_
          clear hK K
          refine lexK_end (fun v hv => ?_)
          have h5 : v.heap[gs]? = some sb0 := hv.held gs sb0 (by unfold Hd.put; rw [if_pos rfl])
          have h5s := h5
          have hge := fb.ge
          have HB5 : HeldR (Below wr.heap.size wr v) := hideR hv.low
          clear hv fb
          unfold sb0 at h5
          have c0 : v.cell? ⟨gs, 0, none⟩ = some (.int .i64 0) := (cells_at h5 0 (by simp)).1
          have f0 := (cells_at h5 0 (by simp)).2
          have c1 : v.cell? ⟨gs, 1, none⟩ = some (.int .i64 0) := (cells_at h5 1 (by simp)).1
          have f1 := (cells_at h5 1 (by simp)).2
          have c2 : v.cell? ⟨gs, 2, none⟩ = some (.int .i64 0) := (cells_at h5 2 (by simp)).1
          have f2 := (cells_at h5 2 (by simp)).2
          have c3 : v.cell? ⟨gs, 3, none⟩ = some (.int .i64 0) := (cells_at h5 3 (by simp)).1
          have f3 := (cells_at h5 3 (by simp)).2
          have c4 : v.cell? ⟨gs, 4, none⟩ = some (.int .i64 0) := (cells_at h5 4 (by simp)).1
          have f4 := (cells_at h5 4 (by simp)).2
          have c5 : v.cell? ⟨gs, 5, none⟩ = some (.int .i64 0) := (cells_at h5 5 (by simp)).1
          have f5 := (cells_at h5 5 (by simp)).2
          have c6 : v.cell? ⟨gs, 6, none⟩ = some (.int .i64 0) := (cells_at h5 6 (by simp)).1
          have f6 := (cells_at h5 6 (by simp)).2
          have c7 : v.cell? ⟨gs, 7, none⟩ = some (.int .i64 0) := (cells_at h5 7 (by simp)).1
          have f7 := (cells_at h5 7 (by simp)).2
          have c8 : v.cell? ⟨gs, 8, none⟩ = some (.int .i64 0) := (cells_at h5 8 (by simp)).1
          have f8 := (cells_at h5 8 (by simp)).2
          refine wpAny_step (i := 10) (by kernel_rfl) rfl (by kernel_rfl) (fun K hK => ?_)
          unfold Oper.wp
          go_simp
          refine hK _ _ ?_
          clear hK K
          refine wpAny_end (by kernel_rfl) ?_
          have HS0 : HeldR (SbAt (((((((((v.setCell ⟨gs, 0, none⟩ (.int .i64 (W : Nat))).setCell ⟨gs, 1, none⟩ (.int .i64 (H : Nat))).setCell ⟨gs, 2, none⟩ (.int .i64 (-1))).setCell ⟨gs, 3, none⟩ (.int .i64 (-1))).setCell ⟨gs, 4, none⟩ (.int .i64 0)).setCell ⟨gs, 5, none⟩ (.int .i64 0)).setCell ⟨gs, 6, none⟩ (.int .i64 0)).setCell ⟨gs, 7, none⟩ (.int .i64 0)).setCell ⟨gs, 8, none⟩ (.int .i64 0)) gs (sp0 W H (k + 1))) := hideR (nine_set h5s)
          have HB0 : HeldR (Below wr.heap.size wr (((((((((v.setCell ⟨gs, 0, none⟩ (.int .i64 (W : Nat))).setCell ⟨gs, 1, none⟩ (.int .i64 (H : Nat))).setCell ⟨gs, 2, none⟩ (.int .i64 (-1))).setCell ⟨gs, 3, none⟩ (.int .i64 (-1))).setCell ⟨gs, 4, none⟩ (.int .i64 0)).setCell ⟨gs, 5, none⟩ (.int .i64 0)).setCell ⟨gs, 6, none⟩ (.int .i64 0)).setCell ⟨gs, 7, none⟩ (.int .i64 0)).setCell ⟨gs, 8, none⟩ (.int .i64 0))) := hideR (nine_low (unhideR HB5) hge)
          clear HB5 h5 h5s c0 f0 c1 f1 c2 f2 c3 f3 c4 f4 c5 f5 c6 f6 c7 f7 c8 f8
          generalize (((((((((v.setCell ⟨gs, 0, none⟩ (.int .i64 (W : Nat))).setCell ⟨gs, 1, none⟩ (.int .i64 (H : Nat))).setCell ⟨gs, 2, none⟩ (.int .i64 (-1))).setCell ⟨gs, 3, none⟩ (.int .i64 (-1))).setCell ⟨gs, 4, none⟩ (.int .i64 0)).setCell ⟨gs, 5, none⟩ (.int .i64 0)).setCell ⟨gs, 6, none⟩ (.int .i64 0)).setCell ⟨gs, 7, none⟩ (.int .i64 0)).setCell ⟨gs, 8, none⟩ (.int .i64 0)) = v1 at *
          generalize wr = wk at *
          have HBw : HeldR (∀ u, Below wk.heap.size wk u → Below w4.heap.size w4 u) := hideR (fun u ku => (unhideR HWl).trans (ku.mono (unhideR HWl).size))
          have HXv0 : HeldR (∀ u, Below wk.heap.size wk u → ICame u ao (overV p t)) := hideR (fun u ku => unhideR HOb u ((unhideR HB4).trans ((unhideR HBw u ku).mono (unhideR HG4))))
          have HLv0 : HeldR (∀ u, Below wk.heap.size wk u → ICame u al lab) := hideR (fun u ku => (unhideR HLab).below (unhideR HBw u ku))
          have HVv : HeldR (∀ i, i < n → lab.getD i 0 = ((k + 1 : Nat) : Int) → 1 ≤ (overV p t).getD i 0 ∧ (overV p t).getD i 0 ≤ 65535) := hideR (fun i hi e => by
            refine ⟨?_, unhideR HHi i hi⟩
            cases hlt : litB (litV p t over) i with
            | false =>
              rw [(unhideR HIl).dark i hlt] at e
              omega
            | true =>
              have h9 : (litV p t over).getD i false = true := hlt
              rw [unhideR HLa i hi] at h9
              have := of_decide_eq_true h9
              omega)
          have HE0 : HeldR (sp0 W H (k + 1) = spN lab (overV p t) W H (k + 1) 0) := hideR rfl
          have HLn : HeldR (lab.length = n) := hideR ((unhideR HIl).len.trans (unhideR HLL))
          go_wp2_with fail
          go_loopw [20, 21, 22] (fun xv yv iv wl => ∃ (i : Nat) (s : Sp), i ≤ n ∧ iv = .int .i64 (i : Nat) ∧ xv = .int .i64 s.sx ∧ yv = .int .i64 s.sy ∧ HeldR (s = spN lab (overV p t) W H (k + 1) i) ∧ HeldR (SbAt wl gs s) ∧ HeldR (Below wk.heap.size wk wl)) (fun _ _ iv _ => 100000 - (intOf iv).toNat)
          case atStart => exact ⟨0, sp0 W H (k + 1), by omega, rfl, rfl, rfl, HE0, HS0, HB0⟩
          case round =>
            clear HS0 HB0 HE0
            obtain ⟨i, s, hin, rfl, rfl, rfl, HSe, HSb, HBl⟩ := hrel
            have hbd : SpB s i := by
              rw [unhideR HSe]
              exact spN_bound (unhideR HXY) (unhideR HVv) i hin
            obtain ⟨p0, p1, l0, l1, x0, x1, y0, y1⟩ := hbd
            by_cases hi : i < n
            · have tin : decide (i < n) = true := decide_eq_true hi
              have wi : IntKind.i64.wrap ((i : Int) + 1) = (i : Int) + 1 := iwrap (by omega) (by omega)
              obtain ⟨bl, ol, e, _, xlab⟩ := (unhideR HLv0 wr (unhideR HBl)).at_ i (by rw [unhideR HLn]; exact hi)
              subst e
              by_cases hc : lab.getD i 0 = (k : Int) + 1
              · rw [hc] at xlab
                obtain ⟨bv, ov, e, _, xv⟩ := (unhideR HXv0 wr (unhideR HBl)).at_ i (by rw [unhideR HLO]; exact hi)
                subst e
                have HXv : HeldR (∀ u, Below wk.heap.size wk u → u.cell? ⟨bv, ov + i, none⟩ = some (.int .i64 ((overV p t).getD i 0))) := hideR (fun u ku => by
                  obtain ⟨b', o', e', _, h'⟩ := (unhideR HXv0 u ku).at_ i (by rw [unhideR HLO]; exact hi)
                  cases e'
                  exact h')
                obtain ⟨v0, v1'⟩ := unhideR HVv i hi (by omega)
                obtain ⟨hx, hy⟩ := unhideR HXY i hi
                have hm1 : (i : Int) % (W : Int) = ((i % W : Nat) : Int) := (Int.natCast_emod i W).symm
                have hm2 : (i : Int).tmod (W : Int) = ((i % W : Nat) : Int) := (Int.tmod_eq_emod_of_nonneg (Int.natCast_nonneg i)).trans hm1
                have hd1 : (i : Int) / (W : Int) = ((i / W : Nat) : Int) := (Int.natCast_ediv i W).symm
                have hd2 : (i : Int).tdiv (W : Int) = ((i / W : Nat) : Int) := (Int.tdiv_eq_ediv_of_nonneg (Int.natCast_nonneg i)).trans hd1
                have HStep : HeldR (∀ a b c d : Int, a = min s.le (i % W : Nat) → b = min s.tp (i / W : Nat) → c = max s.ri (i % W : Nat) → d = max s.lo (i / W : Nat) → (⟨a, b, c, d, s.px + 1, s.li + (overV p t).getD i 0, s.sx + (1024 * ((i % W : Nat) : Int) + 512) * (overV p t).getD i 0, s.sy + (1024 * ((i / W : Nat) : Int) + 512) * (overV p t).getD i 0, s.k⟩ : Sp) = spN lab (overV p t) W H (k + 1) (i + 1)) := hideR (fun a b c d ha hb hc' hd => by
                  rw [spN_next, if_pos (by rw [hc]; omega), ← unhideR HSe, ha, hb, hc', hd]
                  rfl)
                have hP1 := prod_in (x := ((i % W : Nat) : Int)) (Int.natCast_nonneg _) (Int.ofNat_le.2 hx) v0 v1'
                have hP2 := prod_in (x := ((i / W : Nat) : Int)) (Int.natCast_nonneg _) (Int.ofNat_le.2 hy) v0 v1'
                generalize i % W = x at *
                generalize i / W = y at *
                generalize (overV p t).getD i 0 = vv at *
                obtain ⟨PX, hPX⟩ : ∃ PX, (1024 * (x : Int) + 512) * vv = PX := ⟨_, rfl⟩
                obtain ⟨PY, hPY⟩ : ∃ PY, (1024 * (y : Int) + 512) * vv = PY := ⟨_, rfl⟩
                rw [hPX] at hP1 HStep
                rw [hPY] at hP2 HStep
                have wPX : IntKind.i64.wrap ((1024 * (x : Int) + 512) * vv) = PX := by rw [hPX]; exact iwrap (by omega) (by omega)
                have wPY : IntKind.i64.wrap ((1024 * (y : Int) + 512) * vv) = PY := by rw [hPY]; exact iwrap (by omega) (by omega)
                clear hPX hPY
                have wx1 : IntKind.i64.wrap (1024 * (x : Int)) = 1024 * (x : Int) := iwrap (by omega) (by omega)
                have wx2 : IntKind.i64.wrap (1024 * (x : Int) + 512) = 1024 * (x : Int) + 512 := iwrap (by omega) (by omega)
                have wy1 : IntKind.i64.wrap (1024 * (y : Int)) = 1024 * (y : Int) := iwrap (by omega) (by omega)
                have wy2 : IntKind.i64.wrap (1024 * (y : Int) + 512) = 1024 * (y : Int) + 512 := iwrap (by omega) (by omega)
                have wsx : IntKind.i64.wrap (s.sx + PX) = s.sx + PX := iwrap (by omega) (by omega)
                have wsy : IntKind.i64.wrap (s.sy + PY) = s.sy + PY := iwrap (by omega) (by omega)
                have wpx : IntKind.i64.wrap (s.px + 1) = s.px + 1 := iwrap (by omega) (by omega)
                have wli : IntKind.i64.wrap (s.li + vv) = s.li + vv := iwrap (by omega) (by omega)
                have wxx : IntKind.i64.wrap (x : Int) = (x : Int) := iwrap (by omega) (by omega)
                have wyy : IntKind.i64.wrap (y : Int) = (y : Int) := iwrap (by omega) (by omega)
                have hW0 : (W : Int) ≠ 0 := by omega
                have hW0' : W ≠ 0 := by omega
                have cw := (unhideR HCr wr (unhideR HBl)).1
                have c0 : wr.cell? ⟨gs, 0, none⟩ = some (.int .i64 s.le) := ((unhideR HSb).cell 0 (by decide)).1
                have c1 : wr.cell? ⟨gs, 1, none⟩ = some (.int .i64 s.tp) := ((unhideR HSb).cell 1 (by decide)).1
                have c2 : wr.cell? ⟨gs, 2, none⟩ = some (.int .i64 s.ri) := ((unhideR HSb).cell 2 (by decide)).1
                have c3 : wr.cell? ⟨gs, 3, none⟩ = some (.int .i64 s.lo) := ((unhideR HSb).cell 3 (by decide)).1
                have c4 : wr.cell? ⟨gs, 4, none⟩ = some (.int .i64 s.px) := ((unhideR HSb).cell 4 (by decide)).1
                have c5 : wr.cell? ⟨gs, 5, none⟩ = some (.int .i64 s.li) := ((unhideR HSb).cell 5 (by decide)).1
                have f0 := ((unhideR HSb).cell 0 (by decide)).2
                have f1 := ((unhideR HSb).cell 1 (by decide)).2
                have f2 := ((unhideR HSb).cell 2 (by decide)).2
                have f3 := ((unhideR HSb).cell 3 (by decide)).2
                have f4 := ((unhideR HSb).cell 4 (by decide)).2
                have f5 := ((unhideR HSb).cell 5 (by decide)).2
                clear HSe hc
                obtain ⟨L0, hL0⟩ : ∃ L0, min s.le (x : Int) = L0 := ⟨_, rfl⟩
                obtain ⟨T0, hT0⟩ : ∃ T0, min s.tp (y : Int) = T0 := ⟨_, rfl⟩
                obtain ⟨R0, hR0⟩ : ∃ R0, max s.ri (x : Int) = R0 := ⟨_, rfl⟩
                obtain ⟨O0, hO0⟩ : ∃ O0, max s.lo (y : Int) = O0 := ⟨_, rfl⟩
                have HE6 := hideR (unhideR HStep L0 T0 R0 O0 hL0.symm hT0.symm hR0.symm hO0.symm)
                clear HStep
                go_upto_if 111 with fail
                go_cut [20] from 84 to 163 (fun s20 wx => s20 = .int .i64 s.sx ∧ HeldR (SbAt wx gs (⟨L0, s.tp, s.ri, s.lo, s.px, s.li, s.sx, s.sy, s.k⟩ : Sp)) ∧ HeldR (Below wk.heap.size wk wx))
                case' first =>
                  by_cases g0 : (x : Int) < s.le
                  case' pos =>
                    have tg0 : decide ((x : Int) < s.le) = true := decide_eq_true g0
                    have HS2 : HeldR (SbAt (wr.setCell ⟨gs, 0, none⟩ (.int .i64 (x : Nat))) gs (⟨L0, s.tp, s.ri, s.lo, s.px, s.li, s.sx, s.sy, s.k⟩ : Sp)) := hideR (by rw [show L0 = (x : Int) by omega]; exact (unhideR HSb).le (x : Nat))
                    have HB2 : HeldR (Below wk.heap.size wk (wr.setCell ⟨gs, 0, none⟩ (.int .i64 (x : Nat)))) := hideR ((unhideR HBl).setCell hge _)
                    clear HSb HBl
                    go_wp2_with fail
                    go_meet
                    exact ⟨rfl, HS2, HB2⟩
                  case' neg =>
                    have tg0 : decide ((x : Int) < s.le) = false := decide_eq_false g0
                    have HS2 : HeldR (SbAt wr gs (⟨L0, s.tp, s.ri, s.lo, s.px, s.li, s.sx, s.sy, s.k⟩ : Sp)) := hideR (by rw [show L0 = s.le by omega]; exact unhideR HSb)
                    clear HSb
                    go_wp2_with fail
                    go_meet
                    exact ⟨rfl, HS2, HBl⟩
                clear HSb HBl
                obtain ⟨rfl, HSb, HBl⟩ := hcut
                clear c0 c1 c2 c3 c4 c5 f0 f1 f2 f3 f4 f5 cw xlab xv
                have c0 : wc.cell? ⟨gs, 0, none⟩ = some (.int .i64 L0) := ((unhideR HSb).cell 0 (by decide)).1
                have f0 := ((unhideR HSb).cell 0 (by decide)).2
                have c1 : wc.cell? ⟨gs, 1, none⟩ = some (.int .i64 s.tp) := ((unhideR HSb).cell 1 (by decide)).1
                have f1 := ((unhideR HSb).cell 1 (by decide)).2
                have c2 : wc.cell? ⟨gs, 2, none⟩ = some (.int .i64 s.ri) := ((unhideR HSb).cell 2 (by decide)).1
                have f2 := ((unhideR HSb).cell 2 (by decide)).2
                have c3 : wc.cell? ⟨gs, 3, none⟩ = some (.int .i64 s.lo) := ((unhideR HSb).cell 3 (by decide)).1
                have f3 := ((unhideR HSb).cell 3 (by decide)).2
                have c4 : wc.cell? ⟨gs, 4, none⟩ = some (.int .i64 s.px) := ((unhideR HSb).cell 4 (by decide)).1
                have f4 := ((unhideR HSb).cell 4 (by decide)).2
                have c5 : wc.cell? ⟨gs, 5, none⟩ = some (.int .i64 s.li) := ((unhideR HSb).cell 5 (by decide)).1
                have f5 := ((unhideR HSb).cell 5 (by decide)).2
                go_upto_if 117 with fail
                go_cut [20] from 84 to 163 (fun s20 wx => s20 = .int .i64 s.sx ∧ HeldR (SbAt wx gs (⟨L0, s.tp, R0, s.lo, s.px, s.li, s.sx, s.sy, s.k⟩ : Sp)) ∧ HeldR (Below wk.heap.size wk wx))
                case' first =>
                  by_cases g1 : s.ri < (x : Int)
                  case' pos =>
                    have tg1 : decide (s.ri < (x : Int)) = true := decide_eq_true g1
                    have HS2 : HeldR (SbAt (wc.setCell ⟨gs, 2, none⟩ (.int .i64 (x : Nat))) gs (⟨L0, s.tp, R0, s.lo, s.px, s.li, s.sx, s.sy, s.k⟩ : Sp)) := hideR (by rw [show R0 = (x : Int) by omega]; exact (unhideR HSb).ri (x : Nat))
                    have HB2 : HeldR (Below wk.heap.size wk (wc.setCell ⟨gs, 2, none⟩ (.int .i64 (x : Nat)))) := hideR ((unhideR HBl).setCell hge _)
                    clear HSb HBl
                    go_wp2_with fail
                    go_meet
                    exact ⟨rfl, HS2, HB2⟩
                  case' neg =>
                    have tg1 : decide (s.ri < (x : Int)) = false := decide_eq_false g1
                    have HS2 : HeldR (SbAt wc gs (⟨L0, s.tp, R0, s.lo, s.px, s.li, s.sx, s.sy, s.k⟩ : Sp)) := hideR (by rw [show R0 = s.ri by omega]; exact unhideR HSb)
                    clear HSb
                    go_wp2_with fail
                    go_meet
                    exact ⟨rfl, HS2, HBl⟩
                clear HSb HBl
                obtain ⟨rfl, HSb, HBl⟩ := hcut
                clear c0 c1 c2 c3 c4 c5 f0 f1 f2 f3 f4 f5 
                have c0 : wc.cell? ⟨gs, 0, none⟩ = some (.int .i64 L0) := ((unhideR HSb).cell 0 (by decide)).1
                have f0 := ((unhideR HSb).cell 0 (by decide)).2
                have c1 : wc.cell? ⟨gs, 1, none⟩ = some (.int .i64 s.tp) := ((unhideR HSb).cell 1 (by decide)).1
                have f1 := ((unhideR HSb).cell 1 (by decide)).2
                have c2 : wc.cell? ⟨gs, 2, none⟩ = some (.int .i64 R0) := ((unhideR HSb).cell 2 (by decide)).1
                have f2 := ((unhideR HSb).cell 2 (by decide)).2
                have c3 : wc.cell? ⟨gs, 3, none⟩ = some (.int .i64 s.lo) := ((unhideR HSb).cell 3 (by decide)).1
                have f3 := ((unhideR HSb).cell 3 (by decide)).2
                have c4 : wc.cell? ⟨gs, 4, none⟩ = some (.int .i64 s.px) := ((unhideR HSb).cell 4 (by decide)).1
                have f4 := ((unhideR HSb).cell 4 (by decide)).2
                have c5 : wc.cell? ⟨gs, 5, none⟩ = some (.int .i64 s.li) := ((unhideR HSb).cell 5 (by decide)).1
                have f5 := ((unhideR HSb).cell 5 (by decide)).2
                go_upto_if 123 with fail
                go_cut [20] from 84 to 163 (fun s20 wx => s20 = .int .i64 s.sx ∧ HeldR (SbAt wx gs (⟨L0, T0, R0, s.lo, s.px, s.li, s.sx, s.sy, s.k⟩ : Sp)) ∧ HeldR (Below wk.heap.size wk wx))
                case' first =>
                  by_cases g2 : (y : Int) < s.tp
                  case' pos =>
                    have tg2 : decide ((y : Int) < s.tp) = true := decide_eq_true g2
                    have HS2 : HeldR (SbAt (wc.setCell ⟨gs, 1, none⟩ (.int .i64 (y : Nat))) gs (⟨L0, T0, R0, s.lo, s.px, s.li, s.sx, s.sy, s.k⟩ : Sp)) := hideR (by rw [show T0 = (y : Int) by omega]; exact (unhideR HSb).tp (y : Nat))
                    have HB2 : HeldR (Below wk.heap.size wk (wc.setCell ⟨gs, 1, none⟩ (.int .i64 (y : Nat)))) := hideR ((unhideR HBl).setCell hge _)
                    clear HSb HBl
                    go_wp2_with fail
                    go_meet
                    exact ⟨rfl, HS2, HB2⟩
                  case' neg =>
                    have tg2 : decide ((y : Int) < s.tp) = false := decide_eq_false g2
                    have HS2 : HeldR (SbAt wc gs (⟨L0, T0, R0, s.lo, s.px, s.li, s.sx, s.sy, s.k⟩ : Sp)) := hideR (by rw [show T0 = s.tp by omega]; exact unhideR HSb)
                    clear HSb
                    go_wp2_with fail
                    go_meet
                    exact ⟨rfl, HS2, HBl⟩
                clear HSb HBl
                obtain ⟨rfl, HSb, HBl⟩ := hcut
                clear c0 c1 c2 c3 c4 c5 f0 f1 f2 f3 f4 f5 
                have c0 : wc.cell? ⟨gs, 0, none⟩ = some (.int .i64 L0) := ((unhideR HSb).cell 0 (by decide)).1
                have f0 := ((unhideR HSb).cell 0 (by decide)).2
                have c1 : wc.cell? ⟨gs, 1, none⟩ = some (.int .i64 T0) := ((unhideR HSb).cell 1 (by decide)).1
                have f1 := ((unhideR HSb).cell 1 (by decide)).2
                have c2 : wc.cell? ⟨gs, 2, none⟩ = some (.int .i64 R0) := ((unhideR HSb).cell 2 (by decide)).1
                have f2 := ((unhideR HSb).cell 2 (by decide)).2
                have c3 : wc.cell? ⟨gs, 3, none⟩ = some (.int .i64 s.lo) := ((unhideR HSb).cell 3 (by decide)).1
                have f3 := ((unhideR HSb).cell 3 (by decide)).2
                have c4 : wc.cell? ⟨gs, 4, none⟩ = some (.int .i64 s.px) := ((unhideR HSb).cell 4 (by decide)).1
                have f4 := ((unhideR HSb).cell 4 (by decide)).2
                have c5 : wc.cell? ⟨gs, 5, none⟩ = some (.int .i64 s.li) := ((unhideR HSb).cell 5 (by decide)).1
                have f5 := ((unhideR HSb).cell 5 (by decide)).2
                go_upto_if 129 with fail
                go_cut [20] from 84 to 163 (fun s20 wx => s20 = .int .i64 s.sx ∧ HeldR (SbAt wx gs (⟨L0, T0, R0, O0, s.px, s.li, s.sx, s.sy, s.k⟩ : Sp)) ∧ HeldR (Below wk.heap.size wk wx))
                case' first =>
                  by_cases g3 : s.lo < (y : Int)
                  case' pos =>
                    have tg3 : decide (s.lo < (y : Int)) = true := decide_eq_true g3
                    have HS2 : HeldR (SbAt (wc.setCell ⟨gs, 3, none⟩ (.int .i64 (y : Nat))) gs (⟨L0, T0, R0, O0, s.px, s.li, s.sx, s.sy, s.k⟩ : Sp)) := hideR (by rw [show O0 = (y : Int) by omega]; exact (unhideR HSb).lo (y : Nat))
                    have HB2 : HeldR (Below wk.heap.size wk (wc.setCell ⟨gs, 3, none⟩ (.int .i64 (y : Nat)))) := hideR ((unhideR HBl).setCell hge _)
                    clear HSb HBl
                    go_wp2_with fail
                    go_meet
                    exact ⟨rfl, HS2, HB2⟩
                  case' neg =>
                    have tg3 : decide (s.lo < (y : Int)) = false := decide_eq_false g3
                    have HS2 : HeldR (SbAt wc gs (⟨L0, T0, R0, O0, s.px, s.li, s.sx, s.sy, s.k⟩ : Sp)) := hideR (by rw [show O0 = s.lo by omega]; exact unhideR HSb)
                    clear HSb
                    go_wp2_with fail
                    go_meet
                    exact ⟨rfl, HS2, HBl⟩
                clear HSb HBl
                obtain ⟨rfl, HSb, HBl⟩ := hcut
                clear c0 c1 c2 c3 c4 c5 f0 f1 f2 f3 f4 f5 
                have c0 : wc.cell? ⟨gs, 0, none⟩ = some (.int .i64 L0) := ((unhideR HSb).cell 0 (by decide)).1
                have f0 := ((unhideR HSb).cell 0 (by decide)).2
                have c1 : wc.cell? ⟨gs, 1, none⟩ = some (.int .i64 T0) := ((unhideR HSb).cell 1 (by decide)).1
                have f1 := ((unhideR HSb).cell 1 (by decide)).2
                have c2 : wc.cell? ⟨gs, 2, none⟩ = some (.int .i64 R0) := ((unhideR HSb).cell 2 (by decide)).1
                have f2 := ((unhideR HSb).cell 2 (by decide)).2
                have c3 : wc.cell? ⟨gs, 3, none⟩ = some (.int .i64 O0) := ((unhideR HSb).cell 3 (by decide)).1
                have f3 := ((unhideR HSb).cell 3 (by decide)).2
                have c4 : wc.cell? ⟨gs, 4, none⟩ = some (.int .i64 s.px) := ((unhideR HSb).cell 4 (by decide)).1
                have f4 := ((unhideR HSb).cell 4 (by decide)).2
                have c5 : wc.cell? ⟨gs, 5, none⟩ = some (.int .i64 s.li) := ((unhideR HSb).cell 5 (by decide)).1
                have f5 := ((unhideR HSb).cell 5 (by decide)).2
                have HS5 : HeldR (SbAt (wc.setCell ⟨gs, 4, none⟩ (.int .i64 (s.px + 1))) gs (⟨L0, T0, R0, O0, s.px + 1, s.li, s.sx, s.sy, s.k⟩ : Sp)) := hideR ((unhideR HSb).px (s.px + 1))
                have HB5 : HeldR (Below wk.heap.size wk (wc.setCell ⟨gs, 4, none⟩ (.int .i64 (s.px + 1)))) := hideR ((unhideR HBl).setCell hge _)
                clear HSb HBl
                go_upto_region 35 with fail
                clear c0 c1 c2 c3 c4 c5 f0 f1 f2 f3 f4 f5
                generalize (wc.setCell ⟨gs, 4, none⟩ (.int .i64 (s.px + 1))) = W5 at *
                refine wp_region_made 1 #[true, true, true, true, true, true, true, false, false] [.lets (· = .pointer (some ⟨gs, 5, none⟩)), .lets (· = .int .i64 s.li), .lets (· = .slice (some ⟨bv, ov, none⟩) n co), .lets (· = .int .i64 (i : Nat)), .lets (· = .pointer (some ⟨bv, ov + i, none⟩)), .lets (· = .int .i64 vv), .lets (· = .int .i64 (s.li + vv))] [] [] (by kernel_rfl) (by kernel_rfl) rfl ?kinds (by kernel_rfl) (by kernel_rfl) (by kernel_rfl) ?_
                case kinds =>
                  constructor
                  · intro i h
                    rcases i with _ | _ | _ | _ | _ | _ | _ | i <;> simp [Kx.isMade] at h
                  · intro i h
                    rcases i with _ | _ | _ | _ | _ | _ | _ | i <;> simp [Kx.isUse] at h
                refine lexX_step (fun K hK => ⟨by kernel_rfl, ⟨_, rfl⟩, fun v hv => ?_, fun v hv => ?_⟩)
                · go_simp
                  exact mUpon_b
                subst hv
                go_simp
                refine hK _ ?_
                clear hK K
                refine lexX_step (fun K hK => ⟨by kernel_rfl, ⟨_, rfl⟩, fun v hv => ?_, fun v hv => ?_⟩)
                · have c5 : v.cell? ⟨gs, 5, none⟩ = some (.int .i64 s.li) := (((unhideR HS5).keep hv).cell 5 (by decide)).1
                  go_simp
                  exact mUpon_b
                subst hv
                go_simp
                refine hK _ ?_
                clear hK K
                refine lexX_step (fun K hK => ⟨by kernel_rfl, ⟨_, rfl⟩, fun v hv => ?_, fun v hv => ?_⟩)
                · go_simp
                  exact mUpon_b
                subst hv
                go_simp
                refine hK _ ?_
                clear hK K
                refine lexX_step (fun K hK => ⟨by kernel_rfl, ⟨_, rfl⟩, fun v hv => ?_, fun v hv => ?_⟩)
                · go_simp
                  exact mUpon_b
                subst hv
                go_simp
                refine hK _ ?_
                clear hK K
                refine lexX_step (fun K hK => ⟨by kernel_rfl, ⟨_, rfl⟩, fun v hv => ?_, fun v hv => ?_⟩)
                · go_simp
                  exact mUpon_b
                subst hv
                go_simp
                refine hK _ ?_
                clear hK K
                refine lexX_step (fun K hK => ⟨by kernel_rfl, ⟨_, rfl⟩, fun v hv => ?_, fun v hv => ?_⟩)
                · have xv := unhideR HXv v (below_go (unhideR HB5) hv)
                  go_simp
                  exact mUpon_b
                subst hv
                go_simp
                refine hK _ ?_
                clear hK K
                refine lexX_step (fun K hK => ⟨by kernel_rfl, ⟨_, rfl⟩, fun v hv => ?_, fun v hv => ?_⟩)
                · go_simp
                  exact mUpon_b
                subst hv
                go_simp
                refine hK _ ?_
                clear hK K
                refine lexX_end (fun v5 hv => ?_)
                have hS := (unhideR HS5).keep hv.low
                have c5 : v5.cell? ⟨gs, 5, none⟩ = some (.int .i64 s.li) := (hS.cell 5 (by decide)).1
                have f5 := (hS.cell 5 (by decide)).2
                have HS6 : HeldR (SbAt (v5.setCell ⟨gs, 5, none⟩ (.int .i64 (s.li + vv))) gs (⟨L0, T0, R0, O0, s.px + 1, s.li + vv, s.sx + PX, s.sy + PY, s.k⟩ : Sp)) := hideR (hS.li (s.li + vv))
                have HB6 : HeldR (Below wk.heap.size wk (v5.setCell ⟨gs, 5, none⟩ (.int .i64 (s.li + vv)))) := hideR ((below_go (unhideR HB5) hv.low).setCell hge _)
                clear hS hv HS5 HB5
                refine wpAny_step (i := 7) (by kernel_rfl) rfl (by kernel_rfl) (fun K hK => ?_)
                unfold Oper.wp
                go_simp
                refine hK _ _ ?_
                clear hK K
                refine wpAny_step (i := 8) (by kernel_rfl) rfl (by kernel_rfl) (fun K hK => ?_)
                unfold Oper.wp
                go_simp
                refine hK _ _ ?_
                clear hK K
                refine wpAny_end (by kernel_rfl) ?_
                clear c5 f5
                generalize v5.setCell ⟨gs, 5, none⟩ (.int .i64 (s.li + vv)) = W6 at *
                have xv := unhideR HXv W6 (unhideR HB6)
                go_wp2
                exact ⟨⟨i + 1, (⟨L0, T0, R0, O0, s.px + 1, s.li + vv, s.sx + PX, s.sy + PY, s.k⟩ : Sp), by omega, by go_num, rfl, rfl, HE6, HS6, HB6⟩, by simp [intOf]; omega⟩
              · have HSe2 : HeldR (s = spN lab (overV p t) W H (k + 1) (i + 1)) := hideR (by rw [spN_next, if_neg (by omega)]; exact unhideR HSe)
                obtain ⟨c, hcc⟩ : ∃ c, lab.getD i 0 = c := ⟨_, rfl⟩
                rw [hcc] at xlab hc
                have hcn : decide (c = (k : Int) + 1) = false := decide_eq_false hc
                clear HSe hcc
                go_wp2
                exact ⟨⟨i + 1, s, by omega, by go_num, rfl, rfl, HSe2, HSb, HBl⟩, by simp [intOf]; omega⟩
            · obtain rfl : n = i := by omega
              have tin : decide (n < n) = false := decide_eq_false hi
              have HSk : HeldR (s = spK lab (overV p t) W H (k + 1)) := hideR (by unfold spK; rw [unhideR HLn]; exact unhideR HSe)
              have wk2 : IntKind.i64.wrap ((k : Int) + 1 + 1) = (k : Int) + 1 + 1 := iwrap (by omega) (by omega)
              have c4 : wr.cell? ⟨gs, 4, none⟩ = some (.int .i64 s.px) := ((unhideR HSb).cell 4 (by decide)).1
              by_cases hp : s.px < least
              · have tp : decide (s.px < least) = true := decide_eq_true hp
                have HX2 : HeldR (∀ u, SxSl wk u ((spotsV lab (overV p t) W H least k).map starOf) → SxSl wr u ((spotsV lab (overV p t) W H least (k + 1)).map starOf)) := hideR (fun u hu => by
                  have e : spotsV lab (overV p t) W H least (k + 1) = spotsV lab (overV p t) W H least k := by
                    show (if _ then _ else _) = _
                    rw [if_pos (by rw [← unhideR HSk]; exact hp)]
                  rw [e]
                  exact hu.below (unhideR HBl))
                have HX3 := hideR (unhideR HX2 _ (unhideR HX))
                have HW3 := hideR (unhideR HBw wr (unhideR HBl))
                clear HX2 HX HSk HSe HSb HBl HWl
                go_wp2
                exact ⟨⟨k + 1, by omega, by go_num, HX3, HW3⟩, by simp [intOf]; omega⟩
              · have tp : decide (s.px < least) = false := decide_eq_false hp
                have hli : 0 < s.li := by omega
                have hli0 : s.li ≠ 0 := by omega
                obtain ⟨QX, hQX⟩ : ∃ QX, s.sx.tdiv s.li = QX := ⟨_, rfl⟩
                obtain ⟨QY, hQY⟩ : ∃ QY, s.sy.tdiv s.li = QY := ⟨_, rfl⟩
                have hQX2 : s.sx / s.li = QX := by rw [← hQX, Int.tdiv_eq_ediv_of_nonneg x0]
                have hQY2 : s.sy / s.li = QY := by rw [← hQY, Int.tdiv_eq_ediv_of_nonneg y0]
                have bX1 : 0 ≤ QX := by rw [← hQX2]; exact Int.ediv_nonneg x0 (by omega)
                have bX2 : QX ≤ s.sx := by rw [← hQX2]; exact Int.ediv_le_self _ x0
                have bY1 : 0 ≤ QY := by rw [← hQY2]; exact Int.ediv_nonneg y0 (by omega)
                have bY2 : QY ≤ s.sy := by rw [← hQY2]; exact Int.ediv_le_self _ y0
                have wQX : IntKind.i64.wrap QX = QX := iwrap (by omega) (by omega)
                have wQY : IntKind.i64.wrap QY = QY := iwrap (by omega) (by omega)
                have HSt : HeldR (starOf s = (⟨s.le, s.tp, s.ri, s.lo, s.px, s.li, QX, QY, s.li⟩ : Sta)) := hideR (by unfold starOf; rw [hQX, hQY])
                have hsl := spots_len lab (overV p t) W H least k
                have HPl : HeldR (∀ u v, Below wk.heap.size wk u → SxSl wk v ((spotsV lab (overV p t) W H least k).map starOf) → Calls Tryd.prog 42 #[v, sxV (starOf s)] u fun x w' => ∃ z, x = .returned z ∧ SxSl w' z ((spotsV lab (overV p t) W H least (k + 1)).map starOf) ∧ Below wk.heap.size wk w') := hideR (fun u v ku hv => by
                  refine (placed_any (starOf s) (hv.below ku) (by rw [List.length_map]; omega)).mono ?_
                  rintro x w' ⟨z, rfl, hz, kz⟩
                  refine ⟨z, rfl, ?_, below_go ku kz⟩
                  have e : spotsV lab (overV p t) W H least (k + 1) = placeV (spotsV lab (overV p t) W H least k) s := by
                    show (if _ then _ else _) = _
                    rw [if_neg (by rw [← unhideR HSk]; exact hp), ← unhideR HSk]
                  rw [e, ← putX_place]
                  exact hz)
                rw [unhideR HSt] at HPl
                clear HSt HSk HSe hsl
                go_upto_region 39 with fail
                clear c4
                refine wp_region_made 1 #[true, true, true, true, true, true, true, true, true, true, true, false, false] [.lets (· = .int .i64 s.sx), .lets (· = .pointer (some ⟨gs, 5, none⟩)), .lets (· = .int .i64 s.li), .lets (· = .int .i64 QX), .lets (· = .int .i64 s.sy), .lets (· = .pointer (some ⟨gs, 5, none⟩)), .lets (· = .int .i64 s.li), .lets (· = .int .i64 QY), .lets (· = .pointer (some ⟨gs, 5, none⟩)), .lets (· = .int .i64 s.li), .lets (· = .agg #[.int .i64 QX, .int .i64 QY, .int .i64 s.li])] [] [] (by kernel_rfl) (by kernel_rfl) rfl ?kinds (by kernel_rfl) (by kernel_rfl) (by kernel_rfl) ?_
                case kinds =>
                  constructor
                  · intro i h
                    rcases i with _ | _ | _ | _ | _ | _ | _ | _ | _ | _ | _ | i <;> simp [Kx.isMade] at h
                  · intro i h
                    rcases i with _ | _ | _ | _ | _ | _ | _ | _ | _ | _ | _ | i <;> simp [Kx.isUse] at h
                refine lexX_step (fun K hK => ⟨by kernel_rfl, ⟨_, rfl⟩, fun v hv => ?_, fun v hv => ?_⟩)
                · go_simp
                  exact mUpon_b
                subst hv
                go_simp
                refine hK _ ?_
                clear hK K
                refine lexX_step (fun K hK => ⟨by kernel_rfl, ⟨_, rfl⟩, fun v hv => ?_, fun v hv => ?_⟩)
                · go_simp
                  exact mUpon_b
                subst hv
                go_simp
                refine hK _ ?_
                clear hK K
                refine lexX_step (fun K hK => ⟨by kernel_rfl, ⟨_, rfl⟩, fun v hv => ?_, fun v hv => ?_⟩)
                · have c5 : v.cell? ⟨gs, 5, none⟩ = some (.int .i64 s.li) := (((unhideR HSb).keep hv).cell 5 (by decide)).1
                  go_simp
                  exact mUpon_b
                subst hv
                go_simp
                refine hK _ ?_
                clear hK K
                refine lexX_step (fun K hK => ⟨by kernel_rfl, ⟨_, rfl⟩, fun v hv => ?_, fun v hv => ?_⟩)
                · go_simp
                  exact mUpon_b
                subst hv
                go_simp
                refine hK _ ?_
                clear hK K
                refine lexX_step (fun K hK => ⟨by kernel_rfl, ⟨_, rfl⟩, fun v hv => ?_, fun v hv => ?_⟩)
                · go_simp
                  exact mUpon_b
                subst hv
                go_simp
                refine hK _ ?_
                clear hK K
                refine lexX_step (fun K hK => ⟨by kernel_rfl, ⟨_, rfl⟩, fun v hv => ?_, fun v hv => ?_⟩)
                · go_simp
                  exact mUpon_b
                subst hv
                go_simp
                refine hK _ ?_
                clear hK K
                refine lexX_step (fun K hK => ⟨by kernel_rfl, ⟨_, rfl⟩, fun v hv => ?_, fun v hv => ?_⟩)
                · have c5 : v.cell? ⟨gs, 5, none⟩ = some (.int .i64 s.li) := (((unhideR HSb).keep hv).cell 5 (by decide)).1
                  go_simp
                  exact mUpon_b
                subst hv
                go_simp
                refine hK _ ?_
                clear hK K
                refine lexX_step (fun K hK => ⟨by kernel_rfl, ⟨_, rfl⟩, fun v hv => ?_, fun v hv => ?_⟩)
                · go_simp
                  exact mUpon_b
                subst hv
                go_simp
                refine hK _ ?_
                clear hK K
                refine lexX_step (fun K hK => ⟨by kernel_rfl, ⟨_, rfl⟩, fun v hv => ?_, fun v hv => ?_⟩)
                · go_simp
                  exact mUpon_b
                subst hv
                go_simp
                refine hK _ ?_
                clear hK K
                refine lexX_step (fun K hK => ⟨by kernel_rfl, ⟨_, rfl⟩, fun v hv => ?_, fun v hv => ?_⟩)
                · have c5 : v.cell? ⟨gs, 5, none⟩ = some (.int .i64 s.li) := (((unhideR HSb).keep hv).cell 5 (by decide)).1
                  go_simp
                  exact mUpon_b
                subst hv
                go_simp
                refine hK _ ?_
                clear hK K
                refine lexX_step (fun K hK => ⟨by kernel_rfl, ⟨_, rfl⟩, fun v hv => ?_, fun v hv => ?_⟩)
                · go_simp
                  exact mUpon_b
                subst hv
                go_simp
                refine hK _ ?_
                clear hK K
                refine lexX_end (fun v5 hv => ?_)
                have hS := (unhideR HSb).keep hv.low
                have c6 : v5.cell? ⟨gs, 6, none⟩ = some (.int .i64 0) := (hS.cell 6 (by decide)).1
                have c7 : v5.cell? ⟨gs, 7, none⟩ = some (.int .i64 0) := (hS.cell 7 (by decide)).1
                have c8 : v5.cell? ⟨gs, 8, none⟩ = some (.int .i64 0) := (hS.cell 8 (by decide)).1
                have f6 := (hS.cell 6 (by decide)).2
                have f7 := (hS.cell 7 (by decide)).2
                have f8 := (hS.cell 8 (by decide)).2
                have HS6 : HeldR (SxAt (((v5.setCell ⟨gs, 6, none⟩ (.int .i64 QX)).setCell ⟨gs, 7, none⟩ (.int .i64 QY)).setCell ⟨gs, 8, none⟩ (.int .i64 s.li)) gs 0 (⟨s.le, s.tp, s.ri, s.lo, s.px, s.li, QX, QY, s.li⟩ : Sta)) := hideR (nine_at9 (ty := 63) (three_more hS))
                have HB6 : HeldR (Below wk.heap.size wk (((v5.setCell ⟨gs, 6, none⟩ (.int .i64 QX)).setCell ⟨gs, 7, none⟩ (.int .i64 QY)).setCell ⟨gs, 8, none⟩ (.int .i64 s.li))) := hideR ((((below_go (unhideR HBl) hv.low).setCell hge _).setCell hge _).setCell hge _)
                clear hS hv HSb HBl
                refine wpAny_step (i := 11) (by kernel_rfl) rfl (by kernel_rfl) (fun K hK => ?_)
                unfold Oper.wp
                go_simp
                refine hK _ _ ?_
                clear hK K
                refine wpAny_step (i := 12) (by kernel_rfl) rfl (by kernel_rfl) (fun K hK => ?_)
                unfold Oper.wp
                go_simp
                refine hK _ _ ?_
                clear hK K
                refine wpAny_end (by kernel_rfl) ?_
                clear c6 c7 c8 f6 f7 f8
                generalize (((v5.setCell ⟨gs, 6, none⟩ (.int .i64 QX)).setCell ⟨gs, 7, none⟩ (.int .i64 QY)).setCell ⟨gs, 8, none⟩ (.int .i64 s.li)) = W6 at *
                have hpl := unhideR HPl W6 _ (unhideR HB6) (unhideR HX)
                unfold sxV at hpl
                obtain ⟨d0, d1, d2, d3, d4, d5, d6, d7, d8⟩ := unhideR HS6
                clear HPl HS6 HB6 HX HWl
                go_wp2_with fail
                refine hpl.mono ?_
                rintro e w7 ⟨z, rfl, hz, k7⟩
                have HX3 := hideR hz
                have HW3 := hideR (unhideR HBw w7 k7)
                clear hpl hz k7 d0 d1 d2 d3 d4 d5 d6 d7 d8
                go_wp2
                exact ⟨⟨k + 1, by omega, by go_num, HX3, HW3⟩, by simp [intOf]; omega⟩
        · obtain rfl : parts = k := by omega
          have tkp : decide ((parts : Int) + 1 ≤ (parts : Int)) = false := decide_eq_false (by omega)
          have tkn : decide (parts + 1 ≤ parts) = false := decide_eq_false (by omega)
          have hkq : ¬ (parts : Int) + 1 ≤ (parts : Int) := by omega
          have HF := hideR (unhideR HEnd _ wr lab parts (unhideR HIl) (unhideR HX) (unhideR HWb wr ((unhideR HB4).trans ((unhideR HWl).mono (unhideR HG4)))))
          clear HX HWl
          go_wp2
          go_ret2
          exact unhideR HF
end Go.Proofs.YtgmaganajfcpbaiDoor
