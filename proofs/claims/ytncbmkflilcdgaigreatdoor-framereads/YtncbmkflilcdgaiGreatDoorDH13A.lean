/-
  The program's reading: on with a block that has come. The program's reading: a piece comes.
-/
import Derived.Test.YtncbmkflilcdgaiGreatDoorDH12
import Derived.Laws.CopyRow
namespace Go.Proofs.YtncbmkflilcdgaiGreatDoor
open Go Go.RowKit

def GoPost (B g : Nat) (b : Bs) (s : St) (w : World) (e : Ending) (w' : World) : Prop := ∃ q : Bool, e = .returned (.bool q) ∧ Below B w w' ∧ (q = true → ∃ u, goE s b = some u ∧ RdAt w' B g b 0 u) ∧ (q = false → goE s b = none)
set_option maxRecDepth 100000 in
set_option maxHeartbeats 3200000 in
theorem goOn_any {a : Nat → Addr} {w : World} {B g co : Nat} {b : Bs} {s : St} (hS : ∀ v, Below B w v → SentsF v a) (h : RdAt w B g b co s) (hBw : B ≤ w.heap.size) (hok : StOk s) (hn : s.cards.length ≤ 9000) :
    Calls Tryz.prog 45 #[.pointer (some ⟨g, 0, none⟩)] w (GoPost B g b s w) := by
  obtain ⟨LS, cv, pv, h⟩ := h
  have c0 := h.rd.tail 0 _ rfl
  have f0 := h.rd.frozen 2880
  simp only [Nat.add_zero] at c0
  have hr1 := h.setCome 0
  have hb1 : Below B w (w.setCell ⟨g, 2880, none⟩ (.int .i64 0)) := h.low (Below.refl _ _)
  have hs1 : B ≤ (w.setCell ⟨g, 2880, none⟩ (.int .i64 0)).heap.size := Nat.le_trans hBw hb1.size
  rw [show (((0 : Nat) : Nat) : Int) = 0 from rfl] at hr1
  have c2 := hr1.rd.tail 2 _ rfl
  simp only [Nat.reduceAdd] at c2
  obtain ⟨hd, hhd⟩ : ∃ hd, s.headed = hd := ⟨_, rfl⟩
  rw [hhd] at c2
  cases hd
  case true =>
    have hnm := numbers_any ⟨LS, cv, pv, hr1⟩ hs1 hok hhd
    have HE : HeldR (goE s b = numsG b s) := hideR (by unfold goE numsG; rw [if_pos hhd])
    have HB1 := hideR hb1
    clear h hr1 hb1 hs1 hS hok hn hhd
    go_enter Tryz.func45, Tryz.ntmps45
    go_wp2_with fail
    refine hnm.mono ?_
    rintro e w2 ⟨q, rfl, k2, hy, hno⟩
    have HX : HeldR (GoPost B g b s w (.returned (.bool q)) w2) := hideR ⟨q, rfl, (unhideR HB1).trans k2, fun e => by rw [unhideR HE]; exact hy e, fun e => by rw [unhideR HE]; exact hno e⟩
    clear hnm k2 hy hno
    go_wp2
    go_ret
    exact unhideR HX
  case false =>
    have hnm := head_any (fun v k => hS v (hb1.trans k)) ⟨LS, cv, pv, hr1⟩ hs1 hok hn
    have HE : HeldR (goE s b = linesE b s 36) := hideR (by unfold goE; rw [if_neg (by rw [hhd]; exact Bool.false_ne_true)])
    have HB1 := hideR hb1
    clear h hr1 hb1 hs1 hS hok hn hhd
    go_enter Tryz.func45, Tryz.ntmps45
    go_wp2_with fail
    refine hnm.mono ?_
    rintro e w2 ⟨q, rfl, k2, hy, hno⟩
    have HX : HeldR (GoPost B g b s w (.returned (.bool q)) w2) := hideR ⟨q, rfl, (unhideR HB1).trans k2, fun e => by rw [unhideR HE]; exact hy e, fun e => by rw [unhideR HE]; exact hno e⟩
    clear hnm k2 hy hno
    go_wp2
    go_ret
    exact unhideR HX
end Go.Proofs.YtncbmkflilcdgaiGreatDoor
namespace Go.Proofs.YtncbmkflilcdgaiGreatDoor
open Go Go.RowKit

theorem row_size (w : World) (g : Nat) (cs : Array Value) : (w.setRow g cs).heap.size = w.heap.size := by simp [World.setRow]
theorem row_other (w : World) (g k : Nat) (cs : Array Value) (h : g ≠ k) : (w.setRow g cs).heap[k]? = w.heap[k]? := by
  unfold World.setRow
  simp only [Array.getElem?_modify]
  rw [if_neg h]
theorem own_row {w : World} {B n s g : Nat} {e : TypeId} {v : Value} {xs : List Value} {cs : Array Value} (h : w.ownsRow B e s v n xs) (hg : some g ≠ v.ownBlock) : (w.setRow g cs).ownsRow B e s v n xs := by
  obtain ⟨a1, a2⟩ := h
  refine ⟨a1, ?_⟩
  rcases a2 with a2 | ⟨k, cap, cur, hv, hB, hh, r⟩
  · exact Or.inl a2
  · refine Or.inr ⟨k, cap, cur, hv, hB, ?_, r⟩
    rw [row_other w g k cs (fun q => hg ?_)]
    · exact hh
    · subst hv
      simp only [Value.ownBlock]
      exact congrArg some q
theorem laid_cells {b : Bs} {co : Nat} {P : Bs} {t : List Value} (hb : b.length = 2880) (hc : co < 2880) : (byCells b ++ t).take co ++ byCells (P.take (2880 - co)) ++ (byCells b ++ t).drop (co + (byCells (P.take (2880 - co))).length) = byCells (laidB b co P) ++ t := by
  have hl := by_len b
  have h2 := by_len (P.take (2880 - co))
  rw [List.length_take] at h2
  rw [List.take_append_of_le_length (by omega), List.drop_append_of_le_length (by omega), h2]
  unfold laidB byCells
  simp only [List.map_append, List.map_take, List.map_drop, List.append_assoc, List.length_take]
theorem copy_into {w : World} {g co pb po m cj : Nat} {b P : Bs} {t : List Value} {ty : TypeId} (h : Rd w g b t) (hp : BAt w (some ⟨pb, po, none⟩) P) (hm : P.length = m) (hc : co < 2880) :
    (Builtin.copy_ #[27, 27] ty #[.slice (some ⟨g, co, none⟩) (2880 - co) (2880 - co), .slice (some ⟨pb, po, none⟩) m cj]).run Tryz.prog w = .ok (.int .i64 ((min (2880 - co) m : Nat) : Nat)) (w.setRow g (byCells (laidB b co P) ++ t).toArray) := by
  have hl := h.len
  have hcs : (byCells (P.take (2880 - co))).length = Nat.min m (2880 - co) := by
    rw [by_len, List.length_take, hm]
    exact Nat.min_comm _ _
  have hrun := run_copy_row Tryz.prog w 27 27 ty 5 g co (2880 - co) (2880 - co) ⟨pb, po, none⟩ m cj (byCells b ++ t).toArray 65 (byCells (P.take (2880 - co))) Tryz.underlying27 (by kernel_rfl) h.blk hcs
    (fun j v hj => by
      unfold byCells at hj
      rw [List.getElem?_map] at hj
      cases e : (P.take (2880 - co))[j]? with
      | none => rw [e] at hj; cases hj
      | some x =>
        rw [e] at hj
        injection hj with hj
        have hjl := (List.getElem?_eq_some_iff.1 e).1
        rw [List.length_take] at hjl
        obtain ⟨b', o', e', _, hcl⟩ := hp.at_ j (by omega)
        cases e'
        rw [add_pl2, hcl, ← hj]
        rw [List.getElem?_take, if_pos (by omega)] at e
        rw [List.getD_eq_getElem?_getD, e]
        rfl)
    (by rw [hcs]; simp only [List.size_toArray, List.length_append, by_len, hl]; have := Nat.min_le_right m (2880 - co); show co + Nat.min m (2880 - co) ≤ _; have h3 : Nat.min m (2880 - co) ≤ 2880 - co := this; omega)
    (fun v hv => by
      obtain ⟨y, _, rfl⟩ := List.mem_map.1 hv
      rfl)
  rw [hrun, show (byCells b ++ t).toArray.toList = byCells b ++ t from rfl, laid_cells hl hc, hcs]
  show Result.ok (Value.int .i64 ((Nat.min m (2880 - co) : Nat) : Int)) _ = _
  rw [show Nat.min m (2880 - co) = min (2880 - co) m from Nat.min_comm _ _]
section
variable {w : World} {B g co : Nat} {b : Bs} {s : St} {LS : List CrdS} {cv pv : Value}
theorem RdIs.laid (h : RdIs w B g b co s LS cv pv) (P : Bs) (hc : co < 2880) : RdIs (w.setRow g (byCells (laidB b co P) ++ rdT co cv s.headed s.W s.H pv s.next).toArray) B g (laidB b co P) co s LS cv pv :=
  ⟨⟨laid_len h.rd.len (by omega), setRow_heap _ _ _ _ _ _ h.rd.blk⟩, h.hB, own_row h.cards h.neC, h.crd, own_row h.cnt h.neN⟩
theorem RdIs.lowRow {u : World} (h : RdIs w B g b co s LS cv pv) (k : Below B u w) (cs : Array Value) : Below B u (w.setRow g cs) := by
  refine ⟨k.os, k.tape, k.output, by rw [row_size]; exact k.size, fun i hi => ?_⟩
  rw [row_other _ _ _ _ (by have := h.hB; omega)]
  exact k.block i hi
end
def TkIn (B g : Nat) (T : Bs) (w : World) : Prop := ∃ s b co, Cm T s b co ∧ RdAt w B g b co s
def TkPost (B g : Nat) (T P : Bs) (w : World) (e : Ending) (w' : World) : Prop := ∃ q : Bool, e = .returned (.bool q) ∧ Below B w w' ∧ (q = true → TkIn B g (T ++ P) w') ∧ (q = false → ∀ R : Bs, ∃ n, 2880 * n ≤ (T ++ P ++ R).length ∧ runE (T ++ P ++ R) n = none)
theorem drop_bytes {w : World} {ad : Option Addr} {l : Bs} {cap n : Nat} {pb po : Nat} (e : ad = some ⟨pb, po, none⟩) (h : BAt w ad l) (hc : l.length ≤ cap) : BAt w (if cap = n then (some ⟨pb, po, none⟩ : Option Addr) else some ⟨pb, po + n, none⟩) (l.drop n) := ⟨fun k hk => by
  rw [List.length_drop] at hk
  obtain ⟨b', o', e', hb, hcl⟩ := h.at_ (n + k) (by omega)
  rw [e] at e'
  cases e'
  rw [if_neg (by omega)]
  refine ⟨pb, po + n, rfl, hb, ?_⟩
  rw [Nat.add_assoc, hcl]
  simp only [List.getD, List.getElem?_drop]⟩
set_option maxRecDepth 100000 in
set_option maxHeartbeats 6400000 in
theorem take_any {a : Nat → Addr} {w : World} {B g cap : Nat} {T P : Bs} {ad : Option Addr} (hS : ∀ v, Below B w v → SentsF v a) (hP : ∀ v, Below B w v → BAt v ad P) (h : TkIn B g T w) (hBw : B ≤ w.heap.size) (hl : T.length + P.length ≤ 400010) (hcap : P.length ≤ cap) :
    Calls Tryz.prog 28 #[.pointer (some ⟨g, 0, none⟩), .slice ad P.length cap] w (TkPost B g T P w) := by
  have HS := hideR hS
  have HP0 : HeldR (∀ v, Below B w v → BAt v ad (P.drop 0)) := hideR (by rw [List.drop_zero]; exact hP)
  have H0 : HeldR (TkIn B g (T ++ P.take 0) w) := hideR (by rw [List.take_zero, List.append_nil]; exact h)
  clear hS hP h
  go_enter Tryz.func28, Tryz.ntmps28
  go_wp2
  go_loopw [1] (fun pc wl => ∃ (j : Nat) (adj : Option Addr) (m cj : Nat), HeldR (j + m = P.length) ∧ pc = .slice adj m cj ∧ m ≤ cj ∧ HeldR (∀ v, Below B w v → BAt v adj (P.drop j)) ∧ HeldR (TkIn B g (T ++ P.take j) wl) ∧ HeldR (Below B w wl)) (fun pc _ => lenS pc)
  case atStart => exact ⟨0, ad, P.length, cap, hideR (by omega), rfl, hcap, HP0, H0, hideR (Below.refl _ _)⟩
  case round =>
    obtain ⟨j, adj, m, cj, HJ, rfl, hcj, HBt, HI, HW⟩ := hrel
    by_cases hm : 0 < m
    · obtain ⟨s, b, co, hcm, hat⟩ := unhideR HI
      obtain ⟨LS, cv, pv, hr⟩ := hat
      have hLm : (P.drop j).length = m := by rw [List.length_drop]; have := unhideR HJ; omega
      obtain ⟨pb, po, rfl, _, _⟩ := (unhideR HBt wr (unhideR HW)).at_ 0 (by omega)
      have hco : co < 2880 := by have := hcm.come; omega
      have hBr : B ≤ wr.heap.size := Nat.le_trans hBw (unhideR HW).size
      have HLm := hideR hLm
      have HCm := hideR hcm
      have HR := hideR hr
      have hjm := unhideR HJ
      have hTl : (T ++ P.take j).length = T.length + j := by rw [List.length_append, List.length_take]; omega
      have HTl := hideR hTl
      have HCo : HeldR (∀ v, Below wr.heap.size wr v → v.cell? ⟨g, 2880, none⟩ = some (.int .i64 (co : Nat))) := hideR (fun v hv => ((unhideR HR).below hv).rd.tail 0 _ rfl)
      have hne : ¬ 2880 = co := by omega
      have i0 : (co : Int) ≤ 2880 := by omega
      obtain ⟨N, hN⟩ : ∃ N, min (2880 - co) m = N := ⟨_, rfl⟩
      have HNe := hideR hN
      have hNm : N ≤ m := by omega
      have hN28 : co + N ≤ 2880 := by omega
      have iN : (N : Int) ≤ (m : Int) := by omega
      have hwc : IntKind.i64.wrap ((co : Int) + (N : Int)) = (co : Int) + (N : Int) := iwrap (by omega) (by omega)
      have HFew : HeldR (s.cards.length ≤ 9000) := by
        refine hideR ?_
        have := hcm.few
        rw [hTl] at this
        omega
      clear hcm hr hLm HI hTl
      go_wp2_with fail
      refine wp_region_made 1 #[true, true, true, true, true, true, true, true, true, false, false] [.lets (· = .pointer (some ⟨g, 0, none⟩)),
        .lets (· = .pointer (some ⟨g, 0, none⟩)),
        .lets (· = .pointer (some ⟨g, 0, none⟩)),
        .lets (· = .pointer (some ⟨g, 0, none⟩)),
        .lets (· = .pointer (some ⟨g, 0, none⟩)),
        .lets (· = .pointer (some ⟨g, 2880, none⟩)),
        .lets (· = .int .i64 (co : Nat)),
        .lets (· = .slice (some ⟨g, co, none⟩) (2880 - co) (2880 - co)),
        .lets (· = .slice (some ⟨pb, po, none⟩) m cj)] [] [] (by kernel_rfl) (by kernel_rfl) rfl ?kinds (by kernel_rfl) (by kernel_rfl) (by kernel_rfl) ?_
      case kinds =>
        constructor
        · intro i h
          rcases i with _ | _ | _ | _ | _ | _ | _ | _ | _ | i <;> simp [Kx.isMade] at h
        · intro i h
          rcases i with _ | _ | _ | _ | _ | _ | _ | _ | _ | i <;> simp [Kx.isUse] at h
      refine lexX_step (fun K hK => ⟨by kernel_rfl, ⟨_, rfl⟩, fun v hv => ?_, fun v hv => ?_⟩)
      · go_simp
        exact mUpon_b
      subst hv
      go_simp
      refine hK _ ?_
      clear hK K
      refine lexX_step (fun K hK => ⟨by kernel_rfl, ⟨_, rfl⟩, fun v hv => ?_, fun v hv => ?_⟩)
      · go_simp
        exact mUpon_b
      subst hv
      go_simp
      refine hK _ ?_
      clear hK K
      refine lexX_step (fun K hK => ⟨by kernel_rfl, ⟨_, rfl⟩, fun v hv => ?_, fun v hv => ?_⟩)
      · go_simp
        exact mUpon_b
      subst hv
      go_simp
      refine hK _ ?_
      clear hK K
      refine lexX_step (fun K hK => ⟨by kernel_rfl, ⟨_, rfl⟩, fun v hv => ?_, fun v hv => ?_⟩)
      · go_simp
        exact mUpon_b
      subst hv
      go_simp
      refine hK _ ?_
      clear hK K
      refine lexX_step (fun K hK => ⟨by kernel_rfl, ⟨_, rfl⟩, fun v hv => ?_, fun v hv => ?_⟩)
      · go_simp
        exact mUpon_b
      subst hv
      go_simp
      refine hK _ ?_
      clear hK K
      refine lexX_step (fun K hK => ⟨by kernel_rfl, ⟨_, rfl⟩, fun v hv => ?_, fun v hv => ?_⟩)
      · go_simp
        exact mUpon_b
      subst hv
      go_simp
      refine hK _ ?_
      clear hK K
      refine lexX_step (fun K hK => ⟨by kernel_rfl, ⟨_, rfl⟩, fun v hv => ?_, fun v hv => ?_⟩)
      · have cc := unhideR HCo v hv
        go_simp
        exact mUpon_b
      subst hv
      go_simp
      refine hK _ ?_
      clear hK K
      refine lexX_step (fun K hK => ⟨by kernel_rfl, ⟨_, rfl⟩, fun v hv => ?_, fun v hv => ?_⟩)
      · go_simp
        exact mUpon_b
      subst hv
      go_simp
      refine hK _ ?_
      clear hK K
      refine lexX_step (fun K hK => ⟨by kernel_rfl, ⟨_, rfl⟩, fun v hv => ?_, fun v hv => ?_⟩)
      · go_simp
        exact mUpon_b
      subst hv
      go_simp
      refine hK _ ?_
      clear hK K
      refine lexX_end (fun v5 hv => ?_)
      have HR5 := hideR ((unhideR HR).below hv.low)
      have HB5 := hideR (below_goB (unhideR HW) hBr hv.low)
      clear hv
      have hcp := copy_into (ty := 3) (m := m) (cj := cj) (unhideR HR5).rd (unhideR HBt v5 (unhideR HB5)) (unhideR HLm) hco
      rw [unhideR HNe] at hcp
      have HR6 := hideR ((unhideR HR5).laid (P.drop j) hco)
      have HB6 := hideR ((unhideR HR5).lowRow (unhideR HB5) (byCells (laidB b co (P.drop j)) ++ rdT co cv s.headed s.W s.H pv s.next).toArray)
      refine wpAny_step (i := 9) (by kernel_rfl) rfl (by kernel_rfl) (fun K hK => ?_)
      unfold Oper.wp
      go_simp
      refine hK _ _ ?_
      clear hK K
      refine wpAny_step (i := 10) (by kernel_rfl) rfl (by kernel_rfl) (fun K hK => ?_)
      unfold Oper.wp
      go_simp
      refine hK _ _ ?_
      clear hK K
      refine wpAny_end (by kernel_rfl) ?_
      generalize v5.setRow g (byCells (laidB b co (P.drop j)) ++ rdT co cv s.headed s.W s.H pv s.next).toArray = W5 at *
      clear hcp HR5 HB5 HR HCo
      obtain ⟨adn, hadn⟩ : ∃ adn, (if cj = N then (some ⟨pb, po, none⟩ : Option Addr) else some ⟨pb, po + N, none⟩) = adn := ⟨_, rfl⟩
      have HBn : HeldR (∀ v, Below B w v → BAt v adn (P.drop (j + N))) := hideR (fun v k => by
        rw [← hadn, ← List.drop_drop]
        exact drop_bytes rfl (unhideR HBt v k) (by rw [unhideR HLm]; exact hcj))
      have c0 := (unhideR HR6).rd.tail 0 _ rfl
      have f0 := (unhideR HR6).rd.frozen 2880
      simp only [Nat.add_zero] at c0
      have HR7 := hideR ((unhideR HR6).setCome (co + N))
      have HB7 := hideR ((unhideR HR6).low (i := 2880) (x := .int .i64 ((co + N : Nat) : Int)) (unhideR HB6))
      rw [show ((co + N : Nat) : Int) = (co : Int) + (N : Int) from rfl] at HR7 HB7
      have HJ2 : HeldR (j + N + (m - N) = P.length) := hideR (by omega)
      have hN1 : 0 < N := by omega
      have HTk : HeldR (T ++ P.take (j + N) = T ++ P.take j ++ (P.drop j).take N) := hideR (by rw [List.take_add, List.append_assoc])
      clear HR6 HB6 HBt
      by_cases hfull : co + m < 2880
      · have te : ((co : Int) + (N : Int) == 2880) = false := beq_eq_false_iff_ne.2 (by omega)
        have HI2 : HeldR (TkIn B g (T ++ P.take (j + N)) (W5.setCell ⟨g, 2880, none⟩ (.int .i64 ((co : Int) + (N : Int))))) := by
          refine hideR ⟨s, laidB b co (P.drop j), co + N, ?_, LS, cv, pv, unhideR HR7⟩
          have hc := cm_part (P := P.drop j) (unhideR HCm) (by rw [unhideR HLm]; exact hfull)
          rw [unhideR HLm, List.append_assoc, List.take_append_drop] at hc
          rw [List.take_of_length_le (show P.length ≤ j + N by omega), show N = m by omega]
          exact hc
        clear HR7 HCm HTk HNe hN hjm
        go_wp2
        exact ⟨⟨j + N, adn, m - N, cj - N, HJ2, rfl, by omega, HBn, HI2, HB7⟩, by show m - N < m; omega⟩
      · have hcoN : co + N = 2880 := by omega
        have te : ((co : Int) + (N : Int) == 2880) = true := by
          have : (co : Int) + (N : Int) = 2880 := by omega
          rw [this]
          rfl
        have hNco : 2880 - co = N := by omega
        have hgo := goOn_any (w := W5.setCell ⟨g, 2880, none⟩ (.int .i64 ((co : Int) + (N : Int)))) (fun v k => unhideR HS v ((unhideR HB7).trans k)) ⟨LS, cv, pv, unhideR HR7⟩ (Nat.le_trans hBw (unhideR HB7).size) (unhideR HCm).ok (unhideR HFew)
        have HFu := hideR hfull
        have HNc := hideR hNco
        clear HR7 HNe hN hjm hfull hNco hcoN
        go_wp2_with fail
        refine hgo.mono ?_
        rintro e W8 ⟨q, rfl, k8, hy, hno⟩
        replace HB7 := hideR ((unhideR HB7).trans k8)
        clear hgo k8
        cases q
        case false =>
          have HX : HeldR (TkPost B g T P w (.returned (.bool false)) W8) := by
            refine hideR ⟨false, rfl, unhideR HB7, fun q => (by cases q), fun _ R => ?_⟩
            have hst := cm_stop (P := P.drop j) (unhideR HCm) (by rw [unhideR HLm]; have := unhideR HFu; omega) (hno rfl) R
            rw [List.append_assoc T, List.take_append_drop] at hst
            exact hst
          clear hy hno
          go_wp2
          go_ret
          exact unhideR HX
        case true =>
          have HI2 : HeldR (TkIn B g (T ++ P.take (j + N)) W8) := by
            obtain ⟨u, hu1, hu2⟩ := hy rfl
            refine hideR ⟨u, laidB b co (P.drop j), 0, ?_, hu2⟩
            have hc := cm_next (P := P.drop j) (unhideR HCm) (by rw [unhideR HLm]; have := unhideR HFu; omega) hu1
            rw [unhideR HTk, ← unhideR HNc]
            exact hc
          clear hy hno
          go_wp2
          exact ⟨⟨j + N, adn, m - N, cj - N, HJ2, rfl, by omega, HBn, HI2, HB7⟩, by show m - N < m; omega⟩
    · obtain rfl : m = 0 := by omega
      have HX : HeldR (TkPost B g T P w (.returned (.bool true)) wr) := by
        refine hideR ⟨true, rfl, unhideR HW, fun _ => ?_, fun q => (by cases q)⟩
        have := unhideR HI
        rw [List.take_of_length_le (by have := unhideR HJ; omega)] at this
        exact this
      clear HI HBt HJ
      go_wp2
      go_ret
      exact unhideR HX
end Go.Proofs.YtncbmkflilcdgaiGreatDoor
