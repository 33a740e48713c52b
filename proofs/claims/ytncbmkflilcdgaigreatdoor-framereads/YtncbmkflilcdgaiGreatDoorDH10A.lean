/-
  The program's reading: a line of the head. The program's reading: a block of the head.
-/
import Derived.Test.YtncbmkflilcdgaiGreatDoorDH9
import Derived.Test.YtncbmkflilcdgaiGreatDoorLooseA
namespace Go.Proofs.YtncbmkflilcdgaiGreatDoor
open Go Go.RowKit

def Sl1 (v : Value) : Prop := ∃ g : Nat, v = .slice (some ⟨g, 0, none⟩) 1 1
def OneF (nm vl : ByteArray) (v : Value) (w : World) : Prop := ∀ g : Nat, v = .slice (some ⟨g, 0, none⟩) 1 1 → w.heap[g]? = some (.cells #[.string nm, .string vl] 57)
theorem oneF_stb (nm vl : ByteArray) (v : Value) : Stb (OneF nm vl v) := fun _ _ h k g e => keepB (h g e) k
theorem one_card {w : World} {g : Nat} {nm vl : ByteArray} (h : w.heap[g]? = some (.cells #[.string nm, .string vl] 57)) : ∀ k u, ([.string nm, .string vl] : List Value)[k]? = some u → w.cell? ((⟨g, 0, none⟩ : Addr).add k) = some u := by
  intro k u hu
  rw [add_pl2, Nat.zero_add]
  rcases k with _ | _ | k
  · rw [← hu]; exact (cells_at h 0 (by simp)).1
  · rw [← hu]; exact (cells_at h 1 (by simp)).1
  · simp at hu
def LnPost (B g : Nat) (b : Bs) (co : Nat) (s : St) (t : Bs) (w : World) (e : Ending) (w' : World) : Prop := ∃ q : Bool, e = .returned (.bool q) ∧ Below B w w' ∧ (q = true → ∃ u, lineE s t = some u ∧ RdAt w' B g b co u) ∧ (q = false → lineE s t = none)
theorem ln_no {B g co : Nat} {b t : Bs} {s : St} {w u : World} (h : lineE s t = none) (k : Below B w u) : LnPost B g b co s t w (.returned (.bool false)) u := ⟨false, rfl, k, fun q => (by cases q), fun _ => h⟩
theorem ln_yes {B g co : Nat} {b t : Bs} {s s' : St} {w u : World} (h : lineE s t = some s') (k : Below B w u) (hr : RdAt u B g b co s') : LnPost B g b co s t w (.returned (.bool true)) u := ⟨true, rfl, k, fun _ => ⟨s', h, hr⟩, fun q => (by cases q)⟩
theorem strB_nil {l : Bs} : ((strB l).toList == []) = decide (l = []) := by
  rw [ByteArray.toList_eq, strB_list]
  cases l <;> rfl
theorem strB_end {l : Bs} : ((strB l).toList == [69, 78, 68]) = decide (l = [69, 78, 68]) := by
  rw [ByteArray.toList_eq, strB_list]
  by_cases e : l = [69, 78, 68]
  · rw [decide_eq_true e, e]; rfl
  · rw [decide_eq_false e]; exact beq_eq_false_iff_ne.2 e
set_option maxRecDepth 100000 in
set_option maxHeartbeats 6400000 in
theorem line_any {a : Nat → Addr} {w : World} {B g co : Nat} {b t : Bs} {s : St} (hS : SentsF w a) (h : RdAt w B g b co s) (hBw : B ≤ w.heap.size) (hok : StOk s) (hn : s.cards.length ≤ 10000) (ht : t.length = 80) :
    Calls Tryz.prog 68 #[.pointer (some ⟨g, 0, none⟩), .string (strB t)] w (LnPost B g b co s t w) := by
  obtain ⟨LS, cv, pv, h⟩ := h
  have hun := unfilled_any (strB t) (by rw [strB_size]; omega) w
  rw [strB_list] at hun
  have c2 := h.rd.tail 2 _ rfl
  simp only [Nat.reduceAdd] at c2
  have hs0 := strB_nil (l := trimV t)
  have hs1 := strB_end (l := trimV t)
  obtain ⟨hd, hhd⟩ : ∃ hd, s.headed = hd := ⟨_, rfl⟩
  rw [hhd] at c2
  cases hd
  case true =>
    have HX : HeldR (LnPost B g b co s t w (.returned (.bool (decide (trimV t = [])))) w) := by
      refine hideR ?_
      by_cases e : trimV t = []
      · rw [decide_eq_true e]
        exact ln_yes (by unfold lineE; rw [if_pos hhd, if_pos e]) (Below.refl _ _) ⟨LS, cv, pv, h⟩
      · rw [decide_eq_false e]
        exact ln_no (by unfold lineE; rw [if_pos hhd, if_neg e]) (Below.refl _ _)
    clear hS h hok hn hhd hs1
    generalize decide (trimV t = []) = q at *
    generalize strB (trimV t) = bare at *
    go_enter Tryz.func68, Tryz.ntmps68
    go_wp2_with fail
    refine hun.mono ?_
    rintro e w1 ⟨rfl, rfl⟩
    clear hun
    go_wp2
    go_ret
    exact unhideR HX
  by_cases he : trimV t = [69, 78, 68]
  · have heh := endHead_any hS h hBw hok hhd hn
    rw [decide_eq_true he] at hs1
    have HE : HeldR (lineE s t = endE s) := hideR (by unfold lineE; rw [if_neg (by rw [hhd]; exact Bool.false_ne_true), if_pos he])
    clear hS h hok hn hhd hs0 he
    generalize strB (trimV t) = bare at *
    go_enter Tryz.func68, Tryz.ntmps68
    go_wp2_with fail
    refine hun.mono ?_
    rintro e w1 ⟨rfl, rfl⟩
    clear hun
    go_wp2_with fail
    refine heh.mono ?_
    rintro e w2 ⟨q, rfl, k2, hy, hno⟩
    have HX : HeldR (LnPost B g b co s t w1 (.returned (.bool q)) w2) := hideR ⟨q, rfl, k2, fun e => by rw [unhideR HE]; exact hy e, fun e => by rw [unhideR HE]; exact hno e⟩
    clear heh k2 hy hno
    go_wp2
    go_ret
    exact unhideR HX
  rw [decide_eq_false he] at hs1
  have HLe := hideR (show LS.length = s.cards.length by rw [← h.crd, List.length_map])
  have hco := cardOf_any t w ht
  have HNo : HeldR (¬ (t.drop 8).take 2 = [61, 32] → lineE s t = none) := hideR (fun q => by unfold lineE; rw [if_neg (by rw [hhd]; exact Bool.false_ne_true), if_neg he, if_neg q])
  have HYes : HeldR ((t.drop 8).take 2 = [61, 32] → lineE s t = some { s with cards := s.cards ++ [⟨trimV (t.take 8), trimV (t.drop 10)⟩] }) := hideR (fun q => by unfold lineE; rw [if_neg (by rw [hhd]; exact Bool.false_ne_true), if_neg he, if_pos q])
  obtain ⟨i0, hi0, hz0, hz1, hz2⟩ := info_parts infoC
  have HR := hideR h
  clear hS h hok hs0 he
  generalize strB (trimV t) = bare at *
  go_enter Tryz.func68, Tryz.ntmps68
  go_wp2_with fail
  refine hun.mono ?_
  rintro e w1 ⟨rfl, rfl⟩
  clear hun
  go_wp2_with fail
  refine hco.mono ?_
  rintro e w2 ⟨nm, vl, ok, rfl, k2, hnm, hvl, hiff, hval⟩
  have HB2 := hideR k2
  have HI := hideR hiff
  have HVal := hideR hval
  have HG := hideR (alloc_last w2 (.cells #[.string nm, .string vl] 57))
  have k3 := below_go k2 (below_a w2 (.cells #[.string nm, .string vl] 57))
  have HR3 := hideR ((unhideR HR).below k3)
  have HB3 := hideR (k3.mono hBw)
  have hB3 : B ≤ (w2.alloc (.cells #[.string nm, .string vl] 57)).heap.size := Nat.le_trans hBw k3.size
  clear hco k2 k3 hiff hval c2
  go_wp2_with fail
  obtain ⟨ad, cap, e⟩ := (unhideR HR3).cards.slice
  subst e
  obtain ⟨m, hm⟩ : ∃ m, LS.length = m := ⟨_, rfl⟩
  have HLn := hideR hm
  have hm2 : m ≤ 10000 := by rw [← hm, unhideR HLe]; exact hn
  rw [hm] at HR3 HR
  have HC : HeldR (∀ v, Below (w2.alloc (.cells #[.string nm, .string vl] 57)).heap.size (w2.alloc (.cells #[.string nm, .string vl] 57)) v → v.cell? ⟨g, 2881, none⟩ = some (.slice ad m cap)) := hideR (fun v hv => ((unhideR HR3).rd.below hv).tail 1 _ rfl)
  have HY : HeldR (∀ v, Below (w2.alloc (.cells #[.string nm, .string vl] 57)).heap.size (w2.alloc (.cells #[.string nm, .string vl] 57)) v → v.cell? ⟨w2.heap.size, 0, none⟩ = some (.string nm) ∧ v.cell? ⟨w2.heap.size, 1, none⟩ = some (.string vl)) := hideR (fun v hv => ⟨(cells_at (keepB (unhideR HG) hv) 0 (by simp)).1, (cells_at (keepB (unhideR HG) hv) 1 (by simp)).1⟩)
  clear hm
  refine Y.wp_region_pure 3 #[true, true, true, true, true, true, true, false, false, false, false] [.pure (.pointer (some ⟨g, 0, none⟩)),
    .lets (· = .pointer (some ⟨g, 0, none⟩)),
    .lets (· = .pointer (some ⟨g, 0, none⟩)),
    .lets (· = .pointer (some ⟨g, 2881, none⟩)),
    .lets (· = .slice ad m cap),
    .lets (· = .agg #[.string nm, .string vl]),
    .made Sl1 (OneF nm vl)] [0] (by kernel_rfl) (by kernel_rfl) rfl ?pures (fun d _ _ _ _ h => by cases d <;> exact h) (by kernel_rfl) (by kernel_rfl) ?_
  case pures =>
    intro i h
    rcases i with _ | _ | _ | _ | _ | _ | _ | i <;> first | exact ⟨_, rfl⟩ | (simp at h)
  refine Y.lexX_pure (fun K hK => ⟨.inl ⟨by kernel_rfl, fun v => ?_⟩, ?_⟩)
  · go_simp
  go_simp
  refine hK _ ?_
  clear hK K
  refine Y.lexX_step (fun K hK => ⟨by kernel_rfl, ⟨_, rfl⟩, fun v hv => ?_, fun v hv => ?_⟩)
  · go_simp
    exact mUpon_b
  subst hv
  go_simp
  refine hK _ ?_
  clear hK K
  refine Y.lexX_step (fun K hK => ⟨by kernel_rfl, ⟨_, rfl⟩, fun v hv => ?_, fun v hv => ?_⟩)
  · go_simp
    exact mUpon_b
  subst hv
  go_simp
  refine hK _ ?_
  clear hK K
  refine Y.lexX_step (fun K hK => ⟨by kernel_rfl, ⟨_, rfl⟩, fun v hv => ?_, fun v hv => ?_⟩)
  · go_simp
    exact mUpon_b
  subst hv
  go_simp
  refine hK _ ?_
  clear hK K
  refine Y.lexX_step (fun K hK => ⟨by kernel_rfl, ⟨_, rfl⟩, fun v hv => ?_, fun v hv => ?_⟩)
  · have cc := unhideR HC v hv
    go_simp
    exact mUpon_b
  subst hv
  go_simp
  refine hK _ ?_
  clear hK K
  refine Y.lexX_step (fun K hK => ⟨by kernel_rfl, ⟨_, rfl⟩, fun v hv => ?_, fun v hv => ?_⟩)
  · obtain ⟨y0, y1⟩ := unhideR HY v hv
    go_simp
    exact mUpon_b
  subst hv
  go_simp
  refine hK _ ?_
  clear hK K
  refine Y.lexX_made ⟨by kernel_rfl, ⟨_, 0, rfl⟩, oneF_stb _ _, fun v hv => ?_, ?_⟩
  · go_simp
    exact ⟨below_a v _, ⟨_, rfl⟩, fun q hq => by cases hq; exact alloc_last v _⟩
  rintro _ ⟨u9, rfl⟩ K hK
  go_simp
  refine hK _ ?_
  clear hK K
  refine Y.lexX_end (fun v5 hv => ?_)
  have HO9 := hideR (hv.fact.2 _ rfl)
  have HK5 := hideR hv.low
  clear hv
  have HR5 := hideR ((unhideR HR3).below (unhideR HK5))
  have hB5 : B ≤ v5.heap.size := Nat.le_trans hB3 (unhideR HK5).size
  have hO5 : v5.ownsRow B 57 2 (.slice ad m cap) m (crdCells LS) := by
    have := (unhideR HR5).cards
    unfold COwn at this
    rw [unhideR HLn] at this
    exact this
  refine wpAny_step (i := 7) (by kernel_rfl) rfl (by kernel_rfl) (fun K hK => ?_)
  refine wp_append_own _ _ _ 23 rfl B 57 i0 (.agg #[.string ByteArray.empty, .string ByteArray.empty]) 2 32 Tryz.underlying23 hi0 hz0 hz1 hz2 rfl (by decide) _ m (crdCells LS) rfl hO5 ⟨u9, 0, none⟩ 1 1 [.string nm, .string vl] rfl rfl ?q1 ?q2 ?q3 ?q4 ?q5 ?_
  case q1 => exact one_card (unhideR HO9)
  case q2 =>
    intro u hu
    rcases List.mem_cons.1 hu with rfl | hu
    · rfl
    · rw [List.mem_singleton.1 hu]; rfl
  case q3 => unfold maxLen; omega
  case q4 => omega
  case q5 => exact hB5
  intro v6 w6 hown hgrow _
  have O6 : HeldR (COwn w6 B v6 (LS ++ [⟨nm, vl⟩])) := by
    unfold HeldR COwn
    rw [crdCells_append, List.length_append, unhideR HLn]
    exact hown
  obtain ⟨ad6, cap6, e6⟩ := (unhideR O6).slice
  subst e6
  have HR6 := hideR ((unhideR HR5).rd.grown hgrow (unhideR HR5).neC)
  have HN6 : HeldR (NOwn w6 B pv s.C) := hideR (own_apart (unhideR HR5).cards (unhideR HR5).cnt (by decide) hgrow)
  have HB6 := hideR (((unhideR HB3).trans ((unhideR HK5).mono hB3)).grown hgrow hB5 (fun q hq => own_at2 (unhideR HR5).cards q hq))
  have d1 := (unhideR HR6).tail 1 _ rfl
  have f1 := (unhideR HR6).frozen 2881
  simp only [Nat.reduceAdd] at d1
  rw [List.length_append, unhideR HLn] at O6 ⊢
  clear hown hgrow hO5
  go_simp
  refine hK _ _ ?_
  clear hK K
  refine wpAny_step (i := 8) (by kernel_rfl) rfl (by kernel_rfl) (fun K hK => ?_)
  unfold Oper.wp
  go_simp
  refine hK _ _ ?_
  clear hK K
  refine wpAny_step (i := 9) (by kernel_rfl) rfl (by kernel_rfl) (fun K hK => ?_)
  unfold Oper.wp
  go_simp
  refine hK _ _ ?_
  clear hK K
  refine wpAny_step (i := 10) (by kernel_rfl) rfl (by kernel_rfl) (fun K hK => ?_)
  unfold Oper.wp
  go_simp
  refine hK _ _ ?_
  clear hK K
  refine wpAny_end (by kernel_rfl) ?_
  have HX : HeldR (LnPost B g b co s t w1 (.returned (.bool ok)) (w6.setCell ⟨g, 2881, none⟩ (.slice ad6 (m + 1) cap6))) := by
    refine hideR ?_
    have hlow : Below B w1 (w6.setCell ⟨g, 2881, none⟩ (.slice ad6 (m + 1) cap6)) := (unhideR HB6).setCell (by simpa using (unhideR HR5).hB) _
    cases ok
    case false => exact ln_no (unhideR HNo (fun q => by have := (unhideR HI).2 q; cases this)) hlow
    case true =>
      have hv := unhideR HVal rfl
      refine ln_yes (unhideR HYes ((unhideR HI).1 rfl)) hlow ⟨LS ++ [⟨nm, vl⟩], _, pv, ⟨(unhideR HR6).set 1 _, (unhideR HR5).hB, ?_, ?_, ?_⟩⟩
      · exact own_other (unhideR O6) ((unhideR HR6).ne (unhideR O6) (by decide))
      · rw [List.map_append, (unhideR HR5).crd]
        show _ ++ [(⟨_, _⟩ : Crd)] = _
        rw [hv.1, hv.2]
      · exact own_other (unhideR HN6) ((unhideR HR6).ne (unhideR HN6) (by decide))
  go_wp2
  go_ret
  exact unhideR HX
end Go.Proofs.YtncbmkflilcdgaiGreatDoor
namespace Go.Proofs.YtncbmkflilcdgaiGreatDoor
open Go Go.RowKit

theorem Rd.part {w : World} {g : Nat} {b : Bs} {t : List Value} (h : Rd w g b t) (s n : Nat) (hs : s + n ≤ 2880) : BAt w (some ⟨g, s, none⟩) ((b.drop s).take n) := ⟨fun k hk => by
  have hl := h.len
  rw [List.length_take, List.length_drop] at hk
  refine ⟨g, s, rfl, ltB h.blk, ?_⟩
  rw [h.byte (by omega)]
  unfold byV
  rw [getD_take (by omega), getD_drop]⟩
def HdPost (B g : Nat) (b : Bs) (co : Nat) (s : St) (w : World) (e : Ending) (w' : World) : Prop := ∃ q : Bool, e = .returned (.bool q) ∧ Below B w w' ∧ (q = true → ∃ u, linesE b s 36 = some u ∧ RdAt w' B g b co u) ∧ (q = false → linesE b s 36 = none)
def HdIn (B g : Nat) (b : Bs) (co : Nat) (s : St) (k : Nat) (w : World) : Prop := ∃ u, linesE b s k = some u ∧ StOk u ∧ u.cards.length ≤ s.cards.length + k ∧ RdAt w B g b co u
set_option maxRecDepth 100000 in
set_option maxHeartbeats 3200000 in
theorem head_any {a : Nat → Addr} {w : World} {B g co : Nat} {b : Bs} {s : St} (hS : ∀ v, Below B w v → SentsF v a) (h : RdAt w B g b co s) (hBw : B ≤ w.heap.size) (hok : StOk s) (hn : s.cards.length ≤ 9000) :
    Calls Tryz.prog 60 #[.pointer (some ⟨g, 0, none⟩)] w (HdPost B g b co s w) := by
  have hbl : b.length = 2880 := by obtain ⟨_, _, _, h⟩ := h; exact h.rd.len
  have HS := hideR hS
  have H0 : HeldR (HdIn B g b co s 0 w) := hideR ⟨s, rfl, hok, Nat.le_refl _, h⟩
  have HBl := hideR hbl
  clear hS h hok hbl
  go_enter Tryz.func60, Tryz.ntmps60
  go_wp2
  go_loopw [3] (fun av wl => ∃ A k : Nat, HeldR (A = 80 * k) ∧ A ≤ 2880 ∧ av = .int .i64 (A : Nat) ∧ HeldR (HdIn B g b co s k wl) ∧ HeldR (Below B w wl)) (fun av _ => 2881 - (intOf av).toNat)
  case atStart => exact ⟨0, 0, hideR rfl, by omega, rfl, H0, hideR (Below.refl _ _)⟩
  case round =>
    obtain ⟨A, k, HA, hA, rfl, HI, HW⟩ := hrel
    by_cases hlt : A < 2880
    · have hk : k < 36 ∧ A + 80 ≤ 2880 := by have := unhideR HA; omega
      have hA80 := hk.2
      obtain ⟨u, hu1, hu2, hu3, hu4⟩ := unhideR HI
      have hbl := unhideR HBl
      have hBr : B ≤ wr.heap.size := Nat.le_trans hBw (unhideR HW).size
      have hln := line_any (t := lineAt b k) (unhideR HS wr (unhideR HW)) hu4 hBr hu2 (by omega) (line_len (by omega))
      have HN : HeldR (linesE b s (k + 1) = lineE u (lineAt b k)) := hideR (by show (linesE b s k).bind _ = _; rw [hu1]; rfl)
      have HU := hideR hu2
      have HF := hideR hu3
      have hcv : (convert 27 9 (.slice (some ⟨g, A, none⟩) 80 (2880 - A))).run Tryz.prog wr = .ok (.string (strB (lineAt b k))) wr := by
        obtain ⟨LS, cv, pv, hr⟩ := hu4
        have hp := hr.rd.part A 80 hA80
        have hc := conv_bytes (cap := 2880 - A) hp
        rw [part_len (by omega)] at hc
        rw [hc]
        unfold lineAt
        rw [← unhideR HA]
      have HK := hideR hk.1
      have HLl := hideR (line_len (l := b) (k := k) (by omega))
      clear hu1 hu2 hu3 hu4 HI hk hbl
      generalize strB (lineAt b k) = txt at *
      have i1 : (A : Int) ≤ (A : Int) + 80 := by omega
      have i2 : (A : Int) + 80 ≤ 2880 := by omega
      go_wp2_with fail
      refine hln.mono ?_
      rintro e w2 ⟨q, rfl, k2, hy, hno⟩
      have HW2 := hideR ((unhideR HW).trans k2)
      clear hln hcv k2
      cases q
      case false =>
        have HX : HeldR (HdPost B g b co s w (.returned (.bool false)) w2) := hideR ⟨false, rfl, unhideR HW2, fun q => (by cases q), fun _ => linesE_stop (k := k + 1) (by rw [unhideR HN]; exact hno rfl) (by have := unhideR HK; omega)⟩
        clear hy hno
        go_wp2
        go_ret
        exact unhideR HX
      case true =>
        have HI2 : HeldR (HdIn B g b co s (k + 1) w2) := by
          obtain ⟨u2, hu5, hu6⟩ := hy rfl
          obtain ⟨a1, a2⟩ := lineE_ok (unhideR HLl) (unhideR HU) hu5
          exact hideR ⟨u2, by rw [unhideR HN]; exact hu5, a1, by have := unhideR HF; omega, hu6⟩
        have HA2 : HeldR (A + 80 = 80 * (k + 1)) := hideR (by have := unhideR HA; omega)
        clear hy hno
        go_wp2
        exact ⟨⟨A + 80, k + 1, HA2, by omega, by go_num, HI2, HW2⟩, by simp [intOf]; omega⟩
    · obtain rfl : A = 2880 := by omega
      obtain rfl : k = 36 := by have := unhideR HA; omega
      have HX : HeldR (HdPost B g b co s w (.returned (.bool true)) wr) := by
        obtain ⟨u, h1, _, _, h4⟩ := unhideR HI
        exact hideR ⟨true, rfl, unhideR HW, fun _ => ⟨u, h1, h4⟩, fun q => (by cases q)⟩
      clear HI HA
      go_wp2
      go_ret
      exact unhideR HX
end Go.Proofs.YtncbmkflilcdgaiGreatDoor
