/-
  What a house takes: the program's Shoot, by contract.
-/
import Derived.Test.YtoacdaemhcbbhaaDoorNsK
namespace Go.Proofs.YtoacdaemhcbbhaaDoor
open Go Go.RowKit

/-- a picture of a tool, and where its counts lie. -/
abbrev PcX := Tl × Option Addr × Nat
def px0 : PcX := (tl0, none, 0)
def valPc (x : PcX) : List Value := [.int .i64 x.1.wd, .int .i64 x.1.hi, .slice x.2.1 x.1.cs.length x.2.2]
def flatPc : List PcX → List Value
  | [] => []
  | s :: L => valPc s ++ flatPc L
theorem flatPc_append : ∀ (L M : List PcX), flatPc (L ++ M) = flatPc L ++ flatPc M
  | [], _ => rfl
  | q :: L, M => by
    show valPc q ++ flatPc (L ++ M) = (valPc q ++ flatPc L) ++ flatPc M
    rw [flatPc_append L M, List.append_assoc]
theorem flatPc_at : ∀ (L : List PcX) (j i : Nat), j < L.length → i < 3 → (flatPc L)[j * 3 + i]? = (valPc (L.getD j px0))[i]?
  | [], j, _, h, _ => absurd h (Nat.not_lt_zero j)
  | q :: L, 0, i, _, hi => by
    show (valPc q ++ flatPc L)[0 * 3 + i]? = _
    rw [Nat.zero_mul, Nat.zero_add, List.getElem?_append_left (by simp [valPc]; omega)]
    rfl
  | q :: L, j + 1, i, h, hi => by
    have e : (j + 1) * 3 + i = (valPc q).length + (j * 3 + i) := by simp [valPc]; omega
    show (valPc q ++ flatPc L)[(j + 1) * 3 + i]? = _
    rw [e, List.getElem?_append_right (by omega), Nat.add_sub_cancel_left, flatPc_at L j i (by simpa using h) hi]
    rfl
theorem valPc_one (x : PcX) : ∀ u ∈ valPc x, u.oneCell' = true := by
  intro u hu
  simp only [valPc, List.mem_cons, List.not_mem_nil, or_false] at hu
  rcases hu with rfl | rfl | rfl <;> rfl
/-- pictures of our own, each with counts of its own. -/
structure PcOwn (w : World) (B : Nat) (v : Value) (l : List Tl) (X : List PcX) : Prop where
  row : w.ownsRow B 54 3 v l.length (flatPc X)
  is : X.map (·.1) = l
  win : ∀ x ∈ X, w.ownsRow B 3 1 (.slice x.2.1 x.1.cs.length x.2.2) x.1.cs.length (x.1.cs.map (Value.int .i64))
theorem PcOwn.below {w u : World} {B : Nat} {v : Value} {l : List Tl} {X : List PcX} (h : PcOwn w B v l X) (k : Below w.heap.size w u) : PcOwn u B v l X := ⟨own_below2 h.row k, h.is, fun x hx => own_below2 (h.win x hx) k⟩
/-- pictures that lie somewhere. -/
structure PcCame (w : World) (ad : Option Addr) (l : List Tl) : Prop where
  at_ : ∀ k, k < l.length → ∃ b ca cc, ad = some ⟨b, 0, none⟩ ∧ b < w.heap.size ∧ w.cell? ⟨b, k * 3, none⟩ = some (.int .i64 (l.getD k tl0).wd) ∧ w.cell? ⟨b, k * 3 + 1, none⟩ = some (.int .i64 (l.getD k tl0).hi) ∧ w.cell? ⟨b, k * 3 + 2, none⟩ = some (.slice ca (l.getD k tl0).cs.length cc) ∧ ICame w ca (l.getD k tl0).cs
theorem PcOwn.came {w : World} {B : Nat} {v : Value} {l : List Tl} {X : List PcX} (h : PcOwn w B v l X) : ∃ ad cap, v = .slice ad l.length cap ∧ PcCame w ad l := by
  have hXl : X.length = l.length := by rw [← h.is, List.length_map]
  rcases h.row.2 with ⟨h1, h2⟩ | ⟨g, cap, cur, e, hB, hg, hc, hcap, hs, ht⟩
  · exact ⟨none, 0, by rw [h1, h2], ⟨fun k hk => by omega⟩⟩
  · refine ⟨_, cap, e, ⟨fun k hk => ?_⟩⟩
    have key : ∀ o, o < 3 → w.cell? ⟨g, k * 3 + o, none⟩ = (valPc (X.getD k px0))[o]? := fun o ho => by
      have q := flatPc_at X k o (by omega) ho
      rw [← ht, List.getElem?_take, if_pos (by omega)] at q
      simp only [World.cell?, hg]
      simpa using q
    have hx : X.getD k px0 ∈ X := by
      rw [List.getD_eq_getElem?_getD, List.getElem?_eq_getElem (by omega)]
      exact List.getElem_mem _
    have hj : (X.getD k px0).1 = l.getD k tl0 := by
      rw [← h.is, List.getD_eq_getElem?_getD, List.getD_eq_getElem?_getD, List.getElem?_map]
      cases X[k]? <;> rfl
    have hw := h.win _ hx
    generalize X.getD k px0 = x at *
    obtain ⟨j, a, c⟩ := x
    have hj : j = l.getD k tl0 := hj
    subst hj
    obtain ⟨a', c', e', hs', _⟩ := own_ints hw
    cases e'
    exact ⟨g, a, c, rfl, ltB hg, key 0 (by decide), key 1 (by decide), key 2 (by decide), hs'⟩
theorem PcOwn.next {w w6 : World} {B : Nat} {v v6 : Value} {l : List Tl} {X : List PcX} {j : Tl} {a : Option Addr} {c : Nat} (h : PcOwn w B v l X) (hw : w.ownsRow B 3 1 (.slice a j.cs.length c) j.cs.length (j.cs.map (Value.int .i64))) (hr : w6.ownsRow B 54 3 v6 (l.length + 1) (flatPc X ++ valPc (j, a, c))) (hg : w.grownBy w6 v.ownBlock) : PcOwn w6 B v6 (l ++ [j]) (X ++ [(j, a, c)]) := by
  have keep : ∀ {z : Value} {n : Nat} {xs : List Value}, w.ownsRow B 3 1 z n xs → w6.ownsRow B 3 1 z n xs := fun {z n xs} hz => row_keep hz (fun k hk => by
    obtain ⟨_, cur, hc⟩ := row_block hz hk
    refine hg.block k (ltB hc) (fun e => ?_)
    obtain ⟨_, cur2, hc2⟩ := row_block h.row e.symm
    rw [hc] at hc2
    simp at hc2)
  refine ⟨?_, by rw [List.map_append, h.is]; rfl, fun x hx => ?_⟩
  · rw [List.length_append, flatPc_append]
    have e1 : flatPc [(j, a, c)] = valPc (j, a, c) := List.append_nil _
    rw [e1]
    exact hr
  · rcases List.mem_append.1 hx with q | q
    · exact keep (h.win x q)
    · rw [List.mem_singleton] at q
      subst q
      exact keep hw
theorem infoPc : (Tryd.prog.info? 54).map (fun i => (i.zero, i.size, i.bytes)) = some (some (.agg #[.int .i64 0, .int .i64 0, .slice none 0 0]), 3, 40) := by kernel_rfl
/-- the cameras among fittings. -/
def camL (X : List Fg) : List Tl := (X.map (·.t)).filter fun t => decide (t.kd = 1)
theorem camL_next {X : List Fg} {k : Nat} (h : k < X.length) : camL (X.take (k + 1)) = if (X.getD k fg0).t.kd = 1 then camL (X.take k) ++ [(X.getD k fg0).t] else camL (X.take k) := by
  have e : X.take (k + 1) = X.take k ++ [X.getD k fg0] := by
    rw [List.take_add_one, List.getElem?_eq_getElem h, List.getD_eq_getElem?_getD, List.getElem?_eq_getElem h]
    rfl
  unfold camL
  rw [e, List.map_append, List.filter_append]
  generalize X.getD k fg0 = f
  by_cases q : f.t.kd = 1
  · rw [if_pos q]
    simp [q]
  · rw [if_neg q]
    simp [q]
/-- all is well with the tools of fittings. -/
structure FgOk (X : List Fg) : Prop where
  n : X.length ≤ 12
  k : ∀ f ∈ X, 1 ≤ f.t.kd ∧ f.t.kd ≤ 4
  c : ∀ f ∈ X, f.t.cs.length ≤ 4000
  o : ∀ f ∈ X, f.t.op.length ≤ 4000
def ShPost (a : Nat → Addr) (X : List Fg) (x : Int) (w : World) (e : Ending) (w' : World) : Prop :=
  ((X.any (fun f => wayV f.t x) = true ∧ ∃ E, e = .returned (.tuple #[.slice none 0 0, E]) ∧ ErrIs a 7 E) ∨ (X.any (fun f => wayV f.t x) = false ∧ ∃ v Y, e = .returned (.tuple #[v, .nilIface]) ∧ PcOwn w' w.heap.size v (camL X) Y)) ∧ Below w.heap.size w w'
set_option maxRecDepth 1000000 in
set_option maxHeartbeats 6400000 in
theorem pshoot_any {a : Nat → Addr} {w : World} {B hb : Nat} {X : List Fg} (hS : Sents w a) (hH : Hs w B hb X) (hO : FgOk X) (x : Int) :
    Calls Tryd.prog 23 #[.pointer (some ⟨hb, 0, none⟩), .int .i64 x] w (ShPost a X x w) := by
  obtain ⟨i0, hi0, hz0, hz1, hz2⟩ := info_parts infoPc
  obtain ⟨rv, hhb, hrow⟩ := hH.row
  obtain ⟨ad, cap, rfl, hca⟩ := fg_own hrow
  have hz := alloc_last w (.cells #[.int .i64 x] 3)
  have hbx := below_a w (.cells #[.int .i64 x] 3)
  have hcon := pconF_any (cap := cap) (hca.below hbx) (by have := hO.n; omega) (fn := 42) (caps := #[.pointer (some ⟨w.heap.size, 0, none⟩)]) (P := fun k => wayV (X.getD k fg0).t x) (enters_of Tryd.func42 (by kernel_rfl) rfl)
    (fun k hk u hu => pshoot1_any (keepB hz hu) ((hH.ins _ (getD_mem hk)).keep (Kf.of (below_go hbx hu))) (hO.o _ (getD_mem hk)) (hO.k _ (getD_mem hk)))
  rw [anyN_list fg0 (fun f => wayV f.t x) X] at hcon
  have HS : HeldR (∀ u, Below w.heap.size w u → Sents u a) := hideR (fun u k => hS.below k (Nat.le_refl _))
  have HC : HeldR (∀ u, Below w.heap.size w u → FgCame u ad X) := hideR (fun u k => hca.below k)
  have HI : HeldR (∀ u, Below w.heap.size w u → ∀ k, k < X.length → Calls Tryd.prog 44 #[.iface (X.getD k fg0).ty (X.getD k fg0).pv] u (PoPost (X.getD k fg0).t u)) := hideR (fun u hu k hk => ppics_any ((hH.ins _ (getD_mem hk)).keep (Kf.of hu)) (hO.c _ (getD_mem hk)) (hO.k _ (getD_mem hk)))
  unfold PoPost at HI
  have HE : HeldR (X.any (fun f => wayV f.t x) = true → ∀ E w', ErrIs a 7 E → Below w.heap.size w w' → ShPost a X x w (.returned (.tuple #[.slice none 0 0, E])) w') := hideR (fun h E w' h1 h2 => ⟨.inl ⟨h, E, rfl, h1⟩, h2⟩)
  have HF : HeldR (X.any (fun f => wayV f.t x) = false → ∀ v Y w', PcOwn w' w.heap.size v (camL (X.take X.length)) Y → Below w.heap.size w w' → ShPost a X x w (.returned (.tuple #[v, .nilIface])) w') := hideR (fun h v Y w' h1 h2 => ⟨.inr ⟨h, v, Y, rfl, by rw [List.take_length] at h1; exact h1⟩, h2⟩)
  have HT : HeldR (∀ k, k < X.length → camL (X.take (k + 1)) = if (X.getD k fg0).t.kd = 1 then camL (X.take k) ++ [(X.getD k fg0).t] else camL (X.take k)) := hideR (fun k hk => camL_next hk)
  have HTn : HeldR (∀ k, (camL (X.take k)).length ≤ 12) := hideR (fun k => by
    unfold camL
    refine Nat.le_trans (List.length_filter_le _ _) ?_
    rw [List.length_map, List.length_take]
    have := hO.n
    omega)
  have HO0 : HeldR (∀ u, PcOwn u w.heap.size (.slice none 0 0) (camL (X.take 0)) []) := hideR (fun u => ⟨World.ownsRow_nil _ _ _ _, rfl, fun x hx => nomatch hx⟩)
  generalize ShPost a X x w = POST at *
  generalize X.any (fun f => wayV f.t x) = sb at *
  have hn12 := hO.n
  have HB1 := hideR hbx
  have HHb := hideR hhb
  obtain ⟨n, hn⟩ : ∃ n, X.length = n := ⟨_, rfl⟩
  have Hn := hideR hn
  have c0 := (cells_at (keepB hhb hbx) 0 (by simp)).1
  rw [hn] at c0 hcon HI HF HT hn12 HHb
  clear hS hH hO hrow hca hhb hz hbx hn
  go_enter Tryd.func23, Tryd.ntmps23
  go_wp2_with fail
  refine hcon.mono ?_
  rintro e u1 ⟨rfl, k1⟩
  have HB2 := hideR (below_go (unhideR HB1) k1)
  clear hcon c0 k1
  cases sb
  case true =>
    have s6 := (unhideR HS u1.drew (below_go (unhideR HB2) (drawn_below u1 1))).g6
    have HQ := hideR (unhideR HE rfl _ u1.drew (.inr ⟨6, by decide, rfl, rfl⟩) (below_go (unhideR HB2) (drawn_below u1 1)))
    clear HE HF HT HTn HO0 HI HC HS HHb HB1 HB2
    go_upto_region 2 with fail
    go_region
    all_goals (go_wp2; (try simp [go_sem]); exact unhideR HQ)
  clear HE
  have HF2 := hideR (unhideR HF rfl)
  have c0 := (cells_at (keepB (unhideR HHb) (unhideR HB2)) 0 (by simp)).1
  clear HF HHb
  go_wp2_with fail
  go_loopw [6, 21] (fun lv iv wl => ∃ (i : Nat) (Y : List PcX), i ≤ n ∧ iv = .int .i64 (i : Nat) ∧ HeldR (PcOwn wl w.heap.size lv (camL (X.take i)) Y) ∧ HeldR (Below w.heap.size w wl)) (fun _ iv _ => n + 1 - (intOf iv).toNat)
  case atStart => exact ⟨0, [], by omega, rfl, hideR (unhideR HO0 _), HB2⟩
  case round =>
    clear HO0 HB2 c0 HB1
    obtain ⟨i, Y, hi, rfl, HO, HB⟩ := hrel
    by_cases q : i < n
    case neg =>
      obtain rfl : i = n := by omega
      have ti : decide ((i : Int) < (i : Int)) = false := decide_eq_false (by omega)
      have tin : decide (i < i) = false := decide_eq_false (by omega)
      have HQ := hideR (unhideR HF2 _ Y wr (unhideR HO) (unhideR HB))
      clear HF2 HO HB HT HTn HI HC HS
      go_wp2
      try simp [go_sem]
      exact unhideR HQ
    have ti : decide ((i : Int) < (n : Int)) = true := decide_eq_true (by omega)
    have tin : decide (i < n) = true := decide_eq_true q
    have wi : IntKind.i64.wrap ((i : Int) + 1) = (i : Int) + 1 := iwrap (by omega) (by omega)
    have hii : (i : Int) < (n : Int) := by omega
    obtain ⟨bb, had, hbb, c0, c1⟩ := (unhideR HC wr (unhideR HB)).at_ i (by rw [unhideR Hn]; exact q)
    subst had
    have HTi := hideR (unhideR HT i q)
    have hTn := unhideR HTn i
    have hz := alloc_last wr (.cells #[.string (X.getD i fg0).t.nm, .iface (X.getD i fg0).ty (X.getD i fg0).pv] 104)
    have hba := below_a wr (.cells #[.string (X.getD i fg0).t.nm, .iface (X.getD i fg0).ty (X.getD i fg0).pv] 104)
    have hpic := unhideR HI _ (below_go (unhideR HB) hba) i q
    generalize X.getD i fg0 = f at *
    obtain ⟨ap, cp, ep⟩ := ownsRow_slice (unhideR HO).row
    subst ep
    have HBa := hideR (below_go (unhideR HB) hba)
    have HOa := hideR ((unhideR HO).below hba)
    have y1 := (cells_at hz 1 (by simp)).1
    generalize camL (X.take i) = CL at *
    go_upto_region 7 with fail
    clear c0 c1 hz hba HO HB
    generalize wr.alloc (.cells #[.string f.t.nm, .iface f.ty f.pv] 104) = W at *
    obtain ⟨Z, hZ⟩ : ∃ Z, wr.heap.size = Z := ⟨_, rfl⟩
    rw [hZ] at y1 ⊢
    clear hZ
    obtain ⟨m, hm⟩ : ∃ m, CL.length = m := ⟨_, rfl⟩
    have Hm := hideR hm
    rw [hm] at hTn ⊢
    clear hm
    go_wp2_with fail
    refine hpic.mono ?_
    rintro e u ⟨he, k⟩
    have HB5 := hideR (below_go (unhideR HBa) k)
    have HO5 := hideR ((unhideR HOa).below k)
    have hO5 := (unhideR HO5).row
    rw [unhideR Hm] at hO5
    have hsz : w.heap.size ≤ u.heap.size := (unhideR HB5).size
    have hWs : w.heap.size ≤ W.heap.size := (unhideR HBa).size
    clear hpic y1 HBa HOa
    rcases he with ⟨hkd, g, a1, c1, rfl, hg, ow⟩ | ⟨hkd, rfl⟩
    · rw [if_pos hkd] at HTi
      have How := hideR (own_lowerG ow hWs)
      have Hrow := hideR hO5
      have HNx : HeldR (∀ v6 w6, w6.ownsRow w.heap.size 54 3 v6 (m + 1) (flatPc Y ++ valPc (f.t, a1, c1)) → u.grownBy w6 (Value.slice ap m cp).ownBlock → PcOwn w6 w.heap.size v6 (camL (X.take (i + 1))) (Y ++ [(f.t, a1, c1)])) := hideR (fun v6 w6 h1 h2 => by
        rw [unhideR HTi]
        rw [← unhideR Hm] at h1 h2
        exact (unhideR HO5).next (unhideR How) h1 h2)
      have HCe : HeldR (∀ j z, (valPc (f.t, a1, c1))[j]? = some z → u.cell? ((⟨g, 0, none⟩ : Addr).add j) = some z) := hideR (fun j z hz => by
        rw [add_pl2, Nat.zero_add]
        simp only [World.cell?, hg]
        rcases j with _ | _ | _ | j
        · exact hz
        · exact hz
        · exact hz
        · simp [valPc] at hz)
      have HV1 := hideR (valPc_one (f.t, a1, c1))
      have HVl : HeldR ((valPc (f.t, a1, c1)).length = 1 * 3) := hideR rfl
      clear HO5 HTi HT HTn HI HC HS HF2 hO5 k hg ow How Hm
      generalize valPc (f.t, a1, c1) = XS at *
      generalize flatPc Y = FY at *
      go_wp2_with (first
        | (at_builtin; refine wpList_append_own _ rfl _ _ 63 rfl w.heap.size 54 i0 (.agg #[.int .i64 0, .int .i64 0, .slice none 0 0]) 3 40 Tryd.underlying63 hi0 hz0 hz1 hz2 rfl (by decide) _ m FY rfl (unhideR Hrow) ⟨g, 0, none⟩ 1 1 XS rfl (unhideR HVl) (unhideR HCe) (unhideR HV1) ?c3 ?c4 hsz ?_))
      case c3 => unfold maxLen; omega
      case c4 => omega
      intro v6 w6 hown hgrow _
      have HO9 := hideR (unhideR HNx v6 w6 hown hgrow)
      have HB9 := hideR ((unhideR HB5).grown hgrow hsz (fun k e => (row_block (unhideR Hrow) e).1))
      clear hown hgrow HNx HCe HV1 HVl Hrow HB5
      go_wp2
      exact ⟨⟨i + 1, _, by omega, by go_num, HO9, HB9⟩, by simp [intOf]; omega⟩
    · rw [if_neg hkd] at HTi
      have HO6 : HeldR (PcOwn u w.heap.size (.slice ap m cp) (camL (X.take (i + 1))) Y) := hideR (by rw [unhideR HTi, ← unhideR Hm]; exact unhideR HO5)
      have Hrow := hideR hO5
      clear HO5 HTi HT HTn HI HC HS HF2 hO5 k
      go_wp2_with (first
        | (at_builtin; refine wpList_append_own_none rfl _ _ 63 rfl w.heap.size 54 i0 3 Tryd.underlying63 hi0 _ _ _ rfl (unhideR Hrow) rfl ?_))
      exact ⟨⟨i + 1, Y, by omega, by go_num, HO6, HB5⟩, by simp [intOf]; omega⟩
end Go.Proofs.YtoacdaemhcbbhaaDoor
