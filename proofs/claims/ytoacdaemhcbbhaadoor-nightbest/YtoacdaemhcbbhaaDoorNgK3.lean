/-
  Jobs for the program: the law's jobs, by contract.
-/
import Derived.Test.YtoacdaemhcbbhaaDoorNgK1
import Derived.Test.YtoacdaemhcbbhaaDoorLooseM
namespace Go.Proofs.YtoacdaemhcbbhaaDoor
open Go Go.RowKit

/-- a job and where its windows lie. -/
abbrev JbX := Jb × Option Addr × Nat
def jx0 : JbX := (jb0, none, 0)
def valJ (x : JbX) : List Value := [.string x.1.nm, .slice x.2.1 x.1.ws.length x.2.2, .int .i64 x.1.lo, .int .i64 x.1.wo]
def flatJ : List JbX → List Value
  | [] => []
  | s :: L => valJ s ++ flatJ L
theorem flatJ_append : ∀ (L M : List JbX), flatJ (L ++ M) = flatJ L ++ flatJ M
  | [], _ => rfl
  | q :: L, M => by
    show valJ q ++ flatJ (L ++ M) = (valJ q ++ flatJ L) ++ flatJ M
    rw [flatJ_append L M, List.append_assoc]
theorem flatJ_at : ∀ (L : List JbX) (j i : Nat), j < L.length → i < 4 → (flatJ L)[j * 4 + i]? = (valJ (L.getD j jx0))[i]?
  | [], j, _, h, _ => absurd h (Nat.not_lt_zero j)
  | q :: L, 0, i, _, hi => by
    show (valJ q ++ flatJ L)[0 * 4 + i]? = _
    rw [Nat.zero_mul, Nat.zero_add, List.getElem?_append_left (by simp [valJ]; omega)]
    rfl
  | q :: L, j + 1, i, h, hi => by
    have e : (j + 1) * 4 + i = (valJ q).length + (j * 4 + i) := by simp [valJ]; omega
    show (valJ q ++ flatJ L)[(j + 1) * 4 + i]? = _
    rw [e, List.getElem?_append_right (by omega), Nat.add_sub_cancel_left, flatJ_at L j i (by simpa using h) hi]
    rfl
/-- a row of jobs of our own, each with windows of our own. -/
structure JbOwn (w : World) (B : Nat) (v : Value) (l : List Jb) (X : List JbX) : Prop where
  row : w.ownsRow B 72 4 v l.length (flatJ X)
  is : X.map (·.1) = l
  win : ∀ x ∈ X, w.ownsRow B 69 2 (.slice x.2.1 x.1.ws.length x.2.2) x.1.ws.length (flatSp x.1.ws)
theorem JbOwn.below {w u : World} {B : Nat} {v : Value} {l : List Jb} {X : List JbX} (h : JbOwn w B v l X) (k : Below w.heap.size w u) : JbOwn u B v l X := ⟨own_below2 h.row k, h.is, fun x hx => own_below2 (h.win x hx) k⟩
theorem JbOwn.came {w : World} {B : Nat} {v : Value} {l : List Jb} {X : List JbX} (h : JbOwn w B v l X) : ∃ ad cap, v = .slice ad l.length cap ∧ JbCame w ad l ∧ l.length ≤ cap := by
  have hXl : X.length = l.length := by rw [← h.is, List.length_map]
  rcases h.row.2 with ⟨h1, h2⟩ | ⟨g, cap, cur, e, hB, hg, hc, hcap, hs, ht⟩
  · exact ⟨none, 0, by rw [h1, h2], ⟨fun k hk => by omega⟩, by omega⟩
  · refine ⟨_, cap, e, ⟨fun k hk => ⟨g, 0, rfl, ltB hg, ?_⟩⟩, by omega⟩
    have key : ∀ o, o < 4 → w.cell? ⟨g, 0 + k * 4 + o, none⟩ = (valJ (X.getD k jx0))[o]? := fun o ho => by
      have q := flatJ_at X k o (by omega) ho
      rw [← ht, List.getElem?_take, if_pos (by omega)] at q
      simp only [World.cell?, hg, Nat.zero_add]
      simpa using q
    have hx : X.getD k jx0 ∈ X := by
      rw [List.getD_eq_getElem?_getD, List.getElem?_eq_getElem (by omega)]
      exact List.getElem_mem _
    have hj : (X.getD k jx0).1 = l.getD k jb0 := by
      rw [← h.is, List.getD_eq_getElem?_getD, List.getD_eq_getElem?_getD, List.getElem?_map]
      cases X[k]? <;> rfl
    have hw := h.win _ hx
    generalize X.getD k jx0 = x at *
    obtain ⟨j, a, c⟩ := x
    have hj : j = l.getD k jb0 := hj
    subst hj
    obtain ⟨a', c', e', hs'⟩ := Spown hw
    cases e'
    exact ⟨key 0 (by decide), ⟨a, c, key 1 (by decide), hs'⟩, key 2 (by decide), key 3 (by decide)⟩
def OwS (B : Nat) (ws : List Spn) (v : Value) (w : World) : Prop := w.ownsRow B 69 2 v ws.length (flatSp ws)
theorem owS_stb (B : Nat) (ws : List Spn) (v : Value) : Stb (OwS B ws v) := fun _ _ h k => own_below2 h k
def SlW (n : Nat) (v : Value) : Prop := ∃ ad cap, v = .slice ad n cap
def AgJ (j : Jb) (v : Value) : Prop := ∃ ad cap, v = .agg #[.string j.nm, .slice ad j.ws.length cap, .int .i64 j.lo, .int .i64 j.wo]
def AgF (B : Nat) (j : Jb) (v : Value) (w : World) : Prop := ∀ ad cap, v = .agg #[.string j.nm, .slice ad j.ws.length cap, .int .i64 j.lo, .int .i64 j.wo] → w.ownsRow B 69 2 (.slice ad j.ws.length cap) j.ws.length (flatSp j.ws)
theorem agF_stb (B : Nat) (j : Jb) (v : Value) : Stb (AgF B j v) := fun _ _ h k ad cap e => own_below2 (h ad cap e) k
def OneJ (B : Nat) (j : Jb) (v : Value) (w : World) : Prop := ∀ g : Nat, v = .slice (some ⟨g, 0, none⟩) 1 1 → ∃ ad cap, w.heap[g]? = some (.cells #[.string j.nm, .slice ad j.ws.length cap, .int .i64 j.lo, .int .i64 j.wo] 72) ∧ w.ownsRow B 69 2 (.slice ad j.ws.length cap) j.ws.length (flatSp j.ws)
theorem oneJ_stb (B : Nat) (j : Jb) (v : Value) : Stb (OneJ B j v) := fun _ _ h k g e => by
  obtain ⟨ad, cap, h1, h2⟩ := h g e
  exact ⟨ad, cap, keepB h1 k, own_below2 h2 k⟩
theorem infoJb : (Tryd.prog.info? 72).map (fun i => (i.zero, i.size, i.bytes)) = some (some (.agg #[.string ByteArray.empty, .slice none 0 0, .int .i64 0, .int .i64 0]), 4, 56) := by kernel_rfl
/-- one more job. -/
theorem JbOwn.next {w w6 : World} {B : Nat} {v v6 : Value} {l l' : List Jb} {X : List JbX} {j : Jb} {a : Option Addr} {c : Nat} (h : JbOwn w B v l X) (hl : l' = l ++ [j]) (hw : w.ownsRow B 69 2 (.slice a j.ws.length c) j.ws.length (flatSp j.ws)) (hr : w6.ownsRow B 72 4 v6 (l.length + 1) (flatJ X ++ valJ (j, a, c))) (hg : w.grownBy w6 v.ownBlock) : JbOwn w6 B v6 l' (X ++ [(j, a, c)]) := by
  have keep : ∀ {z : Value} {n : Nat} {xs : List Value}, w.ownsRow B 69 2 z n xs → w6.ownsRow B 69 2 z n xs := fun {z n xs} hz => row_keep hz (fun k hk => by
    obtain ⟨_, cur, hc⟩ := row_block hz hk
    refine hg.block k (ltB hc) (fun e => ?_)
    obtain ⟨_, cur2, hc2⟩ := row_block h.row e.symm
    rw [hc] at hc2
    simp at hc2)
  subst hl
  refine ⟨?_, by rw [List.map_append, h.is]; rfl, fun x hx => ?_⟩
  · rw [List.length_append, flatJ_append]
    have e1 : flatJ [(j, a, c)] = valJ (j, a, c) := List.append_nil _
    rw [e1]
    exact hr
  · rcases List.mem_append.1 hx with q | q
    · exact keep (h.win x q)
    · rw [List.mem_singleton] at q
      subst q
      exact keep hw
structure JbC (w : World) (b o : Nat) (j : Jb) (a2 : Option Addr) (c2 : Nat) : Prop where
  c0 : w.cell? ⟨b, o, none⟩ = some (.string j.nm)
  c1 : w.cell? ⟨b, o + 1, none⟩ = some (.slice a2 j.ws.length c2)
  c2 : w.cell? ⟨b, o + 2, none⟩ = some (.int .i64 j.lo)
  c3 : w.cell? ⟨b, o + 3, none⟩ = some (.int .i64 j.wo)
def LjPost (l : List Jb) (w : World) (e : Ending) (w' : World) : Prop := (∃ v X, e = .returned v ∧ JbOwn w' w.heap.size v l X) ∧ Below w.heap.size w w'
theorem Jbtake {l : List Jb} {k : Nat} (h : k < l.length) : l.take (k + 1) = l.take k ++ [l.getD k jb0] := by
  rw [List.take_add_one, List.getElem?_eq_getElem h, List.getD_eq_getElem?_getD, List.getElem?_eq_getElem h]
  rfl
set_option maxRecDepth 100000 in
set_option maxHeartbeats 6400000 in
theorem ljobs_any {w : World} {ad : Option Addr} {cap : Nat} {l : List Jb} (hl : JbCame w ad l) (hn : l.length ≤ 4000) (hw : ∀ k, k < l.length → (l.getD k jb0).ws.length ≤ 4000) :
    Calls Tryd.prog 9 #[.slice ad l.length cap] w (LjPost l w) := by
  obtain ⟨i0, hi0, hz0, hz1, hz2⟩ := info_parts infoJb
  have HL : HeldR (∀ u, Below w.heap.size w u → JbCame u ad l) := hideR (fun u q => hl.below q)
  have HP : HeldR (∀ v X w', JbOwn w' w.heap.size v (l.take l.length) X → Below w.heap.size w w' → LjPost l w (.returned v) w') := hideR (fun v X w' h1 h2 => by rw [List.take_length] at h1; exact ⟨⟨v, X, rfl, h1⟩, h2⟩)
  have HT : HeldR (∀ k, k < l.length → l.take (k + 1) = l.take k ++ [l.getD k jb0]) := hideR (fun k hk => Jbtake hk)
  have HTl : HeldR (∀ k, k ≤ l.length → (l.take k).length = k) := hideR (fun k hk => by rw [List.length_take]; omega)
  have HW := hideR hw
  have HO0 : HeldR (JbOwn w w.heap.size (.slice none 0 0) (l.take 0) []) := hideR ⟨World.ownsRow_nil _ _ _ _, rfl, fun x hx => nomatch hx⟩
  generalize LjPost l w = POST at *
  obtain ⟨n, hn0⟩ : ∃ n, l.length = n := ⟨_, rfl⟩
  have Hn := hideR hn0
  rw [hn0] at HP HT HTl HW hn ⊢
  clear hl hn0 hw
  go_enter Tryd.func9, Tryd.ntmps9
  go_wp2_with fail
  go_loopw [3, 4] (fun ov iv wl => ∃ (i : Nat) (X : List JbX), i ≤ n ∧ iv = .int .i64 (i : Nat) ∧ HeldR (JbOwn wl w.heap.size ov (l.take i) X) ∧ HeldR (Below w.heap.size w wl)) (fun _ iv _ => n + 1 - (intOf iv).toNat)
  case atStart => exact ⟨0, [], by omega, rfl, HO0, hideR (Below.refl _ _)⟩
  case round =>
    clear HO0
    obtain ⟨i, X, hi, rfl, HO, HB⟩ := hrel
    by_cases q : i < n
    case neg =>
      obtain rfl : i = n := by omega
      have ti : decide ((i : Int) < (i : Int)) = false := decide_eq_false (by omega)
      have tin : decide (i < i) = false := decide_eq_false (by omega)
      have HQ := hideR (unhideR HP _ _ _ (unhideR HO) (unhideR HB))
      clear HO HB HP HT HTl HL HW
      go_wp2
      exact unhideR HQ
    have ti : decide ((i : Int) < (n : Int)) = true := decide_eq_true (by omega)
    have tin : decide (i < n) = true := decide_eq_true q
    have wi : IntKind.i64.wrap ((i : Int) + 1) = (i : Int) + 1 := iwrap (by omega) (by omega)
    have hii : (i : Int) < (n : Int) := by omega
    have HT2 := hideR (unhideR HT i q)
    have HNl : HeldR ((l.take i).length = i) := hideR (unhideR HTl i hi)
    obtain ⟨bb, off, had, hbb, hJ⟩ := (unhideR HL wr (unhideR HB)).at_ i (by rw [unhideR Hn]; exact q)
    subst had
    obtain ⟨a2, c2, hj1, hs2⟩ := hJ.c1
    have hwl := unhideR HW i q
    have HY : HeldR (∀ v, Below wr.heap.size wr v → JbC v bb (off + i * 4) (l.getD i jb0) a2 c2 ∧ SpCame v a2 (l.getD i jb0).ws) := hideR (fun v hv => ⟨⟨(hv.cell (p := ⟨bb, off + i * 4, none⟩) hbb).trans hJ.c0, (hv.cell (p := ⟨bb, off + i * 4 + 1, none⟩) hbb).trans hj1, (hv.cell (p := ⟨bb, off + i * 4 + 2, none⟩) hbb).trans hJ.c2, (hv.cell (p := ⟨bb, off + i * 4 + 3, none⟩) hbb).trans hJ.c3⟩, hs2.below hv⟩)
    clear hJ hj1 hs2
    generalize l.getD i jb0 = j at *
    have hsp := fun v (hv : Below wr.heap.size wr v) => lspans_any (c2 := c2) (unhideR HY v hv).2 hwl
    unfold LspPost at hsp
    have hwle : w.heap.size ≤ wr.heap.size := (unhideR HB).size
    obtain ⟨ap, cp, ep⟩ := ownsRow_slice (unhideR HO).row
    subst ep
    rw [unhideR HNl]
    go_upto_region 5 with fail
    refine M.wp_region_made 1 #[true, true, true, true, true, true, true, true, true, true, true, true, true, true, true, true, true, true, true, true, true, true, true, true, false, false] [.lets (· = .slice ap i cp),
      .lets (· = .slice (some ⟨bb, off, none⟩) n cap),
      .lets (· = .int .i64 (i : Nat)),
      .lets (· = .pointer (some ⟨bb, off + i * 4, none⟩)),
      .lets (· = .pointer (some ⟨bb, off + i * 4, none⟩)),
      .lets (· = .string j.nm),
      .lets (· = .slice (some ⟨bb, off, none⟩) n cap),
      .lets (· = .int .i64 (i : Nat)),
      .lets (· = .pointer (some ⟨bb, off + i * 4, none⟩)),
      .lets (· = .pointer (some ⟨bb, off + i * 4 + 1, none⟩)),
      .lets (· = .slice a2 j.ws.length c2),
      .made (SlW j.ws.length) (OwS w.heap.size j.ws),
      .lets (· = .slice (some ⟨bb, off, none⟩) n cap),
      .lets (· = .int .i64 (i : Nat)),
      .lets (· = .pointer (some ⟨bb, off + i * 4, none⟩)),
      .lets (· = .pointer (some ⟨bb, off + i * 4 + 2, none⟩)),
      .lets (· = .int .i64 j.lo),
      .lets (· = .slice (some ⟨bb, off, none⟩) n cap),
      .lets (· = .int .i64 (i : Nat)),
      .lets (· = .pointer (some ⟨bb, off + i * 4, none⟩)),
      .lets (· = .pointer (some ⟨bb, off + i * 4 + 3, none⟩)),
      .lets (· = .int .i64 j.wo),
      .made (AgJ j) (AgF w.heap.size j),
      .made SlP (OneJ w.heap.size j)] [11, 22, 23] [11, 22, 23] (by kernel_rfl) (by kernel_rfl) rfl ?kinds (by kernel_rfl) (by kernel_rfl) (by kernel_rfl) ?_
    case kinds =>
      constructor
      · intro i h
        rcases i with _ | _ | _ | _ | _ | _ | _ | _ | _ | _ | _ | _ | _ | _ | _ | _ | _ | _ | _ | _ | _ | _ | _ | _ | i <;> simp [M.Kx.isMade] at h ⊢
      · intro i h
        rcases i with _ | _ | _ | _ | _ | _ | _ | _ | _ | _ | _ | _ | _ | _ | _ | _ | _ | _ | _ | _ | _ | _ | _ | _ | i <;> simp [M.Kx.isUse] at h ⊢
    refine M.lexX_step (fun K hK => ⟨by kernel_rfl, ⟨_, rfl⟩, fun v hv => ?_, fun v hv => ?_⟩)
    · go_simp
      exact mUpon_b
    subst hv
    go_simp
    refine hK _ ?_
    clear hK K
    refine M.lexX_step (fun K hK => ⟨by kernel_rfl, ⟨_, rfl⟩, fun v hv => ?_, fun v hv => ?_⟩)
    · go_simp
      exact mUpon_b
    subst hv
    go_simp
    refine hK _ ?_
    clear hK K
    refine M.lexX_step (fun K hK => ⟨by kernel_rfl, ⟨_, rfl⟩, fun v hv => ?_, fun v hv => ?_⟩)
    · go_simp
      exact mUpon_b
    subst hv
    go_simp
    refine hK _ ?_
    clear hK K
    refine M.lexX_step (fun K hK => ⟨by kernel_rfl, ⟨_, rfl⟩, fun v hv => ?_, fun v hv => ?_⟩)
    · go_simp
      exact mUpon_b
    subst hv
    go_simp
    refine hK _ ?_
    clear hK K
    refine M.lexX_step (fun K hK => ⟨by kernel_rfl, ⟨_, rfl⟩, fun v hv => ?_, fun v hv => ?_⟩)
    · go_simp
      exact mUpon_b
    subst hv
    go_simp
    refine hK _ ?_
    clear hK K
    refine M.lexX_step (fun K hK => ⟨by kernel_rfl, ⟨_, rfl⟩, fun v hv => ?_, fun v hv => ?_⟩)
    · have y9 := (unhideR HY v hv).1.c0
      go_simp
      exact mUpon_b
    subst hv
    go_simp
    refine hK _ ?_
    clear hK K
    refine M.lexX_step (fun K hK => ⟨by kernel_rfl, ⟨_, rfl⟩, fun v hv => ?_, fun v hv => ?_⟩)
    · go_simp
      exact mUpon_b
    subst hv
    go_simp
    refine hK _ ?_
    clear hK K
    refine M.lexX_step (fun K hK => ⟨by kernel_rfl, ⟨_, rfl⟩, fun v hv => ?_, fun v hv => ?_⟩)
    · go_simp
      exact mUpon_b
    subst hv
    go_simp
    refine hK _ ?_
    clear hK K
    refine M.lexX_step (fun K hK => ⟨by kernel_rfl, ⟨_, rfl⟩, fun v hv => ?_, fun v hv => ?_⟩)
    · go_simp
      exact mUpon_b
    subst hv
    go_simp
    refine hK _ ?_
    clear hK K
    refine M.lexX_step (fun K hK => ⟨by kernel_rfl, ⟨_, rfl⟩, fun v hv => ?_, fun v hv => ?_⟩)
    · go_simp
      exact mUpon_b
    subst hv
    go_simp
    refine hK _ ?_
    clear hK K
    refine M.lexX_step (fun K hK => ⟨by kernel_rfl, ⟨_, rfl⟩, fun v hv => ?_, fun v hv => ?_⟩)
    · have y9 := (unhideR HY v hv).1.c1
      go_simp
      exact mUpon_b
    subst hv
    go_simp
    refine hK _ ?_
    clear hK K
    refine M.lexX_made ⟨by kernel_rfl, ⟨_, none, 0, rfl⟩, owS_stb _ _, fun v hv hγ => ?_, ?_⟩
    · go_simp
      refine (hsp v hv).mono ?_
      rintro e w9 ⟨⟨v9, rfl, h9⟩, k9⟩
      exact ⟨_, rfl, ⟨ownsRow_slice h9, own_lowerG h9 (Nat.le_trans hwle hv.size)⟩, k9⟩
    rintro _ ⟨aws, cws, rfl⟩ K9 hK
    go_simp
    refine hK _ ?_
    clear hK K9
    refine M.lexX_step (fun K hK => ⟨by kernel_rfl, ⟨_, rfl⟩, fun v hv => ?_, fun v hv => ?_⟩)
    · go_simp
      exact mUpon_b
    subst hv
    go_simp
    refine hK _ ?_
    clear hK K
    refine M.lexX_step (fun K hK => ⟨by kernel_rfl, ⟨_, rfl⟩, fun v hv => ?_, fun v hv => ?_⟩)
    · go_simp
      exact mUpon_b
    subst hv
    go_simp
    refine hK _ ?_
    clear hK K
    refine M.lexX_step (fun K hK => ⟨by kernel_rfl, ⟨_, rfl⟩, fun v hv => ?_, fun v hv => ?_⟩)
    · go_simp
      exact mUpon_b
    subst hv
    go_simp
    refine hK _ ?_
    clear hK K
    refine M.lexX_step (fun K hK => ⟨by kernel_rfl, ⟨_, rfl⟩, fun v hv => ?_, fun v hv => ?_⟩)
    · go_simp
      exact mUpon_b
    subst hv
    go_simp
    refine hK _ ?_
    clear hK K
    refine M.lexX_step (fun K hK => ⟨by kernel_rfl, ⟨_, rfl⟩, fun v hv => ?_, fun v hv => ?_⟩)
    · have y9 := (unhideR HY v hv).1.c2
      go_simp
      exact mUpon_b
    subst hv
    go_simp
    refine hK _ ?_
    clear hK K
    refine M.lexX_step (fun K hK => ⟨by kernel_rfl, ⟨_, rfl⟩, fun v hv => ?_, fun v hv => ?_⟩)
    · go_simp
      exact mUpon_b
    subst hv
    go_simp
    refine hK _ ?_
    clear hK K
    refine M.lexX_step (fun K hK => ⟨by kernel_rfl, ⟨_, rfl⟩, fun v hv => ?_, fun v hv => ?_⟩)
    · go_simp
      exact mUpon_b
    subst hv
    go_simp
    refine hK _ ?_
    clear hK K
    refine M.lexX_step (fun K hK => ⟨by kernel_rfl, ⟨_, rfl⟩, fun v hv => ?_, fun v hv => ?_⟩)
    · go_simp
      exact mUpon_b
    subst hv
    go_simp
    refine hK _ ?_
    clear hK K
    refine M.lexX_step (fun K hK => ⟨by kernel_rfl, ⟨_, rfl⟩, fun v hv => ?_, fun v hv => ?_⟩)
    · go_simp
      exact mUpon_b
    subst hv
    go_simp
    refine hK _ ?_
    clear hK K
    refine M.lexX_step (fun K hK => ⟨by kernel_rfl, ⟨_, rfl⟩, fun v hv => ?_, fun v hv => ?_⟩)
    · have y9 := (unhideR HY v hv).1.c3
      go_simp
      exact mUpon_b
    subst hv
    go_simp
    refine hK _ ?_
    clear hK K
    refine M.lexX_made ⟨by kernel_rfl, ⟨_, none, 0, rfl⟩, agF_stb _ _, fun v hv hγ => ?_, ?_⟩
    · have h9 := hγ.2
      go_simp
      exact ⟨Below.refl _ _, ⟨_, _, rfl⟩, fun a' c' e' => by cases e'; exact h9⟩
    rintro _ ⟨at_, ct, rfl⟩ K9 hK
    go_simp
    refine hK _ ?_
    clear hK K9
    refine M.lexX_made ⟨by kernel_rfl, ⟨_, 0, rfl⟩, oneJ_stb _ _, fun v hv hγ => ?_, ?_⟩
    · have h9 := hγ.2 _ _ rfl
      go_simp
      exact ⟨below_a v _, ⟨_, rfl⟩, fun q' hq' => by cases hq'; exact ⟨_, _, alloc_last v _, own_below2 h9 (below_a v _)⟩⟩
    rintro _ ⟨u9, rfl⟩ K9 hK
    go_simp
    refine hK _ ?_
    clear hK K9
    refine M.lexX_end (fun v5 hv => ?_)
    obtain ⟨an, cn, z9, h9⟩ := hv.fact.2 _ rfl
    have hO5 := (unhideR HO).below hv.low
    have HO5 := hideR hO5
    have hrow := hO5.row
    rw [unhideR HNl] at hrow
    have HB5 := hideR ((unhideR HB).trans (hv.low.mono (unhideR HB).size))
    have HN5 : HeldR (∀ w6 v6, w6.ownsRow w.heap.size 72 4 v6 (i + 1) (flatJ X ++ valJ (j, an, cn)) → v5.grownBy w6 (Value.slice ap i cp).ownBlock → JbOwn w6 w.heap.size v6 (l.take (i + 1)) (X ++ [(j, an, cn)])) := hideR (fun w6 v6 h1 h2 => by
      refine (unhideR HO5).next (unhideR HT2) h9 ?_ ?_
      · rw [unhideR HNl]; exact h1
      · rw [unhideR HNl]; exact h2)
    clear hv HY hsp hO5
    refine wpAny_step (i := 24) (by kernel_rfl) rfl (by kernel_rfl) (fun K hK => ?_)
    refine wp_append_at _ _ 30 rfl w.heap.size 72 i0 (.agg #[.string ByteArray.empty, .slice none 0 0, .int .i64 0, .int .i64 0]) 4 56 Tryd.underlying30 hi0 hz0 hz1 hz2 rfl (by decide) _ i (flatJ X) rfl hrow ⟨u9, 0, none⟩ 1 1 (valJ (j, an, cn)) rfl rfl ?q1 ?q2 ?q3 ?q4 ?q5 ?_
    case q1 =>
      intro jj u hu
      rw [add_pl2, Nat.zero_add]
      rcases jj with _ | _ | _ | _ | jj
      · rw [← hu]; exact (cells_at z9 0 (by simp)).1
      · rw [← hu]; exact (cells_at z9 1 (by simp)).1
      · rw [← hu]; exact (cells_at z9 2 (by simp)).1
      · rw [← hu]; exact (cells_at z9 3 (by simp)).1
      · simp [valJ] at hu
    case q2 =>
      intro u hu
      simp only [valJ, List.mem_cons, List.not_mem_nil, or_false] at hu
      rcases hu with rfl | rfl | rfl | rfl <;> rfl
    case q3 => unfold maxLen; omega
    case q4 => omega
    case q5 => exact (unhideR HB5).size
    intro v6 w6 hown hgrow hloc
    have HB9 := hideR ((unhideR HB5).grown hgrow (unhideR HB5).size (fun k e => (hrow.lt k e).1))
    have HO9 := hideR (unhideR HN5 w6 v6 hown hgrow)
    clear hown hgrow hloc HO5 HB5 z9 h9 HO HB HT2 HN5 hrow
    go_simp
    refine hK _ _ ?_
    clear hK K
    refine wpAny_step (i := 25) (by kernel_rfl) rfl (by kernel_rfl) (fun K hK => ?_)
    unfold Oper.wp
    go_simp
    refine hK _ _ ?_
    clear hK K
    refine wpAny_end (by kernel_rfl) ?_
    go_wp2
    exact ⟨⟨i + 1, X ++ [(j, an, cn)], by omega, by go_num, HO9, HB9⟩, by simp [intOf]; omega⟩
end Go.Proofs.YtoacdaemhcbbhaaDoor
