/-
  An atlas that is only read; whether a cell is small: the program's, by contract. The parts that have stars, the nearest first: the program's, by contract.
-/
import Derived.Test.YtfonpobdnhifgamGreatDoorAtS4
import Derived.Test.YtfonpobdnhifgamGreatDoorAtMC
namespace Go.Proofs.YtfonpobdnhifgamGreatDoor
open Go Go.RowKit

/-- an atlas that is only read. -/
structure RO (W0 : World) (p : Nat) (lv : Int) (L : List En) (ad : Option Addr) (cap bn bc : Nat) (es : Array MapEntry) (clock : Nat) (sn : Int) : Prop where
  lvl : 0 ≤ lv ∧ lv ≤ 12
  hp : W0.heap[p]? = some (.cells #[.int .i64 lv, .slice ad L.length cap, .map (some bn), .map (some bc), .int .i64 sn] 82)
  hb : W0.heap[bc]? = some (.map es clock)
  st : ∀ k, k < L.length → ∃ b, ad = some ⟨b, 0, none⟩ ∧ b < W0.heap.size ∧ StAt W0 b (k * 4) (L.getD k en0)
  cl : ∀ s, SqOk s → ∃ adz capz, (∀ k, k < (GOf lv L s).length → ∃ b, adz = some ⟨b, 0, none⟩ ∧ b < W0.heap.size ∧ W0.cell? ⟨b, k, none⟩ = some (.int .i64 ((GOf lv L s).getD k 0))) ∧ ∀ u : World, u.heap[bc]? = some (.map es clock) → (Instr.lookup 80 (.map (some bc)) s.val false).run Tryz.prog u = .ok (.slice adz (GOf lv L s).length capz) u
  dir : ∀ e ∈ L, dirB e.d = true
theorem ARepX.ro {w : World} {p : Nat} {lv : Int} {L : List En} {sn : Int} {sv : Value} {bn bc : Nat} {es : Array MapEntry} {clock : Nat} (h : ARepX w p lv L sn sv bn bc es clock) : ∃ ad cap, sv = .slice ad L.length cap ∧ RO w p lv L ad cap bn bc es clock sn := by
  obtain ⟨ad, cap, e, _, hst⟩ := h.st.at
  refine ⟨ad, cap, e, h.lvl, by rw [← e]; exact h.hp, h.cl.hb, fun k hk => ?_, fun s hs => ?_, h.dir⟩
  · obtain ⟨b, h1, _, h3, h4⟩ := hst k hk
    exact ⟨b, h1, h3, h4⟩
  · obtain ⟨v, hr, _, hlk⟩ := h.cl.look hs
    obtain ⟨adz, capz, ev, hz⟩ := hr.at
    subst ev
    exact ⟨adz, capz, hz, hlk⟩
theorem SqV.ok {s : Sq} {n : Nat} (h : SqV s n) : SqOk s := by
  have p := pow12 h.n12
  have h1 := h.f
  have h2 := h.l
  have h3 := h.n12
  have h4 := h.c
  have h5 := h.r
  refine ⟨⟨?_, ?_⟩, ⟨?_, ?_⟩, ⟨?_, ?_⟩, ⟨?_, ?_⟩⟩ <;> omega
def smB (lv : Int) (L : List En) (s : Sq) : Bool := decide (s.l = lv) || (decide (0 < s.l) && decide ((GOf lv L s).length ≤ 16))
set_option maxRecDepth 1000000 in
set_option maxHeartbeats 6400000 in
theorem psmall_any {W0 W : World} {p : Nat} {lv : Int} {L : List En} {ad : Option Addr} {cap bn bc : Nat} {es : Array MapEntry} {clock : Nat} {sn : Int} (h : RO W0 p lv L ad cap bn bc es clock sn) (hB : Below W0.heap.size W0 W) (s : Sq) (hs : SqOk s) :
    Calls Tryz.prog 79 #[.pointer (some ⟨p, 0, none⟩), s.val] W fun r w' => r = .returned (.bool (smB lv L s)) ∧ Below W.heap.size W w' := by
  obtain ⟨adz, capz, _, hlk⟩ := h.cl s hs
  have hp0 := (hB.block p (ltB h.hp)).trans h.hp
  have hb0 := (hB.block bc (ltB h.hb)).trans h.hb
  unfold smB
  generalize GOf lv L s = zs at *
  obtain ⟨m, hm⟩ : ∃ m, zs.length = m := ⟨_, rfl⟩
  rw [hm] at hlk ⊢
  obtain ⟨n, hn⟩ : ∃ n, L.length = n := ⟨_, rfl⟩
  rw [hn] at hp0
  clear h hB hm hn
  obtain ⟨f, l, c, r⟩ := s
  unfold Sq.val at hlk ⊢
  simp only at hlk ⊢
  have z := alloc_last W (.cells #[.int .i64 f, .int .i64 l, .int .i64 c, .int .i64 r] 61)
  have hp1 := keepA (o' := .cells #[.int .i64 f, .int .i64 l, .int .i64 c, .int .i64 r] 61) hp0
  have hb1 := keepA (o' := .cells #[.int .i64 f, .int .i64 l, .int .i64 c, .int .i64 r] 61) hb0
  have HB := hideR (below_a W (.cells #[.int .i64 f, .int .i64 l, .int .i64 c, .int .i64 r] 61))
  have a0 := (cells_at hp1 0 (by simp)).1
  have a3 := (cells_at hp1 3 (by simp)).1
  have x0 := (cells_at z 0 (by simp)).1
  have x1 := (cells_at z 1 (by simp)).1
  have x2 := (cells_at z 2 (by simp)).1
  have x3 := (cells_at z 3 (by simp)).1
  have hl2 := hlk (W.alloc (.cells #[.int .i64 f, .int .i64 l, .int .i64 c, .int .i64 r] 61)).drew hb1
  clear hp0 hb0 hp1 hb1 z hlk hs
  by_cases e1 : l = lv
  · have t1 : decide (l = lv) = true := decide_eq_true e1
    subst e1
    clear hl2
    rw [decide_eq_true rfl, Bool.true_or]
    go_enter Tryz.func79, Tryz.ntmps79
    go_wp2
    go_region
    go_wp2
    go_ret
    exact ⟨rfl, drewF (unhideR HB)⟩
  have t1 : decide (l = lv) = false := decide_eq_false e1
  have tb : (l == lv) = false := beq_eq_false_iff_ne.2 e1
  rw [t1, Bool.false_or]
  by_cases e2 : 0 < l
  · have t2 : decide (0 < l) = true := decide_eq_true e2
    rw [t2, Bool.true_and]
    go_enter Tryz.func79, Tryz.ntmps79
    go_wp2
    go_region
    go_wp2
    go_ret
    refine ⟨congrArg (fun b => Ending.returned (.bool b)) ?_, drewF (unhideR HB)⟩
    rw [Bool.eq_iff_iff]
    simp
    try omega
  · have t2 : decide (0 < l) = false := decide_eq_false e2
    rw [t2, Bool.false_and]
    clear hl2
    go_enter Tryz.func79, Tryz.ntmps79
    go_wp2
    go_region
    go_wp2
    go_ret
    exact ⟨rfl, drewF (unhideR HB)⟩
end Go.Proofs.YtfonpobdnhifgamGreatDoor
namespace Go.Proofs.YtfonpobdnhifgamGreatDoor
open Go Go.RowKit

/-- a search in memory. -/
def SB (W : World) (b p : Nat) (d : Dr) (fe ft : Value) (lk : Int) : Prop := W.heap[b]? = some (.cells #[.pointer (some ⟨p, 0, none⟩), .int .i64 d.x, .int .i64 d.y, .int .i64 d.z, fe, ft, .int .i64 lk] 111)
abbrev PRow (w : World) (B : Nat) (v : Value) (M : List Pt) : Prop := w.ownsRow B 139 8 v M.length (flatP M)
theorem infoP : (Tryz.prog.info? 139).map (fun i => (i.zero, i.size, i.bytes)) = some (some (.agg #[.int .i64 0, .int .i64 0, .int .i64 0, .int .i64 0, .int .i64 0, .int .u64 0, .int .u64 0, .int .i64 0]), 8, 64) := by kernel_rfl
def OneP (q : Pt) (v : Value) (w : World) : Prop := ∀ g : Nat, v = .slice (some ⟨g, 0, none⟩) 1 1 → w.heap[g]? = some (.cells (valPt q).toArray 139)
theorem oneP_stb (q : Pt) (v : Value) : Stb (OneP q v) := fun _ _ h k g e => keepB (h g e) k
def OneE (d : Dr) (s : Sq) (n : Nat) (v : Value) (w : World) : Prop := ∃ c, Cap d s n c ∧ OneP ⟨s, c⟩ v w
theorem oneE_stb (d : Dr) (s : Sq) (n : Nat) (v : Value) : Stb (OneE d s n v) := fun _ _ ⟨c, h1, h2⟩ k => ⟨c, h1, oneP_stb _ _ _ _ h2 k⟩
theorem one_p {w : World} {g : Nat} {e : Pt} (h : w.heap[g]? = some (.cells (valPt e).toArray 139)) : ∀ k u, (valPt e)[k]? = some u → w.cell? ((⟨g, 0, none⟩ : Addr).add k) = some u := by
  intro k u hu
  rw [add_plS, Nat.zero_add]
  simp only [World.cell?, h, Option.isSome_none, Bool.false_eq_true, if_false]
  rw [List.getElem?_toArray]
  exact hu
theorem make_parts {w : World} {m : Nat} (hm : m ≤ 1000) : ∃ w', (Instr.makeSlice 136 (.int .i64 0) (.int .i64 (m : Int))).run Tryz.prog w = .ok (.slice (some ⟨w.heap.size, 0, none⟩) 0 m) w' ∧ PRow w' w.heap.size (.slice (some ⟨w.heap.size, 0, none⟩) 0 m) [] ∧ Below w.heap.size w w' := by
  obtain ⟨i, hi, hz, h1, h2⟩ := info_parts infoP
  obtain ⟨w', a1, a2, a3⟩ := run_make_own (P := Tryz.prog) w w.heap.size 136 139 i (.agg #[.int .i64 0, .int .i64 0, .int .i64 0, .int .i64 0, .int .i64 0, .int .u64 0, .int .u64 0, .int .i64 0]) 8 Tryz.underlying136 hi hz h1 .i64 .i64 m (by rw [h2]; omega) (by simp [maxLen]; omega) (Nat.le_refl _)
  exact ⟨w', a1, a2, (Below.refl _ _).grown a3 (Nat.le_refl _) (fun k hk => by cases hk)⟩
/-- those of the cells that have stars. -/
def hasB (lv : Int) (K : List En) (s : Sq) : Bool := decide (0 < (GOf lv K s).length)
structure PsOk (d : Dr) (n : Nat) (M : List Pt) : Prop where
  cap : ∀ q ∈ M, Cap d q.s n q.c
def NfPost (lv : Int) (K : List En) (d : Dr) (n : Nat) (C : List Sq) (w : World) (r : Ending) (w' : World) : Prop := (∃ v M, r = .returned v ∧ PRow w' w.heap.size v M ∧ Dn M M.length ∧ (M.map (·.s)).Perm (C.filter (hasB lv K)) ∧ ∀ q ∈ M, Cap d q.s n q.c) ∧ Below w.heap.size w w'
theorem take_filter {C : List Sq} {f : Sq → Bool} {k : Nat} (hk : k < C.length) : (C.take (k + 1)).filter f = if f (C.getD k sq0) then (C.take k).filter f ++ [C.getD k sq0] else (C.take k).filter f := by
  have e : C.take (k + 1) = C.take k ++ [C.getD k sq0] := by
    rw [List.getD_eq_getElem?_getD, List.getElem?_eq_getElem hk]
    exact (List.take_append_getElem hk).symm
  rw [e, List.filter_append]
  generalize C.getD k sq0 = x
  split
  · rename_i h
    simp [h]
  · rename_i h
    simp [h]
/-- the row so far. -/
def NfSt (w0 : World) (lv : Int) (K : List En) (d : Dr) (n : Nat) (C : List Sq) (k : Nat) (v : Value) (w : World) : Prop := ∃ g cap M, v = .slice (some ⟨g, 0, none⟩) M.length cap ∧ PRow w w0.heap.size v M ∧ M.map (·.s) = (C.take k).filter (hasB lv K) ∧ (∀ q ∈ M, Cap d q.s n q.c) ∧ Below w0.heap.size w0 w
theorem NfSt.len {lv : Int} {K : List En} {C : List Sq} {k : Nat} {M : List Pt} (h : M.map (·.s) = (C.take k).filter (hasB lv K)) (hC : C.length ≤ 6) : M.length ≤ 6 := by
  have h1 : (M.map (·.s)).length = M.length := List.length_map _
  have h2 := List.length_filter_le (hasB lv K) (C.take k)
  rw [← h, h1] at h2
  have h3 := List.length_take_le k C
  have h4 : (C.take k).length ≤ C.length := by rw [List.length_take]; omega
  omega
set_option maxRecDepth 1000000 in
set_option maxHeartbeats 6400000 in
theorem pfirst_any {W0 W : World} {p : Nat} {lv : Int} {K : List En} {ad : Option Addr} {cap bn bc : Nat} {es : Array MapEntry} {clock : Nat} {sn : Int} (h : RO W0 p lv K ad cap bn bc es clock sn) (hB : Below W0.heap.size W0 W) {b : Nat} {d : Dr} (hd : dirB d = true) {fe ft : Value} {lk : Int} (hs : SB W b p d fe ft lk) {n : Nat}
    {bq capq : Nat} {C : List Sq} (hC : ∀ s ∈ C, SqV s n) (hCl : C.length ≤ 6) (hbq : bq < W.heap.size) (hq : ∀ k, k < C.length → QAt W bq (k * 4) (C.getD k sq0)) :
    Calls Tryz.prog 78 #[.pointer (some ⟨b, 0, none⟩), .slice (some ⟨bq, 0, none⟩) C.length capq] W (NfPost lv K d n C W) := by
  obtain ⟨i0, hi, hz0, hz1, hz2⟩ := info_parts infoP
  have hp0 := (hB.block p (ltB h.hp)).trans h.hp
  have hb0 := (hB.block bc (ltB h.hb)).trans h.hb
  have HC := hideR hC
  have Hq := hideR hq
  have HR := hideR h
  have Hs := hideR hs
  have Hp := hideR hp0
  have Hb := hideR hb0
  have HD := hideR hd
  have HP : HeldR (∀ v g cap M M' R w5 w6, v = .slice (some ⟨g, 0, none⟩) M.length cap → PRow w5 W.heap.size v M → w5.heap[g]? = some (.cells (flatP M ++ R).toArray 139) → M.map (·.s) = (C.take C.length).filter (hasB lv K) → (∀ q ∈ M, Cap d q.s n q.c) → Below W.heap.size W w5 → M'.Perm M → Dn M' M.length → PSo w5 g R M' w6 → NfPost lv K d n C W (.returned v) w6) := hideR (by
    intro v g cap M M' R w5 w6 e1 h1 hh h2 h3 h4 h5 h6 h7
    have hl : M'.length = M.length := h5.length_eq
    obtain ⟨_, hr⟩ := h1
    rw [e1] at hr
    rcases hr with ⟨e, _⟩ | ⟨g1, cap1, cur1, e, hg, hg2, hg3, hg4, hg5, hg6⟩
    · cases e
    · injection e with e2 _ e4
      injection e2 with e2
      injection e2 with e2
      subst e2 e4
      have ec : cur1 = (flatP M ++ R).toArray := by
        have := hg2.symm.trans hh
        simpa using this
      refine ⟨⟨v, M', rfl, ⟨?_, ?_⟩, by rw [hl]; exact h6, ?_, fun q hq' => h3 q (h5.mem_iff.1 hq')⟩, h7.oth.below (fun k e => by subst e; exact hg) h4 (Nat.le_refl _)⟩
      · rw [flatP_length]
      · rw [hl]
        refine .inr ⟨g, cap, _, e1, hg, h7.hp, hg3, hg4, ?_, ?_⟩
        · rw [← hg5, ec]
          show (flatP M' ++ R).length = (flatP M ++ R).length
          rw [List.length_append, List.length_append, flatP_length, flatP_length, hl]
        · rw [List.take_left' (by rw [flatP_length, hl])]
      · rw [List.take_length] at h2
        rw [← h2]
        exact h5.map _)
  obtain ⟨m, hm⟩ : ∃ m, C.length = m := ⟨_, rfl⟩
  have Hm := hideR hm
  rw [hm] at hCl HP ⊢
  obtain ⟨w1, hmk, hrow, hb1⟩ := make_parts (w := W) (m := m) (by omega)
  have H0 : HeldR (NfSt W lv K d n C 0 (.slice (some ⟨W.heap.size, 0, none⟩) 0 m) w1) := hideR ⟨_, _, [], rfl, hrow, rfl, (fun q hq' => nomatch hq'), hb1⟩
  generalize NfPost lv K d n C W = NP at *
  clear hrow hb1 hC hq hs hp0 hb0 h hm hd
  go_enter Tryz.func78, Tryz.ntmps78
  go_wp2_with fail
  clear hmk
  go_loopw [5, 13] (fun ov iv wl => ∃ k : Nat, k ≤ m ∧ iv = .int .i64 (k : Nat) ∧ HeldR (NfSt W lv K d n C k ov wl)) (fun _ iv _ => m + 1 - (intOf iv).toNat)
  case atStart => exact ⟨0, by omega, rfl, H0⟩
  case round =>
    clear H0
    obtain ⟨k, hk, rfl, HS⟩ := hrel
    by_cases q : k < m
    case neg =>
      obtain rfl : k = m := by omega
      have ti : decide ((k : Int) < (k : Int)) = false := decide_eq_false (by omega)
      have tin : decide (k < k) = false := decide_eq_false (by omega)
      obtain ⟨g, capg, M, e1, h1, h2, h3, h4⟩ := unhideR HS
      have hMl : M.length ≤ 6 := NfSt.len h2 (by rw [unhideR Hm]; exact hCl)
      obtain ⟨R, hR⟩ : ∃ R, wr.heap[g]? = some (.cells (flatP M ++ R).toArray 139) := by
        rcases h1.2 with ⟨e, _⟩ | ⟨g1, cap1, cur1, e, hg, hg2, hg3, hg4, hg5, hg6⟩
        · rw [e1] at e; cases e
        · rw [e1] at e
          injection e with e2 _ e4
          injection e2 with e2
          injection e2 with e2
          subst e2
          refine ⟨cur1.toList.drop (M.length * 8), hg2.trans ?_⟩
          rw [← hg6, List.take_append_drop, Array.toArray_toList]
      have hso := psort_any (cap := capg) (fun q hq' => (h3 q hq').1) (by omega) (⟨hR, Oth.refl _ _⟩ : PSo wr g R M wr)
      have HQ : HeldR (∀ M' w6, M'.Perm M → Dn M' M.length → PSo wr g R M' w6 → NP (.returned u5) w6) := hideR (fun M' w6 a1 a2 a3 => unhideR HP u5 g capg M M' R wr w6 e1 h1 hR h2 h3 h4 a1 a2 a3)
      subst e1
      clear h1 h2 h3 h4 hR HS HP
      go_wp2_with fail
      refine hso.mono ?_
      rintro r w6 ⟨rfl, M', a1, a2, a3⟩
      have HQ2 := hideR (unhideR HQ M' w6 a1 a2 a3)
      clear a1 a2 a3 hso HQ
      go_wp2
      exact unhideR HQ2
    have ti : decide ((k : Int) < (m : Int)) = true := decide_eq_true (by omega)
    have tin : decide (k < m) = true := decide_eq_true q
    have wi : IntKind.i64.wrap ((k : Int) + 1) = (k : Int) + 1 := iwrap (by omega) (by omega)
    have hkm : (k : Int) < (m : Int) := by omega
    have hkl : k < C.length := by rw [unhideR Hm]; exact q
    have hsm : C.getD k sq0 ∈ C := by
      rw [List.getD_eq_getElem?_getD, List.getElem?_eq_getElem hkl]
      exact List.getElem_mem hkl
    have hsv := unhideR HC _ hsm
    obtain ⟨adz, capz, _, hlk⟩ := (unhideR HR).cl _ hsv.ok
    have hnr := fun x => pnear_any d (unhideR HD) (C.getD k sq0) hsv x
    have hcw : ∃ c, Cap d (C.getD k sq0) n c := ⟨_, cap_held (unhideR HD) _ n⟩
    obtain ⟨g, capg, M, e1, h1, h2, h3, h4⟩ := unhideR HS
    have hMl : M.length ≤ 6 := NfSt.len h2 (by rw [unhideR Hm]; exact hCl)
    have htf := take_filter (f := hasB lv K) hkl
    have HN : HeldR (∀ w', Below wr.heap.size wr w' → hasB lv K (C.getD k sq0) = false → NfSt W lv K d n C (k + 1) u5 w') := hideR (fun w' hb hn => by
      rw [hn, if_neg (by decide)] at htf
      exact ⟨g, capg, M, e1, own_belowC h1 hb, by rw [htf]; exact h2, h3, h4.trans (hb.mono h4.size)⟩)
    have HA : HeldR (∀ c v' w', Cap d (C.getD k sq0) n c → hasB lv K (C.getD k sq0) = true → w'.ownsRow W.heap.size 139 8 v' (M.length + 1) (flatP M ++ valPt ⟨C.getD k sq0, c⟩) → Below W.heap.size W w' → NfSt W lv K d n C (k + 1) v' w') := hideR (fun c v' w' hc hn hr hb => by
      rw [hn, if_pos rfl] at htf
      obtain ⟨g', cap', e'⟩ := ownsRow_succ hr
      refine ⟨g', cap', M ++ [⟨C.getD k sq0, c⟩], by rw [List.length_append]; exact e', ?_, ?_, ?_, hb⟩
      · show World.ownsRow _ _ 139 8 _ (M ++ [_]).length (flatP (M ++ [_]))
        rw [List.length_append, flatP_append]
        simpa [flatP] using hr
      · rw [List.map_append, h2, htf]
        rfl
      · intro q' hq'
        rcases List.mem_append.1 hq' with z | z
        · exact h3 q' z
        · rw [List.mem_singleton] at z
          subst z
          exact hc)
    have hqk := unhideR Hq k hkl
    have hbw : Below W.heap.size W wr := h4
    have HB := hideR h4
    have HO := hideR h1
    have hhas : hasB lv K (C.getD k sq0) = decide (0 < (GOf lv K (C.getD k sq0)).length) := rfl
    obtain ⟨z, hz⟩ : ∃ z, (GOf lv K (C.getD k sq0)).length = z := ⟨_, rfl⟩
    rw [hz] at hlk hhas
    generalize C.getD k sq0 = s at *
    have bb := hbw.block bq hbq
    have y0 := (World.cell?_of_block (a := ⟨bq, k * 4, none⟩) bb).trans hqk.c0
    have y1 := (World.cell?_of_block (a := ⟨bq, k * 4 + 1, none⟩) bb).trans hqk.c1
    have y2 := (World.cell?_of_block (a := ⟨bq, k * 4 + 2, none⟩) bb).trans hqk.c2
    have y3 := (World.cell?_of_block (a := ⟨bq, k * 4 + 3, none⟩) bb).trans hqk.c3
    subst e1
    have HHas := hideR hhas
    have HH2 := hideR h2
    clear h1 h2 h3 h4 HS htf hqk hkl hsm bb hbw hz hhas
    unfold Sq.val at hlk hnr
    unfold Dr.val at hnr
    go_upto_region 5 with fail
    clear y0 y1 y2 y3
    have zs := alloc_last wr (.cells #[.int .i64 s.f, .int .i64 s.l, .int .i64 s.c, .int .i64 s.r] 61)
    have HBa := hideR (below_a wr (.cells #[.int .i64 s.f, .int .i64 s.l, .int .i64 s.c, .int .i64 s.r] 61))
    have hsr : wr.heap[b]? = some (.cells #[.pointer (some ⟨p, 0, none⟩), .int .i64 d.x, .int .i64 d.y, .int .i64 d.z, fe, ft, .int .i64 lk] 111) := keepB (unhideR Hs) (unhideR HB)
    have hpr := keepB (unhideR Hp) (unhideR HB)
    have hbr := keepB (unhideR Hb) (unhideR HB)
    replace hsr := keepA (o' := .cells #[.int .i64 s.f, .int .i64 s.l, .int .i64 s.c, .int .i64 s.r] 61) hsr
    replace hpr := keepA (o' := .cells #[.int .i64 s.f, .int .i64 s.l, .int .i64 s.c, .int .i64 s.r] 61) hpr
    replace hbr := keepA (o' := .cells #[.int .i64 s.f, .int .i64 s.l, .int .i64 s.c, .int .i64 s.r] 61) hbr
    generalize wr.alloc (.cells #[.int .i64 s.f, .int .i64 s.l, .int .i64 s.c, .int .i64 s.r] 61) = u1 at *
    obtain ⟨Z, hZ⟩ : ∃ Z, wr.heap.size = Z := ⟨_, rfl⟩
    have HZ := hideR hZ
    rw [hZ] at zs ⊢
    clear hZ
    have hl2 := hlk u1.drew hbr
    have x0 := (cells_at zs 0 (by simp)).1
    have x1 := (cells_at zs 1 (by simp)).1
    have x2 := (cells_at zs 2 (by simp)).1
    have x3 := (cells_at zs 3 (by simp)).1
    have b0 := (cells_at hsr 0 (by simp)).1
    have a0 := (cells_at hpr 3 (by simp)).1
    go_region
    clear hl2 hlk x0 x1 x2 x3 b0 a0 hpr hbr
    have HBd := hideR (drewF (unhideR HBa))
    have zs2 : u1.drew.heap[Z]? = some (.cells #[.int .i64 s.f, .int .i64 s.l, .int .i64 s.c, .int .i64 s.r] 61) := zs
    have hsr2 : u1.drew.heap[b]? = some (.cells #[.pointer (some ⟨p, 0, none⟩), .int .i64 d.x, .int .i64 d.y, .int .i64 d.z, fe, ft, .int .i64 lk] 111) := hsr
    clear HBa zs hsr
    generalize u1.drew = u2 at *
    by_cases hz : 0 < z
    case neg =>
      have tz : decide (0 < z) = false := decide_eq_false hz
      have tz2 : decide ((0 : Int) < (z : Int)) = false := decide_eq_false (by omega)
      have HQ := hideR (unhideR HN u2 (unhideR HBd) (by rw [unhideR HHas]; exact tz))
      clear HN HA HO HBd zs2 hsr2 hnr
      go_wp2
      exact ⟨⟨k + 1, by omega, by go_num, HQ⟩, by simp [intOf]; omega⟩
    have tz : decide (0 < z) = true := decide_eq_true hz
    have tz2 : decide ((0 : Int) < (z : Int)) = true := decide_eq_true (by omega)
    have HY : HeldR (∀ v, Below u2.heap.size u2 v → v.heap[Z]? = some (.cells #[.int .i64 s.f, .int .i64 s.l, .int .i64 s.c, .int .i64 s.r] 61) ∧ v.heap[b]? = some (.cells #[.pointer (some ⟨p, 0, none⟩), .int .i64 d.x, .int .i64 d.y, .int .i64 d.z, fe, ft, .int .i64 lk] 111)) := hideR (fun v hv => ⟨keepB zs2 hv, keepB hsr2 hv⟩)
    clear zs2 hsr2 HN
    go_upto_region 6 with fail
    refine wp_region_made 1 #[true, true, true, true, true, true, true, true, true, true, false, false] [.lets (· = .slice (some ⟨g, 0, none⟩) M.length capg),
      .lets (· = .agg #[.int .i64 s.f, .int .i64 s.l, .int .i64 s.c, .int .i64 s.r]),
      .lets (· = .agg #[.int .i64 s.f, .int .i64 s.l, .int .i64 s.c, .int .i64 s.r]),
      .lets (· = .pointer (some ⟨b, 0, none⟩)),
      .lets (· = .pointer (some ⟨b, 0, none⟩)),
      .lets (· = .pointer (some ⟨b, 1, none⟩)),
      .lets (· = .agg #[.int .i64 d.x, .int .i64 d.y, .int .i64 d.z]),
      .lets (fun v => ∃ c, v = coV c ∧ Cap d s n c),
      .lets (fun v => ∃ c, v = .agg (valPt ⟨s, c⟩).toArray ∧ Cap d s n c),
      .made Sl1S (OneE d s n)] [9] [] (by kernel_rfl) (by kernel_rfl) rfl ?kinds (by kernel_rfl) (by kernel_rfl) (by kernel_rfl) ?_
    case kinds =>
      constructor
      · intro i h
        rcases i with _ | _ | _ | _ | _ | _ | _ | _ | _ | _ | i <;> simp [Kx.isMade] at h ⊢
      · intro i h
        rcases i with _ | _ | _ | _ | _ | _ | _ | _ | _ | _ | i <;> simp [Kx.isUse] at h
    refine lexX_step (fun K hK => ⟨by kernel_rfl, ⟨_, rfl⟩, fun v hv => ?_, fun v hv => ?_⟩)
    · go_simp
      exact mUpon_b
    subst hv
    go_simp
    refine hK _ ?_
    clear hK K
    refine lexX_step (fun K hK => ⟨by kernel_rfl, ⟨_, rfl⟩, fun v hv => ?_, fun v hv => ?_⟩)
    · have y := (unhideR HY v hv).1
      have y0 := (cells_at y 0 (by simp)).1
      have y1 := (cells_at y 1 (by simp)).1
      have y2 := (cells_at y 2 (by simp)).1
      have y3 := (cells_at y 3 (by simp)).1
      go_simp
      exact mUpon_b
    subst hv
    go_simp
    refine hK _ ?_
    clear hK K
    refine lexX_step (fun K hK => ⟨by kernel_rfl, ⟨_, rfl⟩, fun v hv => ?_, fun v hv => ?_⟩)
    · have y := (unhideR HY v hv).1
      have y0 := (cells_at y 0 (by simp)).1
      have y1 := (cells_at y 1 (by simp)).1
      have y2 := (cells_at y 2 (by simp)).1
      have y3 := (cells_at y 3 (by simp)).1
      go_simp
      exact mUpon_b
    subst hv
    go_simp
    refine hK _ ?_
    clear hK K
    refine lexX_step (fun K hK => ⟨by kernel_rfl, ⟨_, rfl⟩, fun v hv => ?_, fun v hv => ?_⟩)
    · go_simp
      exact mUpon_b
    subst hv
    go_simp
    refine hK _ ?_
    clear hK K
    refine lexX_step (fun K hK => ⟨by kernel_rfl, ⟨_, rfl⟩, fun v hv => ?_, fun v hv => ?_⟩)
    · go_simp
      exact mUpon_b
    subst hv
    go_simp
    refine hK _ ?_
    clear hK K
    refine lexX_step (fun K hK => ⟨by kernel_rfl, ⟨_, rfl⟩, fun v hv => ?_, fun v hv => ?_⟩)
    · go_simp
      exact mUpon_b
    subst hv
    go_simp
    refine hK _ ?_
    clear hK K
    refine lexX_step (fun K hK => ⟨by kernel_rfl, ⟨_, rfl⟩, fun v hv => ?_, fun v hv => ?_⟩)
    · have y := (unhideR HY v hv).2
      have y0 := (cells_at y 1 (by simp)).1
      have y1 := (cells_at y 2 (by simp)).1
      have y2 := (cells_at y 3 (by simp)).1
      go_simp
      exact mUpon_b
    subst hv
    go_simp
    refine hK _ ?_
    clear hK K
    obtain ⟨c0, hc0⟩ := hcw
    refine lexX_step (fun K9 hK => ⟨by kernel_rfl, ⟨_, c0, rfl, hc0⟩, fun v hv => ?_, fun v hv => ?_⟩)
    · go_simp
      refine (hnr v).mono ?_
      rintro e w9 ⟨⟨c, rfl, hc⟩, k9⟩
      exact ⟨_, rfl, ⟨c, rfl, hc⟩, k9⟩
    obtain ⟨c1, rfl, hc1⟩ := hv
    rw [coV_is]
    go_simp
    refine hK _ ?_
    clear hK K9
    refine lexX_step (fun K9 hK => ⟨by kernel_rfl, ⟨_, c0, rfl, hc0⟩, fun v hv => ?_, fun v hv => ?_⟩)
    · go_simp
      exact ⟨Below.refl _ _, c1, rfl, hc1⟩
    obtain ⟨c2, rfl, hc2⟩ := hv
    go_simp
    refine hK _ ?_
    clear hK K9
    refine lexX_made ⟨by kernel_rfl, ⟨_, 0, rfl⟩, oneE_stb _ _ _, fun v hv => ?_, ?_⟩
    · go_simp
      exact ⟨below_a v _, ⟨_, rfl⟩, c2, hc2, fun q' hq' => by cases hq'; exact alloc_last v _⟩
    rintro _ ⟨u9, rfl⟩ K9 hK
    go_simp
    refine hK _ ?_
    clear hK K9
    refine lexX_end (fun v5 hv => ?_)
    obtain ⟨c3, hc3, h9⟩ := hv.fact.2
    have ho9 := h9 _ rfl
    have HV := hideR ((unhideR HBd).trans (hv.low.mono (unhideR HBd).size))
    clear hv h9 hnr HY HBd
    have hO5 : v5.ownsRow W.heap.size 139 8 (.slice (some ⟨g, 0, none⟩) M.length capg) M.length (flatP M) := own_belowC (unhideR HO) (unhideR HV)
    have HB5 := hideR ((unhideR HB).trans ((unhideR HV).mono (unhideR HB).size))
    refine wpAny_step (i := 10) (by kernel_rfl) rfl (by kernel_rfl) (fun K9 hK => ?_)
    refine wp_append_at _ _ 136 rfl W.heap.size 139 i0 (.agg #[.int .i64 0, .int .i64 0, .int .i64 0, .int .i64 0, .int .i64 0, .int .u64 0, .int .u64 0, .int .i64 0]) 8 64 Tryz.underlying136 hi hz0 hz1 hz2 rfl (by decide) _ M.length (flatP M) rfl hO5 ⟨u9, 0, none⟩ 1 1 (valPt ⟨s, c3⟩) rfl rfl ?q1 ?q2 ?q3 ?q4 ?q5 ?_
    case q1 => exact one_p ho9
    case q2 => exact valPt_one _
    case q3 => unfold maxLen; omega
    case q4 => omega
    case q5 => exact (unhideR HB5).size
    intro v6 w6 hown hgrow _
    have HQ := hideR (unhideR HA c3 v6 w6 hc3 (by rw [unhideR HHas]; exact tz) hown ((unhideR HB5).grown hgrow (unhideR HB5).size (fun k e => (hO5.lt k e).1)))
    obtain ⟨g6, cap6, rfl⟩ := ownsRow_succ hown
    clear hown hgrow hO5 ho9 HA HO HB HV HB5
    go_simp
    refine hK _ _ ?_
    clear hK K9
    refine wpAny_step (i := 11) (by kernel_rfl) rfl (by kernel_rfl) (fun K9 hK => ?_)
    unfold Oper.wp
    go_simp
    refine hK _ _ ?_
    clear hK K9
    refine wpAny_end (by kernel_rfl) ?_
    go_wp2
    exact ⟨⟨k + 1, by omega, by go_num, HQ⟩, by simp [intOf]; omega⟩
end Go.Proofs.YtfonpobdnhifgamGreatDoor
