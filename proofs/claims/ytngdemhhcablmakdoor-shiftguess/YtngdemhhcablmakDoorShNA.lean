/-
  The law's numbers: a row of parts as complex numbers, by contract. Both parts of each number over how many there are: the document's, by contract. The waves of a row: the document's, by contract.
-/
import Derived.Test.YtngdemhhcablmakDoorShKA
import Derived.Test.YtngdemhhcablmakDoorLooseA
import Derived.Laws.AppendOwn
namespace Go.Proofs.YtngdemhhcablmakDoor
open Go Go.RowKit

theorem infoC : (Tryd.prog.info? 41).map (fun i => (i.zero, i.size, i.bytes)) = some (some (.complex .f64 0 0), 1, 16) := by kernel_rfl
def SlOneC (v : Value) : Prop := ∃ g, v = .slice (some ⟨g, 0, none⟩) 1 1
def OneC (re im : Nat) (v : Value) (w : World) : Prop := ∀ g, v = .slice (some ⟨g, 0, none⟩) 1 1 → w.heap[g]? = some (.cells #[.complex .f64 re im] 41)
theorem oneC_stb (re im : Nat) (v : Value) : Stb (OneC re im v) := fun _ _ h k g e => keepB (h g e) k
theorem oneC_cell {w : World} {g re im : Nat} (h : w.heap[g]? = some (.cells #[.complex .f64 re im] 41)) : ∀ k u, ([.complex .f64 re im] : List Value)[k]? = some u → w.cell? ((⟨g, 0, none⟩ : Addr).add k) = some u := by
  intro k u hu
  have hk : k < 1 := (List.getElem?_eq_some_iff.1 hu).1
  obtain rfl : k = 0 := by omega
  have := (cells_at h 0 (by simp)).1
  rw [add_pl2, Nat.zero_add, this]
  exact hu
def NuPost (L : List (Nat × Nat)) (w : World) (e : Ending) (w' : World) : Prop := ∃ ad cap, e = .returned (.slice ad L.length cap) ∧ CxCame w' ad L ∧ Below w.heap.size w w'
set_option maxRecDepth 100000 in
set_option maxHeartbeats 4000000 in
theorem numbers_any {w : World} {a1 : Option Addr} {c1 : Nat} {L : List (Nat × Nat)} (hL : PrCame w a1 L) (hl : L.length ≤ 100000) : Calls Tryd.prog 10 #[.slice a1 L.length c1] w (NuPost L w) := by
  obtain ⟨i0, hi0, hz0, hz1, hz2⟩ := info_parts infoC
  have HL : HeldR (∀ u, Below w.heap.size w u → PrCame u a1 L) := hideR (fun u k => hL.below k)
  obtain ⟨n, hn⟩ : ∃ n, L.length = n := ⟨_, rfl⟩
  have HN := hideR hn
  have HEnd : HeldR (∀ u v, CxOwn u w.heap.size v (L.take n) → Below w.heap.size w u → NuPost L w (.returned v) u) := hideR (fun u v h k => by
    rw [List.take_of_length_le (by omega)] at h
    obtain ⟨ad, cap, rfl, hc⟩ := h.came
    exact ⟨ad, cap, rfl, hc, k⟩)
  rw [hn] at hl ⊢
  clear hL hn
  go_enter Tryd.func10, Tryd.ntmps10
  go_wp2
  go_loopw [3, 4] (fun ov iv wl => ∃ k : Nat, k ≤ n ∧ iv = .int .i64 (k : Nat) ∧ HeldR (CxOwn wl w.heap.size ov (L.take k)) ∧ HeldR (Below w.heap.size w wl)) (fun _ iv _ => n + 1 - (intOf iv).toNat)
  case atStart => exact ⟨0, by omega, rfl, hideR (by rw [List.take_zero]; exact cx_nil _ _), hideR (Below.refl _ _)⟩
  case round =>
    obtain ⟨k, hk, rfl, HO, HB⟩ := hrel
    by_cases hlt : k < n
    · have tk : decide (k < n) = true := decide_eq_true hlt
      have jk : (k : Int) < (n : Int) := by omega
      have wk : IntKind.i64.wrap ((k : Int) + 1) = ((k + 1 : Nat) : Int) := by rw [show (k : Int) + 1 = ((k + 1 : Nat) : Int) by omega]; exact iwrap (by omega) (by omega)
      have hlt' : k < L.length := by rw [unhideR HN]; exact hlt
      obtain ⟨b1, o1, rfl, hb1, _⟩ := (unhideR HL wr (unhideR HB)).at_ k hlt'
      have HLb : HeldR (∀ v, Below wr.heap.size wr v → PrAt v b1 (o1 + k * 2) (L.getD k (0, 0))) := hideR (fun v hv => by
        obtain ⟨b9, o9, e9, _, x9⟩ := (unhideR HL v (below_go (unhideR HB) hv)).at_ k hlt'
        cases e9
        exact x9)
      have HTk := hideR (Prtake hlt')
      obtain ⟨al0, cl0, e0, _⟩ := (unhideR HO).came
      have e1 : u3 = .slice al0 k cl0 := by rw [e0, List.length_take, Nat.min_eq_left (by omega)]
      clear e0
      obtain ⟨al, cl, e2⟩ : ∃ al cl, u3 = .slice al k cl := ⟨_, _, e1⟩
      clear e1
      subst e2
      generalize L.getD k (0, 0) = x at *
      obtain ⟨re, im⟩ := x
      clear hlt' hb1
      go_upto_region 5 with fail
      refine wp_region_made 1 #[true, true, true, true, true, true, true, true, true, true, true, true, true, false, false] [.lets (· = .slice al k cl),
        .lets (· = .slice (some ⟨b1, o1, none⟩) n c1),
        .lets (· = .int .i64 (k : Nat)),
        .lets (· = .pointer (some ⟨b1, o1 + k * 2, none⟩)),
        .lets (· = .pointer (some ⟨b1, o1 + k * 2, none⟩)),
        .lets (· = .float .f64 re),
        .lets (· = .slice (some ⟨b1, o1, none⟩) n c1),
        .lets (· = .int .i64 (k : Nat)),
        .lets (· = .pointer (some ⟨b1, o1 + k * 2, none⟩)),
        .lets (· = .pointer (some ⟨b1, o1 + k * 2 + 1, none⟩)),
        .lets (· = .float .f64 im),
        .lets (· = .complex .f64 re im),
        .made SlOneC (OneC re im)] [12] [] (by kernel_rfl) (by kernel_rfl) rfl ?kinds (by kernel_rfl) (by kernel_rfl) (by kernel_rfl) ?_
      case kinds =>
        constructor
        · intro i h
          rcases i with _ | _ | _ | _ | _ | _ | _ | _ | _ | _ | _ | _ | _ | i <;> simp [Kx.isMade] at h ⊢
        · intro i h
          rcases i with _ | _ | _ | _ | _ | _ | _ | _ | _ | _ | _ | _ | _ | i <;> simp [Kx.isUse] at h
      refine lexX_step (fun K hK => ⟨by kernel_rfl, ⟨_, rfl⟩, fun v hv => ?_, fun v hv => ?_⟩)
      · go_simp
        exact mUpon_b
      subst hv
      go_simp
      refine hK _ ?_
      clear hK K
      refine lexX_step (fun K hK => ⟨by kernel_rfl, ⟨_, rfl⟩, fun v hv => ?_, fun v hv => ?_⟩)
      · go_simp
        exact mUpon_b
      subst hv
      go_simp
      refine hK _ ?_
      clear hK K
      refine lexX_step (fun K hK => ⟨by kernel_rfl, ⟨_, rfl⟩, fun v hv => ?_, fun v hv => ?_⟩)
      · go_simp
        exact mUpon_b
      subst hv
      go_simp
      refine hK _ ?_
      clear hK K
      refine lexX_step (fun K hK => ⟨by kernel_rfl, ⟨_, rfl⟩, fun v hv => ?_, fun v hv => ?_⟩)
      · go_simp
        exact mUpon_b
      subst hv
      go_simp
      refine hK _ ?_
      clear hK K
      refine lexX_step (fun K hK => ⟨by kernel_rfl, ⟨_, rfl⟩, fun v hv => ?_, fun v hv => ?_⟩)
      · go_simp
        exact mUpon_b
      subst hv
      go_simp
      refine hK _ ?_
      clear hK K
      refine lexX_step (fun K hK => ⟨by kernel_rfl, ⟨_, rfl⟩, fun v hv => ?_, fun v hv => ?_⟩)
      · have q := ((unhideR HLb) v hv)
        have q0 := q.c0
        have q1 := q.c1
        go_simp
        exact mUpon_b
      subst hv
      go_simp
      refine hK _ ?_
      clear hK K
      refine lexX_step (fun K hK => ⟨by kernel_rfl, ⟨_, rfl⟩, fun v hv => ?_, fun v hv => ?_⟩)
      · go_simp
        exact mUpon_b
      subst hv
      go_simp
      refine hK _ ?_
      clear hK K
      refine lexX_step (fun K hK => ⟨by kernel_rfl, ⟨_, rfl⟩, fun v hv => ?_, fun v hv => ?_⟩)
      · go_simp
        exact mUpon_b
      subst hv
      go_simp
      refine hK _ ?_
      clear hK K
      refine lexX_step (fun K hK => ⟨by kernel_rfl, ⟨_, rfl⟩, fun v hv => ?_, fun v hv => ?_⟩)
      · go_simp
        exact mUpon_b
      subst hv
      go_simp
      refine hK _ ?_
      clear hK K
      refine lexX_step (fun K hK => ⟨by kernel_rfl, ⟨_, rfl⟩, fun v hv => ?_, fun v hv => ?_⟩)
      · go_simp
        exact mUpon_b
      subst hv
      go_simp
      refine hK _ ?_
      clear hK K
      refine lexX_step (fun K hK => ⟨by kernel_rfl, ⟨_, rfl⟩, fun v hv => ?_, fun v hv => ?_⟩)
      · have q := ((unhideR HLb) v hv)
        have q0 := q.c0
        have q1 := q.c1
        go_simp
        exact mUpon_b
      subst hv
      go_simp
      refine hK _ ?_
      clear hK K
      refine lexX_step (fun K hK => ⟨by kernel_rfl, ⟨_, rfl⟩, fun v hv => ?_, fun v hv => ?_⟩)
      · go_simp
        exact mUpon_b
      subst hv
      go_simp
      refine hK _ ?_
      clear hK K
      refine lexX_made ⟨by kernel_rfl, ⟨_, 0, rfl⟩, oneC_stb _ _, fun v hv => ?_, ?_⟩
      · go_simp
        exact ⟨below_a v _, ⟨_, rfl⟩, fun q hq => by cases hq; exact alloc_last v _⟩
      rintro _ ⟨u9, rfl⟩ K hK
      go_simp
      refine hK _ ?_
      clear hK K
      refine lexX_end (fun v5 hv => ?_)
      have HO9 := hideR (hv.fact.2 _ rfl)
      have HK5 := hideR hv.low
      clear hv
      have hO5 : v5.ownsRow w.heap.size 41 1 (.slice al k cl) k ((L.take k).map cxV) := by
        have := (unhideR HO).below (unhideR HK5)
        unfold CxOwn at this
        rw [List.length_take, Nat.min_eq_left (by rw [unhideR HN]; omega)] at this
        exact this
      have hB5 : w.heap.size ≤ v5.heap.size := Nat.le_trans (unhideR HB).size (unhideR HK5).size
      refine wpAny_step (i := 13) (by kernel_rfl) rfl (by kernel_rfl) (fun K hK => ?_)
      refine wp_append_own _ _ _ 24 rfl w.heap.size 41 i0 (.complex .f64 0 0) 1 16 Tryd.underlying24 hi0 hz0 hz1 hz2 rfl (by decide) _ k _ rfl hO5 ⟨u9, 0, none⟩ 1 1 [.complex .f64 re im] rfl rfl ?q1 ?q2 ?q3 ?q4 ?q5 ?_
      case q1 => exact oneC_cell (unhideR HO9)
      case q2 =>
        intro u hu
        rw [List.mem_singleton.1 hu]
        rfl
      case q3 => unfold maxLen; omega
      case q4 => omega
      case q5 => exact hB5
      intro v6 w6 hown hgrow _
      have O6 : HeldR (CxOwn w6 w.heap.size v6 (L.take (k + 1))) := hideR (by
        unfold CxOwn
        rw [unhideR HTk, List.length_append, List.map_append, List.length_take, Nat.min_eq_left (by rw [unhideR HN]; omega)]
        exact hown)
      have HB6 := hideR ((below_go (unhideR HB) (unhideR HK5)).grown hgrow hB5 (fun q hq => own_at2 hO5 q hq))
      clear hown hgrow hO5
      go_simp
      refine hK _ _ ?_
      clear hK K
      refine wpAny_step (i := 14) (by kernel_rfl) rfl (by kernel_rfl) (fun K hK => ?_)
      unfold Oper.wp
      go_simp
      refine hK _ _ ?_
      clear hK K
      refine wpAny_end (by kernel_rfl) ?_
      clear HO HB HO9 HK5 HLb HTk
      go_wp2
      exact ⟨⟨k + 1, by omega, by first | rfl | go_num, O6, HB6⟩, by simp [intOf]; omega⟩
    · obtain rfl : k = n := by omega
      have tk : decide (k < k) = false := decide_eq_false hlt
      have HR := hideR (unhideR HEnd wr _ (unhideR HO) (unhideR HB))
      clear HEnd HO HB
      go_wp2
      go_ret
      exact unhideR HR
end Go.Proofs.YtngdemhhcablmakDoor
namespace Go.Proofs.YtngdemhhcablmakDoor
open Go Go.RowKit

theorem infoPr : (Tryd.prog.info? 39).map (fun i => (i.zero, i.size, i.bytes)) = some (some Przv, 2, 16) := by kernel_rfl
theorem two_newF {w : World} {g x y : Nat} {ty : TypeId} (h : w.heap[g]? = some (.cells #[.float .f64 x, .float .f64 y] ty)) : ∀ k u, (valPr (x, y))[k]? = some u → w.cell? ((⟨g, 0, none⟩ : Addr).add k) = some u := by
  intro k u hu
  have hk : k < 2 := (List.getElem?_eq_some_iff.1 hu).1
  have := (cells_at h k (by simpa using hk)).1
  rw [add_pl2, Nat.zero_add, this]
  rcases (show k = 0 ∨ k = 1 by omega) with rfl | rfl
  · exact hu
  · exact hu
theorem fop_any (op : BinOp) (a b : Nat) : ∃ r, FOp op a b r := ⟨_, fnum_is op a b default⟩
def Qu (a n : Nat) (v : Value) : Prop := ∃ r, v = .float .f64 r ∧ FOp .quo a n r
def QuB (a b n : Nat) (v : Value) : Prop := ∃ r1 r2, v = .agg #[.float .f64 r1, .float .f64 r2] ∧ FOp .quo a n r1 ∧ FOp .quo b n r2
def OneQ (a b n : Nat) (v : Value) (w : World) : Prop := ∀ g, v = .slice (some ⟨g, 0, none⟩) 1 1 → ∃ r1 r2, FOp .quo a n r1 ∧ FOp .quo b n r2 ∧ w.heap[g]? = some (.cells #[.float .f64 r1, .float .f64 r2] 39)
theorem qu_some (a n : Nat) : ∃ v, Qu a n v := by
  obtain ⟨r, hr⟩ := fop_any .quo a n
  exact ⟨_, r, rfl, hr⟩
theorem quB_some (a b n : Nat) : ∃ v, QuB a b n v := by
  obtain ⟨r, hr⟩ := fop_any .quo a n
  obtain ⟨s, hs⟩ := fop_any .quo b n
  exact ⟨_, r, s, rfl, hr, hs⟩
theorem oneQ_stb (a b n : Nat) (v : Value) : Stb (OneQ a b n v) := fun _ _ h k g e => by
  obtain ⟨r1, r2, h1, h2, h3⟩ := h g e
  exact ⟨r1, r2, h1, h2, keepB h3 k⟩
/-- the first k of L, each over a number. -/
structure OvK (nf : Nat) (L M : List (Nat × Nat)) (k : Nat) : Prop where
  len : M.length = k
  is : ∀ j, j < k → COv nf (L.getD j (0, 0)) (M.getD j (0, 0))
theorem OvK.next {nf : Nat} {L M : List (Nat × Nat)} {k : Nat} (h : OvK nf L M k) {r : Nat × Nat} (h1 : FOp .quo (L.getD k (0, 0)).1 nf r.1) (h2 : FOp .quo (L.getD k (0, 0)).2 nf r.2) : OvK nf L (M ++ [r]) (k + 1) := by
  refine ⟨by rw [List.length_append, h.len]; rfl, fun j hj => ?_⟩
  rw [List.getD_eq_getElem?_getD (l := M ++ [r])]
  by_cases e : j < k
  · rw [List.getElem?_append_left (by rw [h.len]; exact e), ← List.getD_eq_getElem?_getD]
    exact h.is j e
  · obtain rfl : j = k := by omega
    rw [List.getElem?_append_right (by rw [h.len]; exact Nat.le_refl _), h.len, Nat.sub_self]
    exact ⟨h1, h2⟩
def OvPost (L : List (Nat × Nat)) (w : World) (e : Ending) (w' : World) : Prop := ∃ (M : List (Nat × Nat)) (v : Value), e = .returned v ∧ OvK (floatOfInt .f64 (L.length : Int)) L M L.length ∧ w'.ownsRow w.heap.size 39 2 v M.length (flatPr M) ∧ Below w.heap.size w w'
set_option maxRecDepth 100000 in
set_option maxHeartbeats 4000000 in
theorem over_any {w : World} {a1 : Option Addr} {c1 : Nat} {L : List (Nat × Nat)} (hL : PrCame w a1 L) (hl : L.length ≤ 100000) : Calls Tryd.prog 34 #[.slice a1 L.length c1] w (OvPost L w) := by
  obtain ⟨i0, hi0, hz0, hz1, hz2⟩ := info_parts infoPr
  have HL : HeldR (∀ u, Below w.heap.size w u → PrCame u a1 L) := hideR (fun u k => hL.below k)
  have hqf := fun t x y v => run_fquo (P := Tryd.prog) t x y v
  unfold OvPost
  obtain ⟨n, hn⟩ : ∃ n, L.length = n := ⟨_, rfl⟩
  have HN := hideR hn
  rw [hn] at hl ⊢
  obtain ⟨nf, hnf⟩ : ∃ nf, floatOfInt .f64 (n : Int) = nf := ⟨_, rfl⟩
  rw [hnf]
  clear hL hn
  go_enter Tryd.func34, Tryd.ntmps34
  go_wp2
  clear hnf
  go_loopw [4, 5] (fun ov iv wl => ∃ (k : Nat) (M : List (Nat × Nat)), k ≤ n ∧ iv = .int .i64 (k : Nat) ∧ HeldR (OvK nf L M k) ∧ HeldR (wl.ownsRow w.heap.size 39 2 ov M.length (flatPr M)) ∧ HeldR (Below w.heap.size w wl)) (fun _ iv _ => n + 1 - (intOf iv).toNat)
  case atStart => exact ⟨0, [], by omega, rfl, hideR ⟨rfl, fun j hj => absurd hj (Nat.not_lt_zero j)⟩, hideR (World.ownsRow_nil _ _ _ _), hideR (Below.refl _ _)⟩
  case round =>
    obtain ⟨k, M, hk, rfl, HV, HO, HB⟩ := hrel
    by_cases hlt : k < n
    · have tk : decide (k < n) = true := decide_eq_true hlt
      have jk : (k : Int) < (n : Int) := by omega
      have wk : IntKind.i64.wrap ((k : Int) + 1) = ((k + 1 : Nat) : Int) := by rw [show (k : Int) + 1 = ((k + 1 : Nat) : Int) by omega]; exact iwrap (by omega) (by omega)
      have hlt' : k < L.length := by rw [unhideR HN]; exact hlt
      obtain ⟨b1, o1, rfl, hb1, _⟩ := (unhideR HL wr (unhideR HB)).at_ k hlt'
      have HLb : HeldR (∀ v, Below wr.heap.size wr v → PrAt v b1 (o1 + k * 2) (L.getD k (0, 0))) := hideR (fun v hv => by
        obtain ⟨b9, o9, e9, _, x9⟩ := (unhideR HL v (below_go (unhideR HB) hv)).at_ k hlt'
        cases e9
        exact x9)
      have HMl := hideR (unhideR HV).len
      obtain ⟨al0, cl0, e0, _⟩ := Prown (unhideR HO)
      have e1 : u4 = .slice al0 k cl0 := by rw [e0, unhideR HMl]
      clear e0
      obtain ⟨al, cl, e2⟩ : ∃ al cl, u4 = .slice al k cl := ⟨_, _, e1⟩
      clear e1
      subst e2
      obtain ⟨re, hre⟩ : ∃ x, (L.getD k (0, 0)).1 = x := ⟨_, rfl⟩
      obtain ⟨im, him⟩ : ∃ x, (L.getD k (0, 0)).2 = x := ⟨_, rfl⟩
      have HLb' : HeldR (∀ v, Below wr.heap.size wr v → PrAt v b1 (o1 + k * 2) (re, im)) := hideR (fun v hv => by
        have := unhideR HLb v hv
        rw [show L.getD k (0, 0) = (re, im) by rw [← hre, ← him]] at this
        exact this)
      clear HLb
      have HLb := HLb'
      clear HLb' hlt' hb1
      go_upto_region 6 with fail
      refine wp_region_made 1 #[true, true, true, true, true, true, true, true, true, true, true, true, true, true, true, true, true, false, false] [.lets (· = .slice al k cl),
        .lets (· = .slice (some ⟨b1, o1, none⟩) n c1),
        .lets (· = .int .i64 (k : Nat)),
        .lets (· = .pointer (some ⟨b1, o1 + k * 2, none⟩)),
        .lets (· = .pointer (some ⟨b1, o1 + k * 2, none⟩)),
        .lets (· = .float .f64 re),
        .lets (· = .float .f64 nf),
        .lets (Qu re nf),
        .lets (· = .slice (some ⟨b1, o1, none⟩) n c1),
        .lets (· = .int .i64 (k : Nat)),
        .lets (· = .pointer (some ⟨b1, o1 + k * 2, none⟩)),
        .lets (· = .pointer (some ⟨b1, o1 + k * 2 + 1, none⟩)),
        .lets (· = .float .f64 im),
        .lets (· = .float .f64 nf),
        .lets (Qu im nf),
        .lets (QuB re im nf),
        .made SlOneC (OneQ re im nf)] [16] [] (by kernel_rfl) (by kernel_rfl) rfl ?kinds (by kernel_rfl) (by kernel_rfl) (by kernel_rfl) ?_
      case kinds =>
        constructor
        · intro i h
          rcases i with _ | _ | _ | _ | _ | _ | _ | _ | _ | _ | _ | _ | _ | _ | _ | _ | _ | i <;> simp [Kx.isMade] at h ⊢
        · intro i h
          rcases i with _ | _ | _ | _ | _ | _ | _ | _ | _ | _ | _ | _ | _ | _ | _ | _ | _ | i <;> simp [Kx.isUse] at h
      refine lexX_step (fun K hK => ⟨by kernel_rfl, ⟨_, rfl⟩, fun v hv => ?_, fun v hv => ?_⟩)
      · go_simp
        exact mUpon_b
      subst hv
      go_simp
      refine hK _ ?_
      clear hK K
      refine lexX_step (fun K hK => ⟨by kernel_rfl, ⟨_, rfl⟩, fun v hv => ?_, fun v hv => ?_⟩)
      · go_simp
        exact mUpon_b
      subst hv
      go_simp
      refine hK _ ?_
      clear hK K
      refine lexX_step (fun K hK => ⟨by kernel_rfl, ⟨_, rfl⟩, fun v hv => ?_, fun v hv => ?_⟩)
      · go_simp
        exact mUpon_b
      subst hv
      go_simp
      refine hK _ ?_
      clear hK K
      refine lexX_step (fun K hK => ⟨by kernel_rfl, ⟨_, rfl⟩, fun v hv => ?_, fun v hv => ?_⟩)
      · go_simp
        exact mUpon_b
      subst hv
      go_simp
      refine hK _ ?_
      clear hK K
      refine lexX_step (fun K hK => ⟨by kernel_rfl, ⟨_, rfl⟩, fun v hv => ?_, fun v hv => ?_⟩)
      · go_simp
        exact mUpon_b
      subst hv
      go_simp
      refine hK _ ?_
      clear hK K
      refine lexX_step (fun K hK => ⟨by kernel_rfl, ⟨_, rfl⟩, fun v hv => ?_, fun v hv => ?_⟩)
      · have q := ((unhideR HLb) v hv)
        have q0 := q.c0
        have q1 := q.c1
        go_simp
        exact mUpon_b
      subst hv
      go_simp
      refine hK _ ?_
      clear hK K
      refine lexX_step (fun K hK => ⟨by kernel_rfl, ⟨_, rfl⟩, fun v hv => ?_, fun v hv => ?_⟩)
      · go_simp
        exact mUpon_b
      subst hv
      go_simp
      refine hK _ ?_
      clear hK K
      refine lexX_step (fun K hK => ⟨by kernel_rfl, qu_some _ _, fun v hv => ?_, fun v hv => ?_⟩)
      · go_simp
        exact ⟨drawn_below _ _, _, rfl, fnum_is _ _ _ _⟩
      obtain ⟨r1, rfl, h1⟩ := hv
      go_simp
      refine hK _ ?_
      clear hK K
      refine lexX_step (fun K hK => ⟨by kernel_rfl, ⟨_, rfl⟩, fun v hv => ?_, fun v hv => ?_⟩)
      · go_simp
        exact mUpon_b
      subst hv
      go_simp
      refine hK _ ?_
      clear hK K
      refine lexX_step (fun K hK => ⟨by kernel_rfl, ⟨_, rfl⟩, fun v hv => ?_, fun v hv => ?_⟩)
      · go_simp
        exact mUpon_b
      subst hv
      go_simp
      refine hK _ ?_
      clear hK K
      refine lexX_step (fun K hK => ⟨by kernel_rfl, ⟨_, rfl⟩, fun v hv => ?_, fun v hv => ?_⟩)
      · go_simp
        exact mUpon_b
      subst hv
      go_simp
      refine hK _ ?_
      clear hK K
      refine lexX_step (fun K hK => ⟨by kernel_rfl, ⟨_, rfl⟩, fun v hv => ?_, fun v hv => ?_⟩)
      · go_simp
        exact mUpon_b
      subst hv
      go_simp
      refine hK _ ?_
      clear hK K
      refine lexX_step (fun K hK => ⟨by kernel_rfl, ⟨_, rfl⟩, fun v hv => ?_, fun v hv => ?_⟩)
      · have q := ((unhideR HLb) v hv)
        have q0 := q.c0
        have q1 := q.c1
        go_simp
        exact mUpon_b
      subst hv
      go_simp
      refine hK _ ?_
      clear hK K
      refine lexX_step (fun K hK => ⟨by kernel_rfl, ⟨_, rfl⟩, fun v hv => ?_, fun v hv => ?_⟩)
      · go_simp
        exact mUpon_b
      subst hv
      go_simp
      refine hK _ ?_
      clear hK K
      refine lexX_step (fun K hK => ⟨by kernel_rfl, qu_some _ _, fun v hv => ?_, fun v hv => ?_⟩)
      · go_simp
        exact ⟨drawn_below _ _, _, rfl, fnum_is _ _ _ _⟩
      obtain ⟨r2, rfl, h2⟩ := hv
      go_simp
      refine hK _ ?_
      clear hK K
      refine lexX_step (fun K hK => ⟨by kernel_rfl, quB_some _ _ _, fun v hv => ?_, fun v hv => ?_⟩)
      · go_simp
        exact ⟨Below.refl _ _, _, _, rfl, h1, h2⟩
      obtain ⟨r3, r4, rfl, h3, h4⟩ := hv
      go_simp
      refine hK _ ?_
      clear hK K
      refine lexX_made ⟨by kernel_rfl, ⟨_, 0, rfl⟩, oneQ_stb _ _ _, fun v hv => ?_, ?_⟩
      · go_simp
        exact ⟨below_a v _, ⟨_, rfl⟩, fun q hq => by cases hq; exact ⟨r3, r4, h3, h4, alloc_last v _⟩⟩
      clear h1 h2 h3 h4
      rintro _ ⟨u9, rfl⟩ K hK
      go_simp
      refine hK _ ?_
      clear hK K
      refine lexX_end (fun v5 hv => ?_)
      obtain ⟨s1, s2, h1, h2, h9⟩ := hv.fact.2 _ rfl
      have HO9 := hideR h9
      have HK5 := hideR hv.low
      have HV' := hideR ((unhideR HV).next (r := (s1, s2)) (by rw [hre]; exact h1) (by rw [him]; exact h2))
      clear hv h1 h2 h9
      have hO5 : v5.ownsRow w.heap.size 39 2 (.slice al k cl) k (flatPr M) := by
        have := own_below2 (unhideR HO) (unhideR HK5)
        rw [unhideR HMl] at this
        exact this
      have hB5 : w.heap.size ≤ v5.heap.size := Nat.le_trans (unhideR HB).size (unhideR HK5).size
      refine wpAny_step (i := 17) (by kernel_rfl) rfl (by kernel_rfl) (fun K hK => ?_)
      refine wp_append_own _ _ _ 22 rfl w.heap.size 39 i0 Przv 2 16 Tryd.underlying22 hi0 hz0 hz1 hz2 rfl (by decide) _ k _ rfl hO5 ⟨u9, 0, none⟩ 1 1 (valPr (s1, s2)) rfl rfl ?q1 ?q2 ?q3 ?q4 ?q5 ?_
      case q1 => exact two_newF (unhideR HO9)
      case q2 =>
        intro u hu
        exact flatPr_one [(s1, s2)] u (by simpa [flatPr] using hu)
      case q3 => unfold maxLen; omega
      case q4 => omega
      case q5 => exact hB5
      intro v6 w6 hown hgrow _
      have O6 : HeldR (w6.ownsRow w.heap.size 39 2 v6 (M ++ [(s1, s2)]).length (flatPr (M ++ [(s1, s2)]))) := hideR (by
        rw [flatPr_append, List.length_append, unhideR HMl, show flatPr [(s1, s2)] = valPr (s1, s2) from List.append_nil _]
        exact hown)
      have HB6 := hideR ((below_go (unhideR HB) (unhideR HK5)).grown hgrow hB5 (fun q hq => own_at2 hO5 q hq))
      clear hown hgrow hO5
      go_simp
      refine hK _ _ ?_
      clear hK K
      refine wpAny_step (i := 18) (by kernel_rfl) rfl (by kernel_rfl) (fun K hK => ?_)
      unfold Oper.wp
      go_simp
      refine hK _ _ ?_
      clear hK K
      refine wpAny_end (by kernel_rfl) ?_
      clear HO HB HO9 HK5 HLb HV HMl
      go_wp2
      exact ⟨⟨k + 1, _, by omega, by first | rfl | go_num, HV', O6, HB6⟩, by simp [intOf]; omega⟩
    · obtain rfl : k = n := by omega
      have tk : decide (k < k) = false := decide_eq_false hlt
      have HR : HeldR (∃ (M : List (Nat × Nat)) (v : Value), Ending.returned u4 = .returned v ∧ OvK nf L M k ∧ wr.ownsRow w.heap.size 39 2 v M.length (flatPr M) ∧ Below w.heap.size w wr) := hideR ⟨M, u4, rfl, unhideR HV, unhideR HO, unhideR HB⟩
      clear HV HO HB
      go_wp2
      go_ret
      exact unhideR HR
end Go.Proofs.YtngdemhhcablmakDoor
namespace Go.Proofs.YtngdemhhcablmakDoor
open Go Go.RowKit

theorem set2_at {v : World} {b : Nat} {x y a0 a1 : Value} {ty : TypeId} (h : v.heap[b]? = some (.cells #[a0, a1] ty)) : ((v.setCell ⟨b, 0, none⟩ x).setCell ⟨b, 1, none⟩ y).heap[b]? = some (.cells #[x, y] ty) := by
  simp [World.setCell, Array.getElem?_modify, h]
theorem set2_other {v : World} {b c : Nat} {x y : Value} (h : c ≠ b) : ((v.setCell ⟨b, 0, none⟩ x).setCell ⟨b, 1, none⟩ y).heap[c]? = v.heap[c]? := by
  rw [Below.heap_setCell _ _ _ _ h, Below.heap_setCell _ _ _ _ h]
theorem drew_belB {B : Nat} {w u : World} (h : Below B w u) (q : Nat) : Below B w (u.drewN q) := ⟨h.os, h.tape, h.output, h.size, h.block⟩
def PrS (x y : Nat × Nat) (v : Value) : Prop := ∃ r, v = prV r ∧ CPr x y r
theorem prS_some (x y : Nat × Nat) : ∃ v, PrS x y v := by
  obtain ⟨ac, h1⟩ := fop_any .mul x.1 y.1
  obtain ⟨bd, h2⟩ := fop_any .mul x.2 y.2
  obtain ⟨ad, h3⟩ := fop_any .mul x.1 y.2
  obtain ⟨bc, h4⟩ := fop_any .mul x.2 y.1
  obtain ⟨r1, h5⟩ := fop_any .sub ac bd
  obtain ⟨r2, h6⟩ := fop_any .add ad bc
  exact ⟨_, (r1, r2), rfl, ac, bd, ad, bc, h1, h2, h3, h4, h5, h6⟩
/-- the first k waves, not yet over anything. -/
structure WoK (L : List (Nat × Nat)) (n : Nat) (back : Bool) (M : List (Nat × Nat)) (k : Nat) : Prop where
  len : M.length = k
  is : ∀ i, i < k → WvR L i n back n (M.getD i (0, 0))
theorem WoK.next {L M : List (Nat × Nat)} {n k : Nat} {back : Bool} (h : WoK L n back M k) {r : Nat × Nat} (h1 : WvR L k n back n r) : WoK L n back (M ++ [r]) (k + 1) := by
  refine ⟨by rw [List.length_append, h.len]; rfl, fun j hj => ?_⟩
  rw [List.getD_eq_getElem?_getD (l := M ++ [r])]
  by_cases e : j < k
  · rw [List.getElem?_append_left (by rw [h.len]; exact e), ← List.getD_eq_getElem?_getD]
    exact h.is j e
  · obtain rfl : j = k := by omega
    rw [List.getElem?_append_right (by rw [h.len]; exact Nat.le_refl _), h.len, Nat.sub_self]
    exact h1
def WoPost (L : List (Nat × Nat)) (back : Bool) (w : World) (e : Ending) (w' : World) : Prop := ∃ (M : List (Nat × Nat)) (ad : Option Addr) (cap : Nat), e = .returned (.slice ad M.length cap) ∧ M.length = L.length ∧ (∀ k, k < L.length → WvEnd L k L.length back (M.getD k (0, 0))) ∧ PrCame w' ad M ∧ Below w.heap.size w w'
set_option maxRecDepth 100000 in
set_option maxHeartbeats 6400000 in
theorem wavesOf_any {w : World} {a1 : Option Addr} {c1 : Nat} {L : List (Nat × Nat)} (hL : PrCame w a1 L) (h0 : 0 < L.length) (hl : L.length ≤ 256) (back : Bool) : Calls Tryd.prog 14 #[.slice a1 L.length c1, .bool back] w (WoPost L back w) := by
  obtain ⟨i0, hi0, hz0, hz1, hz2⟩ := info_parts infoPr
  have HL : HeldR (∀ u, Below w.heap.size w u → PrCame u a1 L) := hideR (fun u k => hL.below k)
  have hsf := fun w a x m => run_store Tryd.prog w a (.float .f64 x) m rfl
  obtain ⟨n, hn⟩ : ∃ n, L.length = n := ⟨_, rfl⟩
  have HN := hideR hn
  have HEnd : HeldR (∀ (M : List (Nat × Nat)) u v, back = false → WoK L n back M n → u.ownsRow w.heap.size 39 2 v M.length (flatPr M) → Below w.heap.size w u → WoPost L back w (.returned v) u) := hideR (fun M u v hb h1 h2 h3 => by
    obtain ⟨ad, cap, rfl, hc⟩ := Prown h2
    exact ⟨M, ad, cap, rfl, by rw [h1.len, hn], fun k hk => by rw [hn]; exact ⟨_, h1.is k (by omega), fun _ => rfl, fun q => by rw [hb] at q; cases q⟩, hc, h3⟩)
  have HEnd2 : HeldR (∀ (M : List (Nat × Nat)) u v, back = true → WoK L n back M n → u.ownsRow w.heap.size 39 2 v M.length (flatPr M) → Below w.heap.size w u → Calls Tryd.prog 34 #[v] u (WoPost L back w)) := hideR (fun M u v hb h1 h2 h3 => by
    obtain ⟨ad, cap, rfl, hc⟩ := Prown h2
    refine (over_any hc (by rw [h1.len]; omega)).mono ?_
    rintro e w' ⟨M2, v2, rfl, g1, g2, g3⟩
    obtain ⟨ad2, cap2, rfl, hc2⟩ := Prown g2
    refine ⟨M2, ad2, cap2, rfl, by rw [g1.len, h1.len, hn], fun k hk => ?_, hc2, below_go h3 g3⟩
    rw [hn]
    have := g1.is k (by rw [h1.len]; omega)
    rw [h1.len] at this
    exact ⟨_, h1.is k (by omega), (fun q => by rw [hb] at q; cases q), fun _ => this⟩)
  rw [hn] at h0 hl ⊢
  clear hL hn
  go_enter Tryd.func14, Tryd.ntmps14
  go_wp2
  go_loopw [6, 7] (fun ov kv wl => ∃ (k : Nat) (M : List (Nat × Nat)), k ≤ n ∧ kv = .int .i64 (k : Nat) ∧ HeldR (WoK L n back M k) ∧ HeldR (wl.ownsRow w.heap.size 39 2 ov M.length (flatPr M)) ∧ HeldR (Below w.heap.size w wl)) (fun _ kv _ => n + 1 - (intOf kv).toNat)
  case atStart => exact ⟨0, [], by omega, rfl, hideR ⟨rfl, fun j hj => absurd hj (Nat.not_lt_zero j)⟩, hideR (World.ownsRow_nil _ _ _ _), hideR (Below.refl _ _)⟩
  case round =>
    obtain ⟨k, M, hk, rfl, HV, HO, HB⟩ := hrel
    by_cases hlt : k < n
    · have tk : decide (k < n) = true := decide_eq_true hlt
      have tki : decide ((k : Int) < (n : Int)) = true := decide_eq_true (by omega)
      have wk' : IntKind.i64.wrap ((k : Int) + 1) = ((k + 1 : Nat) : Int) := by rw [show (k : Int) + 1 = ((k + 1 : Nat) : Int) by omega]; exact iwrap (by omega) (by omega)
      have hz := alloc_last wr (.cells #[.float .f64 0, .float .f64 0] 39)
      have z0 := (cells_at hz 0 (by simp)).1
      have z1 := (cells_at hz 1 (by simp)).1
      have y0 := (cells_at hz 0 (by simp)).2
      have y1 := (cells_at hz 1 (by simp)).2
      have HX0 := hideR hz
      have HBi0 := hideR (below_a wr (.cells #[.float .f64 0, .float .f64 0] 39))
      clear hz
      go_wp2
      clear z0 z1 y0 y1
      obtain ⟨X, hX⟩ : ∃ X, wr.heap.size = X := ⟨_, rfl⟩
      have HXe := hideR hX
      generalize hwk : wr = wk at *
      rw [hX] at HX0 ⊢
      clear hX hwk
      go_loopw [9] (fun jv wl => ∃ (j : Nat) (x : Nat × Nat), j ≤ n ∧ jv = .int .i64 (j : Nat) ∧ HeldR (WvR L k n back j x) ∧ HeldR (wl.heap[X]? = some (.cells #[.float .f64 x.1, .float .f64 x.2] 39)) ∧ HeldR (Below wk.heap.size wk wl)) (fun jv _ => n + 1 - (intOf jv).toNat)
      case atStart => exact ⟨0, (0, 0), by omega, rfl, hideR .zero, HX0, HBi0⟩
      case round =>
        obtain ⟨j, x, hj, rfl, HW, HX, HBi⟩ := hrel
        by_cases hjl : j < n
        · have tj : decide (j < n) = true := decide_eq_true hjl
          have tji : decide ((j : Int) < (n : Int)) = true := decide_eq_true (by omega)
          have jj : (j : Int) < (n : Int) := by omega
          have wj : IntKind.i64.wrap ((j : Int) + 1) = ((j + 1 : Nat) : Int) := by rw [show (j : Int) + 1 = ((j + 1 : Nat) : Int) by omega]; exact iwrap (by omega) (by omega)
          have hjl' : j < L.length := by rw [unhideR HN]; exact hjl
          obtain ⟨b1, o1, rfl, _, _⟩ := (unhideR HL wr ((unhideR HB).trans ((unhideR HBi).mono (unhideR HB).size))).at_ j hjl'
          have HLb0 : HeldR (∀ v, Below wr.heap.size wr v → PrAt v b1 (o1 + j * 2) (L.getD j (0, 0))) := hideR (fun v hv => by
            obtain ⟨b9, o9, e9, _, x9⟩ := (unhideR HL v (below_go ((unhideR HB).trans ((unhideR HBi).mono (unhideR HB).size)) hv)).at_ j hjl'
            cases e9
            exact x9)
          have HNx : HeldR (∀ p y, CPr (L.getD j (0, 0)) (waveV (gAt j k n) back) p → CAd x p y → WvR L k n back (j + 1) y) := hideR (fun p y h1 h2 => .next (unhideR HW) h1 h2)
          have hjk : j * k ≤ 65536 := Nat.mul_le_mul (show j ≤ 256 by omega) (show k ≤ 256 by omega)
          obtain ⟨jk, hjke⟩ : ∃ q, j * k = q := ⟨_, rfl⟩
          obtain ⟨m, hm⟩ : ∃ q, jk % n = q := ⟨_, rfl⟩
          have hmn : m < n := by rw [← hm]; exact Nat.mod_lt _ h0
          obtain ⟨tm, htm⟩ : ∃ q, 1296000000000 * m = q := ⟨_, rfl⟩
          obtain ⟨g, hg⟩ : ∃ q, tm / n = q := ⟨_, rfl⟩
          have hgl : g ≤ tm := by rw [← hg]; exact Nat.div_le_self _ _
          have hgat : gAt j k n = (g : Nat) := by unfold gAt; rw [hjke, hm, htm, hg]
          rw [hgat] at HNx
          rw [hjke] at hjk
          have e1 : IntKind.i64.wrap ((j : Int) * (k : Int)) = (jk : Nat) := by rw [← Int.natCast_mul, hjke]; exact iwrap (by omega) (by omega)
          have e2 : (jk : Int) % (n : Int) = (m : Nat) := by rw [← hm]; exact (Int.natCast_emod jk n).symm
          have e3 : (jk : Int).tmod (n : Int) = (m : Nat) := (Int.tmod_eq_emod_of_nonneg (Int.natCast_nonneg jk)).trans e2
          have e4 : IntKind.i64.wrap (1296000000000 * (m : Int)) = (tm : Nat) := by rw [show 1296000000000 * (m : Int) = (tm : Nat) by omega]; clear e2 e3; exact iwrap (by omega) (by omega)
          have e5 : (tm : Int) / (n : Int) = (g : Nat) := by rw [← hg]; exact (Int.natCast_ediv tm n).symm
          have e6 : (tm : Int).tdiv (n : Int) = (g : Nat) := (Int.tdiv_eq_ediv_of_nonneg (Int.natCast_nonneg tm)).trans e5
          have e7 : IntKind.i64.wrap ((g : Nat) : Int) = (g : Nat) := by clear e2 e3 e5 e6; exact iwrap (by omega) (by omega)
          have hn0 : (n : Int) ≠ 0 := by omega
          have hn0n : n ≠ 0 := by omega
          have hwv0 := fun u => wave_any (g : Nat) back u
          obtain ⟨wv, hwve⟩ : ∃ q, waveV ((g : Nat) : Int) back = q := ⟨_, rfl⟩
          rw [hwve] at hwv0 HNx
          have hwv := hwv0
          unfold prV at hwv
          obtain ⟨re, hre⟩ : ∃ q, (L.getD j (0, 0)).1 = q := ⟨_, rfl⟩
          obtain ⟨im, him⟩ : ∃ q, (L.getD j (0, 0)).2 = q := ⟨_, rfl⟩
          have hlj : L.getD j (0, 0) = (re, im) := by rw [← hre, ← him]
          rw [hlj] at HNx
          have HLb : HeldR (∀ v, Below wr.heap.size wr v → PrAt v b1 (o1 + j * 2) (re, im)) := hideR (fun v hv => by
            have := unhideR HLb0 v hv
            rw [hlj] at this
            exact this)
          have hpr := fun u => product_any (re, im) wv u
          unfold prV at hpr
          clear HLb0 hjke hm htm hg hgat hwve hre him hlj hwv0 hjl' HW
          go_upto_region 10 with fail
          refine wp_region_made 0 #[true, true, true, true, true, true, true, true, true, true, true, true, true, true, true, true, false] [.lets (· = .slice (some ⟨b1, o1, none⟩) n c1),
            .lets (· = .int .i64 (j : Nat)),
            .lets (· = .pointer (some ⟨b1, o1 + j * 2, none⟩)),
            .lets (· = .agg #[.float .f64 re, .float .f64 im]),
            .lets (· = .int .i64 (j : Nat)),
            .lets (· = .int .i64 (k : Nat)),
            .lets (· = .int .i64 (jk : Nat)),
            .lets (· = .int .i64 (n : Nat)),
            .lets (· = .int .i64 (m : Nat)),
            .lets (· = .int .i64 (tm : Nat)),
            .lets (· = .int .i64 (n : Nat)),
            .lets (· = .int .i64 (g : Nat)),
            .lets (· = .bool back),
            .lets (· = .agg #[.float .f64 wv.1, .float .f64 wv.2]),
            .lets (PrS (re, im) wv),
            .new (.cells #[.float .f64 0, .float .f64 0] 39)] [] [] (by kernel_rfl) (by kernel_rfl) rfl ?kinds (by kernel_rfl) (by kernel_rfl) (by kernel_rfl) ?_
          case kinds =>
            constructor
            · intro i h
              rcases i with _ | _ | _ | _ | _ | _ | _ | _ | _ | _ | _ | _ | _ | _ | _ | _ | i <;> simp [Kx.isMade] at h
            · intro i h
              rcases i with _ | _ | _ | _ | _ | _ | _ | _ | _ | _ | _ | _ | _ | _ | _ | _ | i <;> simp [Kx.isUse] at h
          refine lexX_step (fun K hK => ⟨by kernel_rfl, ⟨_, rfl⟩, fun v hv => ?_, fun v hv => ?_⟩)
          · go_simp
            exact mUpon_b
          subst hv
          go_simp
          refine hK _ ?_
          clear hK K
          refine lexX_step (fun K hK => ⟨by kernel_rfl, ⟨_, rfl⟩, fun v hv => ?_, fun v hv => ?_⟩)
          · go_simp
            exact mUpon_b
          subst hv
          go_simp
          refine hK _ ?_
          clear hK K
          refine lexX_step (fun K hK => ⟨by kernel_rfl, ⟨_, rfl⟩, fun v hv => ?_, fun v hv => ?_⟩)
          · go_simp
            exact mUpon_b
          subst hv
          go_simp
          refine hK _ ?_
          clear hK K
          refine lexX_step (fun K hK => ⟨by kernel_rfl, ⟨_, rfl⟩, fun v hv => ?_, fun v hv => ?_⟩)
          · have q := ((unhideR HLb) v hv)
            have q0 := q.c0
            have q1 := q.c1
            go_simp
            exact mUpon_b
          subst hv
          go_simp
          refine hK _ ?_
          clear hK K
          refine lexX_step (fun K hK => ⟨by kernel_rfl, ⟨_, rfl⟩, fun v hv => ?_, fun v hv => ?_⟩)
          · go_simp
            exact mUpon_b
          subst hv
          go_simp
          refine hK _ ?_
          clear hK K
          refine lexX_step (fun K hK => ⟨by kernel_rfl, ⟨_, rfl⟩, fun v hv => ?_, fun v hv => ?_⟩)
          · go_simp
            exact mUpon_b
          subst hv
          go_simp
          refine hK _ ?_
          clear hK K
          refine lexX_step (fun K hK => ⟨by kernel_rfl, ⟨_, rfl⟩, fun v hv => ?_, fun v hv => ?_⟩)
          · go_simp
            exact mUpon_b
          subst hv
          go_simp
          refine hK _ ?_
          clear hK K
          refine lexX_step (fun K hK => ⟨by kernel_rfl, ⟨_, rfl⟩, fun v hv => ?_, fun v hv => ?_⟩)
          · go_simp
            exact mUpon_b
          subst hv
          go_simp
          refine hK _ ?_
          clear hK K
          refine lexX_step (fun K hK => ⟨by kernel_rfl, ⟨_, rfl⟩, fun v hv => ?_, fun v hv => ?_⟩)
          · go_simp
            exact mUpon_b
          subst hv
          go_simp
          refine hK _ ?_
          clear hK K
          refine lexX_step (fun K hK => ⟨by kernel_rfl, ⟨_, rfl⟩, fun v hv => ?_, fun v hv => ?_⟩)
          · go_simp
            exact mUpon_b
          subst hv
          go_simp
          refine hK _ ?_
          clear hK K
          refine lexX_step (fun K hK => ⟨by kernel_rfl, ⟨_, rfl⟩, fun v hv => ?_, fun v hv => ?_⟩)
          · go_simp
            exact mUpon_b
          subst hv
          go_simp
          refine hK _ ?_
          clear hK K
          refine lexX_step (fun K hK => ⟨by kernel_rfl, ⟨_, rfl⟩, fun v hv => ?_, fun v hv => ?_⟩)
          · go_simp
            exact mUpon_b
          subst hv
          go_simp
          refine hK _ ?_
          clear hK K
          refine lexX_step (fun K hK => ⟨by kernel_rfl, ⟨_, rfl⟩, fun v hv => ?_, fun v hv => ?_⟩)
          · go_simp
            exact mUpon_b
          subst hv
          go_simp
          refine hK _ ?_
          clear hK K
          refine lexX_step (fun K hK => ⟨by kernel_rfl, ⟨_, rfl⟩, fun v hv => ?_, fun v hv => ?_⟩)
          · go_simp
            refine (hwv _).mono ?_
            rintro e w9 ⟨rfl, k⟩
            exact ⟨_, rfl, rfl, k⟩
          subst hv
          go_simp
          refine hK _ ?_
          clear hK K
          refine lexX_step (fun K hK => ⟨by kernel_rfl, prS_some _ _, fun v hv => ?_, fun v hv => ?_⟩)
          · go_simp
            refine (hpr _).mono ?_
            rintro e w9 ⟨r, rfl, h1, k⟩
            exact ⟨_, rfl, ⟨r, rfl, h1⟩, k⟩
          obtain ⟨r, rfl, hr⟩ := hv
          unfold prV
          go_simp
          refine hK _ ?_
          clear hK K
          refine lexX_new ((fin0).some _) (fun g9 fg9 K hK => ⟨by kernel_rfl, fun v => ?_, ?_⟩)
          · go_simp
            first | exact ⟨rfl, rfl⟩ | rfl
          unfold ptr
          go_simp
          refine hK _ ?_
          clear hK K
          refine lexX_end (fun v5 hv => ?_)
          have h0 := hv.held g9 (.cells #[.float .f64 0, .float .f64 0] 39) (by unfold Hd.put; rw [if_pos rfl])
          have hlow := hv.low
          have hge := fg9.ge
          clear hv fg9
          have c0 := (cells_at h0 0 (by simp)).1
          have c1' := (cells_at h0 1 (by simp)).1
          have f0 := (cells_at h0 0 (by simp)).2
          have f1 := (cells_at h0 1 (by simp)).2
          have HP7 : HeldR (((v5.setCell ⟨g9, 0, none⟩ (.float .f64 r.1)).setCell ⟨g9, 1, none⟩ (.float .f64 r.2)).heap[g9]? = some (.cells #[.float .f64 r.1, .float .f64 r.2] 39)) := hideR (set2_at h0)
          have hXl := ltB (unhideR HX)
          have HX7 : HeldR (((v5.setCell ⟨g9, 0, none⟩ (.float .f64 r.1)).setCell ⟨g9, 1, none⟩ (.float .f64 r.2)).heap[X]? = some (.cells #[.float .f64 x.1, .float .f64 x.2] 39)) := hideR ((set2_other (by omega)).trans (keepB (unhideR HX) hlow))
          have HB7 : HeldR (Below wk.heap.size wk ((v5.setCell ⟨g9, 0, none⟩ (.float .f64 r.1)).setCell ⟨g9, 1, none⟩ (.float .f64 r.2))) := hideR ((((unhideR HBi).trans (hlow.mono (unhideR HBi).size)).setCell (by have := (unhideR HBi).size; show wk.heap.size ≤ g9; omega) _).setCell (by have := (unhideR HBi).size; show wk.heap.size ≤ g9; omega) _)
          have hgX : X ≠ g9 := by omega
          clear h0 hlow hge hXl
          refine wpAny_step (i := 16) (by kernel_rfl) rfl (by kernel_rfl) (fun K hK => ?_)
          unfold Oper.wp
          go_simp
          refine hK _ _ ?_
          clear hK K
          refine wpAny_end (by kernel_rfl) ?_
          generalize (v5.setCell ⟨g9, 0, none⟩ (.float .f64 r.1)).setCell ⟨g9, 1, none⟩ (.float .f64 r.2) = w7 at *
          clear c0 c1' f0 f1 v5
          have x0 := (cells_at (unhideR HX7) 0 (by simp)).1
          have x1 := (cells_at (unhideR HX7) 1 (by simp)).1
          have p0 := (cells_at (unhideR HP7) 0 (by simp)).1
          have p1 := (cells_at (unhideR HP7) 1 (by simp)).1
          have HNy : HeldR (∀ y, CAd x r y → WvR L k n back (j + 1) y) := hideR (fun y h => unhideR HNx r y hr h)
          clear hr HNx hpr hwv e1 e2 e3 e4 e5 e6 e7 HLb
          have hdr : ∀ (q : Nat) (ad : Addr), (w7.drewN q).cell? ad = w7.cell? ad := fun _ _ => rfl
          go_wp2_with fail
          refine upon_flt fl_add ?_
          intro s1 n1 h1
          go_wp2_with fail
          refine upon_flt fl_add ?_
          intro s2 n2 h2
          have HW' := hideR (unhideR HNy (s1, s2) ⟨h1, h2⟩)
          have f0 := (cells_at (unhideR HX7) 0 (by simp)).2
          have f1 := (cells_at (unhideR HX7) 1 (by simp)).2
          have HX8 : HeldR ((((w7.drewN (n1 + n2)).setCell ⟨X, 0, none⟩ (.float .f64 s1)).setCell ⟨X, 1, none⟩ (.float .f64 s2)).heap[X]? = some (.cells #[.float .f64 s1, .float .f64 s2] 39)) := hideR (set2_at (v := w7.drewN (n1 + n2)) (unhideR HX7))
          have HB8 : HeldR (Below wk.heap.size wk (((w7.drewN (n1 + n2)).setCell ⟨X, 0, none⟩ (.float .f64 s1)).setCell ⟨X, 1, none⟩ (.float .f64 s2))) := hideR (((drew_belB (unhideR HB7) _).setCell (by rw [unhideR HXe]; exact Nat.le_refl _) _).setCell (by rw [unhideR HXe]; exact Nat.le_refl _) _)
          clear h1 h2 HNy HX7 HP7 HB7 HX HBi p0 p1
          go_wp2
          exact ⟨⟨j + 1, (s1, s2), by omega, by first | rfl | go_num, HW', HX8, HB8⟩, by simp [intOf]; omega⟩
        · obtain rfl : j = n := by omega
          have tj : decide (j < j) = false := decide_eq_false hjl
          have x0 := (cells_at (unhideR HX) 0 (by simp)).1
          have x1 := (cells_at (unhideR HX) 1 (by simp)).1
          have HV' := hideR ((unhideR HV).next (unhideR HW))
          have HMl := hideR (unhideR HV).len
          have HO3 : HeldR (wr.ownsRow w.heap.size 39 2 u6 k (flatPr M)) := hideR (by
            have := own_below2 (unhideR HO) (unhideR HBi)
            rw [unhideR HMl] at this
            exact this)
          have HB3 := hideR ((unhideR HB).trans ((unhideR HBi).mono (unhideR HB).size))
          have lk := (unhideR HB3).size
          obtain ⟨x1', x2'⟩ := x
          clear HX HBi HW HX0 HBi0 HO HB
          go_wp2_with (first
            | (at_builtin; refine wpList_append_own _ rfl _ _ 22 rfl w.heap.size 39 i0 Przv 2 16 Tryd.underlying22 hi0 hz0 hz1 hz2 rfl (by decide) _ k (flatPr M) rfl (own_below2 (unhideR HO3) (below_a _ _)) ⟨wr.heap.size, 0, none⟩ 1 1 (valPr (x1', x2')) rfl rfl ?d1 ?d2 ?d3 ?d4 ?d5 ?_))
          case d1 => first | exact two_newF (alloc_last wr _) | exact fun _ _ h => h
          case d2 => exact fun u hu => flatPr_one [(x1', x2')] u (by simpa [flatPr] using hu)
          case d3 => first | omega | (unfold maxLen; omega)
          case d4 => omega
          case d5 => first | omega | (simp; omega)
          intro v4 w4 hown2 hgrow2 _
          have HB4 := hideR ((below_go (unhideR HB3) (below_a wr _)).grown hgrow2 (by simp; omega) (fun g h => own_at2 (unhideR HO3) g h))
          have HO4 : HeldR (w4.ownsRow w.heap.size 39 2 v4 (M ++ [(x1', x2')]).length (flatPr (M ++ [(x1', x2')]))) := hideR (by
            rw [flatPr_append, List.length_append, unhideR HMl, show flatPr [(x1', x2')] = valPr (x1', x2') from List.append_nil _]
            exact hown2)
          clear hown2 hgrow2 HO3 HB3
          go_wp2
          exact ⟨⟨k + 1, _, by omega, by first | rfl | go_num, HV', HO4, HB4⟩, by simp [intOf]; omega⟩
    · obtain rfl : k = n := by omega
      have tk : decide (k < k) = false := decide_eq_false hlt
      cases hbk : back with
      | false =>
        have HR := hideR (unhideR HEnd M wr u6 hbk (unhideR HV) (unhideR HO) (unhideR HB))
        clear HEnd HEnd2 HV HO HB
        subst hbk
        go_wp2
        go_ret
        exact unhideR HR
      | true =>
        have hov := unhideR HEnd2 M wr u6 hbk (unhideR HV) (unhideR HO) (unhideR HB)
        clear HEnd HEnd2 HV HO HB
        subst hbk
        go_wp2_with fail
        refine hov.mono ?_
        rintro e w2 ⟨M2, ad2, cap2, rfl, g1, g2, g3, g4⟩
        have HR : HeldR (WoPost L true w (.returned (.slice ad2 M2.length cap2)) w2) := hideR ⟨M2, ad2, cap2, rfl, g1, g2, g3, g4⟩
        clear hov g1 g2 g3 g4
        go_wp2
        go_ret
        exact unhideR HR
end Go.Proofs.YtngdemhhcablmakDoor
