/-
  Both parts of each number over how many there are: the document's, by contract.
-/
import Derived.Test.YtngdemhhcablmakDoorShNu
namespace Go.Proofs.YtngdemhhcablmakDoor
open Go Go.RowKit

theorem infoPr : (Tryd.prog.info? 39).map (fun i => (i.zero, i.size, i.bytes)) = some (some Przv, 2, 16) := by kernel_rfl
theorem two_newF {w : World} {g x y : Nat} {ty : TypeId} (h : w.heap[g]? = some (.cells #[.float .f64 x, .float .f64 y] ty)) : ∀ k u, (valPr (x, y))[k]? = some u → w.cell? ((⟨g, 0, none⟩ : Addr).add k) = some u := by
  intro k u hu
  have hk : k < 2 := (List.getElem?_eq_some_iff.1 hu).1
  have := (cells_at h k (by simpa using hk)).1
  rw [add_pl2, Nat.zero_add, this]
  rcases (show k = 0 ∨ k = 1 by omega) with rfl | rfl
  · exact hu
  · exact hu
theorem fop_any (op : BinOp) (a b : Nat) : ∃ r, FOp op a b r := ⟨_, fnum_is op a b default⟩
def Qu (a n : Nat) (v : Value) : Prop := ∃ r, v = .float .f64 r ∧ FOp .quo a n r
def QuB (a b n : Nat) (v : Value) : Prop := ∃ r1 r2, v = .agg #[.float .f64 r1, .float .f64 r2] ∧ FOp .quo a n r1 ∧ FOp .quo b n r2
def OneQ (a b n : Nat) (v : Value) (w : World) : Prop := ∀ g, v = .slice (some ⟨g, 0, none⟩) 1 1 → ∃ r1 r2, FOp .quo a n r1 ∧ FOp .quo b n r2 ∧ w.heap[g]? = some (.cells #[.float .f64 r1, .float .f64 r2] 39)
theorem qu_some (a n : Nat) : ∃ v, Qu a n v := by
  obtain ⟨r, hr⟩ := fop_any .quo a n
  exact ⟨_, r, rfl, hr⟩
theorem quB_some (a b n : Nat) : ∃ v, QuB a b n v := by
  obtain ⟨r, hr⟩ := fop_any .quo a n
  obtain ⟨s, hs⟩ := fop_any .quo b n
  exact ⟨_, r, s, rfl, hr, hs⟩
theorem oneQ_stb (a b n : Nat) (v : Value) : Stb (OneQ a b n v) := fun _ _ h k g e => by
  obtain ⟨r1, r2, h1, h2, h3⟩ := h g e
  exact ⟨r1, r2, h1, h2, keepB h3 k⟩
/-- the first k of L, each over a number. -/
structure OvK (nf : Nat) (L M : List (Nat × Nat)) (k : Nat) : Prop where
  len : M.length = k
  is : ∀ j, j < k → COv nf (L.getD j (0, 0)) (M.getD j (0, 0))
theorem OvK.next {nf : Nat} {L M : List (Nat × Nat)} {k : Nat} (h : OvK nf L M k) {r : Nat × Nat} (h1 : FOp .quo (L.getD k (0, 0)).1 nf r.1) (h2 : FOp .quo (L.getD k (0, 0)).2 nf r.2) : OvK nf L (M ++ [r]) (k + 1) := by
  refine ⟨by rw [List.length_append, h.len]; rfl, fun j hj => ?_⟩
  rw [List.getD_eq_getElem?_getD (l := M ++ [r])]
  by_cases e : j < k
  · rw [List.getElem?_append_left (by rw [h.len]; exact e), ← List.getD_eq_getElem?_getD]
    exact h.is j e
  · obtain rfl : j = k := by omega
    rw [List.getElem?_append_right (by rw [h.len]; exact Nat.le_refl _), h.len, Nat.sub_self]
    exact ⟨h1, h2⟩
def OvPost (L : List (Nat × Nat)) (w : World) (e : Ending) (w' : World) : Prop := ∃ (M : List (Nat × Nat)) (v : Value), e = .returned v ∧ OvK (floatOfInt .f64 (L.length : Int)) L M L.length ∧ w'.ownsRow w.heap.size 39 2 v M.length (flatPr M) ∧ Below w.heap.size w w'
set_option maxRecDepth 100000 in
set_option maxHeartbeats 4000000 in
theorem over_any {w : World} {a1 : Option Addr} {c1 : Nat} {L : List (Nat × Nat)} (hL : PrCame w a1 L) (hl : L.length ≤ 100000) : Calls Tryd.prog 34 #[.slice a1 L.length c1] w (OvPost L w) := by
  obtain ⟨i0, hi0, hz0, hz1, hz2⟩ := info_parts infoPr
  have HL : HeldR (∀ u, Below w.heap.size w u → PrCame u a1 L) := hideR (fun u k => hL.below k)
  have hqf := fun t x y v => run_fquo (P := Tryd.prog) t x y v
  unfold OvPost
  obtain ⟨n, hn⟩ : ∃ n, L.length = n := ⟨_, rfl⟩
  have HN := hideR hn
  rw [hn] at hl ⊢
  obtain ⟨nf, hnf⟩ : ∃ nf, floatOfInt .f64 (n : Int) = nf := ⟨_, rfl⟩
  rw [hnf]
  clear hL hn
  go_enter Tryd.func34, Tryd.ntmps34
  go_wp2
  clear hnf
  go_loopw [4, 5] (fun ov iv wl => ∃ (k : Nat) (M : List (Nat × Nat)), k ≤ n ∧ iv = .int .i64 (k : Nat) ∧ HeldR (OvK nf L M k) ∧ HeldR (wl.ownsRow w.heap.size 39 2 ov M.length (flatPr M)) ∧ HeldR (Below w.heap.size w wl)) (fun _ iv _ => n + 1 - (intOf iv).toNat)
  case atStart => exact ⟨0, [], by omega, rfl, hideR ⟨rfl, fun j hj => absurd hj (Nat.not_lt_zero j)⟩, hideR (World.ownsRow_nil _ _ _ _), hideR (Below.refl _ _)⟩
  case round =>
    obtain ⟨k, M, hk, rfl, HV, HO, HB⟩ := hrel
    by_cases hlt : k < n
    · have tk : decide (k < n) = true := decide_eq_true hlt
      have jk : (k : Int) < (n : Int) := by omega
      have wk : IntKind.i64.wrap ((k : Int) + 1) = ((k + 1 : Nat) : Int) := by rw [show (k : Int) + 1 = ((k + 1 : Nat) : Int) by omega]; exact iwrap (by omega) (by omega)
      have hlt' : k < L.length := by rw [unhideR HN]; exact hlt
      obtain ⟨b1, o1, rfl, hb1, _⟩ := (unhideR HL wr (unhideR HB)).at_ k hlt'
      have HLb : HeldR (∀ v, Below wr.heap.size wr v → PrAt v b1 (o1 + k * 2) (L.getD k (0, 0))) := hideR (fun v hv => by
        obtain ⟨b9, o9, e9, _, x9⟩ := (unhideR HL v (below_go (unhideR HB) hv)).at_ k hlt'
        cases e9
        exact x9)
      have HMl := hideR (unhideR HV).len
      obtain ⟨al0, cl0, e0, _⟩ := Prown (unhideR HO)
      have e1 : u4 = .slice al0 k cl0 := by rw [e0, unhideR HMl]
      clear e0
      obtain ⟨al, cl, e2⟩ : ∃ al cl, u4 = .slice al k cl := ⟨_, _, e1⟩
      clear e1
      subst e2
      obtain ⟨re, hre⟩ : ∃ x, (L.getD k (0, 0)).1 = x := ⟨_, rfl⟩
      obtain ⟨im, him⟩ : ∃ x, (L.getD k (0, 0)).2 = x := ⟨_, rfl⟩
      have HLb' : HeldR (∀ v, Below wr.heap.size wr v → PrAt v b1 (o1 + k * 2) (re, im)) := hideR (fun v hv => by
        have := unhideR HLb v hv
        rw [show L.getD k (0, 0) = (re, im) by rw [← hre, ← him]] at this
        exact this)
      clear HLb
      have HLb := HLb'
      clear HLb' hlt' hb1
      go_upto_region 6 with fail
      refine wp_region_made 1 #[true, true, true, true, true, true, true, true, true, true, true, true, true, true, true, true, true, false, false] [.lets (· = .slice al k cl),
        .lets (· = .slice (some ⟨b1, o1, none⟩) n c1),
        .lets (· = .int .i64 (k : Nat)),
        .lets (· = .pointer (some ⟨b1, o1 + k * 2, none⟩)),
        .lets (· = .pointer (some ⟨b1, o1 + k * 2, none⟩)),
        .lets (· = .float .f64 re),
        .lets (· = .float .f64 nf),
        .lets (Qu re nf),
        .lets (· = .slice (some ⟨b1, o1, none⟩) n c1),
        .lets (· = .int .i64 (k : Nat)),
        .lets (· = .pointer (some ⟨b1, o1 + k * 2, none⟩)),
        .lets (· = .pointer (some ⟨b1, o1 + k * 2 + 1, none⟩)),
        .lets (· = .float .f64 im),
        .lets (· = .float .f64 nf),
        .lets (Qu im nf),
        .lets (QuB re im nf),
        .made SlOneC (OneQ re im nf)] [16] [] (by kernel_rfl) (by kernel_rfl) rfl ?kinds (by kernel_rfl) (by kernel_rfl) (by kernel_rfl) ?_
      case kinds =>
        constructor
        · intro i h
          rcases i with _ | _ | _ | _ | _ | _ | _ | _ | _ | _ | _ | _ | _ | _ | _ | _ | _ | i <;> simp [Kx.isMade] at h ⊢
        · intro i h
          rcases i with _ | _ | _ | _ | _ | _ | _ | _ | _ | _ | _ | _ | _ | _ | _ | _ | _ | i <;> simp [Kx.isUse] at h
      refine lexX_step (fun K hK => ⟨by kernel_rfl, ⟨_, rfl⟩, fun v hv => ?_, fun v hv => ?_⟩)
      · go_simp
        exact mUpon_b
      subst hv
      go_simp
      refine hK _ ?_
      clear hK K
      refine lexX_step (fun K hK => ⟨by kernel_rfl, ⟨_, rfl⟩, fun v hv => ?_, fun v hv => ?_⟩)
      · go_simp
        exact mUpon_b
      subst hv
      go_simp
      refine hK _ ?_
      clear hK K
      refine lexX_step (fun K hK => ⟨by kernel_rfl, ⟨_, rfl⟩, fun v hv => ?_, fun v hv => ?_⟩)
      · go_simp
        exact mUpon_b
      subst hv
      go_simp
      refine hK _ ?_
      clear hK K
      refine lexX_step (fun K hK => ⟨by kernel_rfl, ⟨_, rfl⟩, fun v hv => ?_, fun v hv => ?_⟩)
      · go_simp
        exact mUpon_b
      subst hv
      go_simp
      refine hK _ ?_
      clear hK K
      refine lexX_step (fun K hK => ⟨by kernel_rfl, ⟨_, rfl⟩, fun v hv => ?_, fun v hv => ?_⟩)
      · go_simp
        exact mUpon_b
      subst hv
      go_simp
      refine hK _ ?_
      clear hK K
      refine lexX_step (fun K hK => ⟨by kernel_rfl, ⟨_, rfl⟩, fun v hv => ?_, fun v hv => ?_⟩)
      · have q := ((unhideR HLb) v hv)
        have q0 := q.c0
        have q1 := q.c1
        go_simp
        exact mUpon_b
      subst hv
      go_simp
      refine hK _ ?_
      clear hK K
      refine lexX_step (fun K hK => ⟨by kernel_rfl, ⟨_, rfl⟩, fun v hv => ?_, fun v hv => ?_⟩)
      · go_simp
        exact mUpon_b
      subst hv
      go_simp
      refine hK _ ?_
      clear hK K
      refine lexX_step (fun K hK => ⟨by kernel_rfl, qu_some _ _, fun v hv => ?_, fun v hv => ?_⟩)
      · go_simp
        exact ⟨drawn_below _ _, _, rfl, fnum_is _ _ _ _⟩
      obtain ⟨r1, rfl, h1⟩ := hv
      go_simp
      refine hK _ ?_
      clear hK K
      refine lexX_step (fun K hK => ⟨by kernel_rfl, ⟨_, rfl⟩, fun v hv => ?_, fun v hv => ?_⟩)
      · go_simp
        exact mUpon_b
      subst hv
      go_simp
      refine hK _ ?_
      clear hK K
      refine lexX_step (fun K hK => ⟨by kernel_rfl, ⟨_, rfl⟩, fun v hv => ?_, fun v hv => ?_⟩)
      · go_simp
        exact mUpon_b
      subst hv
      go_simp
      refine hK _ ?_
      clear hK K
      refine lexX_step (fun K hK => ⟨by kernel_rfl, ⟨_, rfl⟩, fun v hv => ?_, fun v hv => ?_⟩)
      · go_simp
        exact mUpon_b
      subst hv
      go_simp
      refine hK _ ?_
      clear hK K
      refine lexX_step (fun K hK => ⟨by kernel_rfl, ⟨_, rfl⟩, fun v hv => ?_, fun v hv => ?_⟩)
      · go_simp
        exact mUpon_b
      subst hv
      go_simp
      refine hK _ ?_
      clear hK K
      refine lexX_step (fun K hK => ⟨by kernel_rfl, ⟨_, rfl⟩, fun v hv => ?_, fun v hv => ?_⟩)
      · have q := ((unhideR HLb) v hv)
        have q0 := q.c0
        have q1 := q.c1
        go_simp
        exact mUpon_b
      subst hv
      go_simp
      refine hK _ ?_
      clear hK K
      refine lexX_step (fun K hK => ⟨by kernel_rfl, ⟨_, rfl⟩, fun v hv => ?_, fun v hv => ?_⟩)
      · go_simp
        exact mUpon_b
      subst hv
      go_simp
      refine hK _ ?_
      clear hK K
      refine lexX_step (fun K hK => ⟨by kernel_rfl, qu_some _ _, fun v hv => ?_, fun v hv => ?_⟩)
      · go_simp
        exact ⟨drawn_below _ _, _, rfl, fnum_is _ _ _ _⟩
      obtain ⟨r2, rfl, h2⟩ := hv
      go_simp
      refine hK _ ?_
      clear hK K
      refine lexX_step (fun K hK => ⟨by kernel_rfl, quB_some _ _ _, fun v hv => ?_, fun v hv => ?_⟩)
      · go_simp
        exact ⟨Below.refl _ _, _, _, rfl, h1, h2⟩
      obtain ⟨r3, r4, rfl, h3, h4⟩ := hv
      go_simp
      refine hK _ ?_
      clear hK K
      refine lexX_made ⟨by kernel_rfl, ⟨_, 0, rfl⟩, oneQ_stb _ _ _, fun v hv => ?_, ?_⟩
      · go_simp
        exact ⟨below_a v _, ⟨_, rfl⟩, fun q hq => by cases hq; exact ⟨r3, r4, h3, h4, alloc_last v _⟩⟩
      clear h1 h2 h3 h4
      rintro _ ⟨u9, rfl⟩ K hK
      go_simp
      refine hK _ ?_
      clear hK K
      refine lexX_end (fun v5 hv => ?_)
      obtain ⟨s1, s2, h1, h2, h9⟩ := hv.fact.2 _ rfl
      have HO9 := hideR h9
      have HK5 := hideR hv.low
      have HV' := hideR ((unhideR HV).next (r := (s1, s2)) (by rw [hre]; exact h1) (by rw [him]; exact h2))
      clear hv h1 h2 h9
      have hO5 : v5.ownsRow w.heap.size 39 2 (.slice al k cl) k (flatPr M) := by
        have := own_below2 (unhideR HO) (unhideR HK5)
        rw [unhideR HMl] at this
        exact this
      have hB5 : w.heap.size ≤ v5.heap.size := Nat.le_trans (unhideR HB).size (unhideR HK5).size
      refine wpAny_step (i := 17) (by kernel_rfl) rfl (by kernel_rfl) (fun K hK => ?_)
      refine wp_append_own _ _ _ 22 rfl w.heap.size 39 i0 Przv 2 16 Tryd.underlying22 hi0 hz0 hz1 hz2 rfl (by decide) _ k _ rfl hO5 ⟨u9, 0, none⟩ 1 1 (valPr (s1, s2)) rfl rfl ?q1 ?q2 ?q3 ?q4 ?q5 ?_
      case q1 => exact two_newF (unhideR HO9)
      case q2 =>
        intro u hu
        exact flatPr_one [(s1, s2)] u (by simpa [flatPr] using hu)
      case q3 => unfold maxLen; omega
      case q4 => omega
      case q5 => exact hB5
      intro v6 w6 hown hgrow _
      have O6 : HeldR (w6.ownsRow w.heap.size 39 2 v6 (M ++ [(s1, s2)]).length (flatPr (M ++ [(s1, s2)]))) := hideR (by
        rw [flatPr_append, List.length_append, unhideR HMl, show flatPr [(s1, s2)] = valPr (s1, s2) from List.append_nil _]
        exact hown)
      have HB6 := hideR ((below_go (unhideR HB) (unhideR HK5)).grown hgrow hB5 (fun q hq => own_at2 hO5 q hq))
      clear hown hgrow hO5
      go_simp
      refine hK _ _ ?_
      clear hK K
      refine wpAny_step (i := 18) (by kernel_rfl) rfl (by kernel_rfl) (fun K hK => ?_)
      unfold Oper.wp
      go_simp
      refine hK _ _ ?_
      clear hK K
      refine wpAny_end (by kernel_rfl) ?_
      clear HO HB HO9 HK5 HLb HV HMl
      go_wp2
      exact ⟨⟨k + 1, _, by omega, by first | rfl | go_num, HV', O6, HB6⟩, by simp [intOf]; omega⟩
    · obtain rfl : k = n := by omega
      have tk : decide (k < k) = false := decide_eq_false hlt
      have HR : HeldR (∃ (M : List (Nat × Nat)) (v : Value), Ending.returned u4 = .returned v ∧ OvK nf L M k ∧ wr.ownsRow w.heap.size 39 2 v M.length (flatPr M) ∧ Below w.heap.size w wr) := hideR ⟨M, u4, rfl, unhideR HV, unhideR HO, unhideR HB⟩
      clear HV HO HB
      go_wp2
      go_ret
      exact unhideR HR
end Go.Proofs.YtngdemhhcablmakDoor
