/-
  The law's own: tracks handed on, by contracts.
-/
import Derived.Test.YtlhjmmcimhceeahDoorEvRef
import Derived.Test.YtlhjmmcimhceeahDoorEvRow
import Derived.Laws.AppendOwnNone
namespace Go.Proofs.YtlhjmmcimhceeahDoor
open Go Go.RowKit

/-- a track as a value. -/
def TrV (w : World) (v : Value) (t : Tr) : Prop := ∃ ad cap, v = .agg #[.int .i64 t.fr, .int .i64 t.st, .slice ad t.L.length cap] ∧ ICame w ad t.L
theorem TrV.below {w u : World} {v : Value} {t : Tr} (h : TrV w v t) (k : Below w.heap.size w u) : TrV u v t := by
  obtain ⟨ad, cap, e, h⟩ := h
  exact ⟨ad, cap, e, h.below k⟩
theorem infoI : (Tryd.prog.info? 3).map (fun i => (i.zero, i.size, i.bytes)) = some (some (.int .i64 0), 1, 8) := by kernel_rfl
def zeroT : Obj := .cells #[.int .i64 0, .int .i64 0, .slice none 0 0] 32
theorem three_cells {w : World} {b : Nat} {x0 x1 x2 : Value} {ty : TypeId} (h : w.heap[b]? = some (.cells #[x0, x1, x2] ty)) :
    (w.cell? ⟨b, 0, none⟩ = some x0 ∧ w.cell? ⟨b, 1, none⟩ = some x1 ∧ w.cell? ⟨b, 2, none⟩ = some x2) ∧
    (w.frozen? ⟨b, 0, none⟩ = false ∧ w.frozen? ⟨b, 1, none⟩ = false ∧ w.frozen? ⟨b, 2, none⟩ = false) :=
  ⟨⟨(cells_at h 0 (by simp)).1, (cells_at h 1 (by simp)).1, (cells_at h 2 (by simp)).1⟩, (cells_at h 0 (by simp)).2, (cells_at h 1 (by simp)).2, (cells_at h 2 (by simp)).2⟩
theorem below_three' {w v : World} {b B : Nat} (h : Below B w v) (hb : B ≤ b) (x0 x1 x2 : Value) : Below B w (((v.setCell ⟨b, 0, none⟩ x0).setCell ⟨b, 1, none⟩ x1).setCell ⟨b, 2, none⟩ x2) :=
  ((h.setCell hb x0).setCell hb x1).setCell hb x2
theorem set1_2 {w : World} {b : Nat} {y0 y1 y2 : Value} {t : TypeId} (h : w.heap[b]? = some (.cells #[y0, y1, y2] t (0, 0))) (x : Value) : (w.setCell ⟨b, 2, none⟩ x).heap[b]? = some (.cells #[y0, y1, x] t (0, 0)) := by
  rw [heap_setCell_same _ _ _ _ _ _ h]
  simp
theorem ICame.other {w : World} {ad : Option Addr} {L : List Int} {g : Nat} {i : Nat} {x : Value} (h : ICame w ad L) (hg : ∀ a0, ad = some a0 → a0.block ≠ g) : ICame (w.setCell ⟨g, i, none⟩ x) ad L := ⟨fun k hk => by
  obtain ⟨b, off, e, hb, hc⟩ := h.at_ k hk
  refine ⟨b, off, e, by simpa [World.setCell] using hb, ?_⟩
  have hn := hg _ e
  rw [World.cell?_setCell_other]
  · exact hc
  · intro q
    injection q with q1
    exact hn q1.symm⟩
theorem int_cells {w : World} {a0 : Addr} {L : List Int} (h : ICame w (some a0) L) : ∀ j u, (L.map (Value.int .i64))[j]? = some u → w.cell? (a0.add j) = some u := by
  intro j u hu
  have hj : j < L.length := by
    have := (List.getElem?_eq_some_iff.1 hu).1
    simpa using this
  obtain ⟨b', off', e, _, hc⟩ := h.at_ j hj
  cases e
  rw [add_pl2, hc]
  rw [List.getElem?_map, List.getElem?_eq_getElem hj] at hu
  rw [List.getD_eq_getElem?_getD, List.getElem?_eq_getElem hj]
  exact hu
theorem own_ints {w : World} {B : Nat} {v : Value} {L : List Int} (h : w.ownsRow B 3 1 v L.length (L.map (Value.int .i64))) : ∃ ad cap, v = .slice ad L.length cap ∧ ICame w ad L ∧ ∀ a0, ad = some a0 → B ≤ a0.block := by
  have h' := h
  rcases h.2 with ⟨h1, h2⟩ | ⟨g, cap, cur, e, hB, hg, hc, _, hs, ht⟩
  · have e : L = [] := List.length_eq_zero_iff.1 h2
    subst e
    exact ⟨none, 0, h1, ⟨fun k hk => absurd hk (Nat.not_lt_zero k)⟩, fun _ e => by cases e⟩
  · subst e
    refine ⟨_, cap, rfl, ⟨fun k hk => ⟨g, 0, rfl, (Array.getElem?_eq_some_iff.1 hg).1, ?_⟩⟩, fun a0 e => by cases e; exact hB⟩
    have q : (L.map (Value.int .i64))[k]? = some (.int .i64 (L.getD k 0)) := by
      rw [List.getElem?_map, List.getElem?_eq_getElem hk, List.getD_eq_getElem?_getD, List.getElem?_eq_getElem hk]
      rfl
    rw [← ht, List.getElem?_take, if_pos (by omega)] at q
    rw [Nat.zero_add]
    simp only [World.cell?, hg]
    simpa using q
set_option maxRecDepth 100000 in
set_option maxHeartbeats 1600000 in
theorem track_any {w : World} {b off cap : Nat} {ad : Option Addr} {t : Tr} (h : TrP w b off ad cap t) (hl : t.L.length * 8 ≤ 140737488355328) (hnone : ad = none → cap = 0 ∧ t.L = []) :
    Calls Tryd.prog 7 #[.pointer (some ⟨b, off, none⟩)] w fun e w' => ∃ v, e = .returned v ∧ TrV w' v t ∧ Below w.heap.size w w' := by
  obtain ⟨i0, hi, hz0, hz1, hz2⟩ := info_parts infoI
  have HT0 := hideR h
  clear h
  go_enter Tryd.func7, Tryd.ntmps7
  go_wp2_with fail
  have HRes := hideR (alloc_last w zeroT)
  have HT := hideR ((unhideR HT0).below (below_a w zeroT))
  have HW := hideR (below_a w zeroT)
  have hs1 : (w.alloc zeroT).heap.size = w.heap.size + 1 := by simp
  unfold zeroT at HRes HT HW hs1
  generalize w.alloc (.cells #[.int .i64 0, .int .i64 0, .slice none 0 0] 32) = W1 at *
  clear HT0
  refine wp_region_made 0 #[true, true, true, true, true, true, true, true, true, true, false] [.lets (· = .pointer (some ⟨b, off, none⟩)),
    .lets (· = .pointer (some ⟨b, off, none⟩)),
    .lets (· = .pointer (some ⟨b, off, none⟩)),
    .lets (· = .int .i64 t.fr),
    .lets (· = .pointer (some ⟨b, off, none⟩)),
    .lets (· = .pointer (some ⟨b, off, none⟩)),
    .lets (· = .pointer (some ⟨b, off + 1, none⟩)),
    .lets (· = .int .i64 t.st),
    .lets (· = .agg #[.int .i64 t.fr, .int .i64 t.st, .slice none 0 0]),
    .new zeroT] [] [] (by kernel_rfl) (by kernel_rfl) rfl ?kinds (by kernel_rfl) (by kernel_rfl) (by kernel_rfl) ?_
  case kinds =>
    constructor
    · intro i h
      rcases i with _ | _ | _ | _ | _ | _ | _ | _ | _ | _ | i <;> simp [Kx.isMade] at h
    · intro i h
      rcases i with _ | _ | _ | _ | _ | _ | _ | _ | _ | _ | i <;> simp [Kx.isUse] at h
  refine lexX_step (fun K hK => ⟨by kernel_rfl, ⟨_, rfl⟩, fun v hv => ?_, fun v hv => ?_⟩)
  · go_simp
    exact mUpon_b
  subst hv
  go_simp
  refine hK _ ?_
  clear hK K
  refine lexX_step (fun K hK => ⟨by kernel_rfl, ⟨_, rfl⟩, fun v hv => ?_, fun v hv => ?_⟩)
  · go_simp
    exact mUpon_b
  subst hv
  go_simp
  refine hK _ ?_
  clear hK K
  refine lexX_step (fun K hK => ⟨by kernel_rfl, ⟨_, rfl⟩, fun v hv => ?_, fun v hv => ?_⟩)
  · go_simp
    exact mUpon_b
  subst hv
  go_simp
  refine hK _ ?_
  clear hK K
  refine lexX_step (fun K hK => ⟨by kernel_rfl, ⟨_, rfl⟩, fun v hv => ?_, fun v hv => ?_⟩)
  · obtain ⟨_, c0, c1, c2, _⟩ := (unhideR HT).below hv
    go_simp
    exact mUpon_b
  subst hv
  go_simp
  refine hK _ ?_
  clear hK K
  refine lexX_step (fun K hK => ⟨by kernel_rfl, ⟨_, rfl⟩, fun v hv => ?_, fun v hv => ?_⟩)
  · go_simp
    exact mUpon_b
  subst hv
  go_simp
  refine hK _ ?_
  clear hK K
  refine lexX_step (fun K hK => ⟨by kernel_rfl, ⟨_, rfl⟩, fun v hv => ?_, fun v hv => ?_⟩)
  · go_simp
    exact mUpon_b
  subst hv
  go_simp
  refine hK _ ?_
  clear hK K
  refine lexX_step (fun K hK => ⟨by kernel_rfl, ⟨_, rfl⟩, fun v hv => ?_, fun v hv => ?_⟩)
  · go_simp
    exact mUpon_b
  subst hv
  go_simp
  refine hK _ ?_
  clear hK K
  refine lexX_step (fun K hK => ⟨by kernel_rfl, ⟨_, rfl⟩, fun v hv => ?_, fun v hv => ?_⟩)
  · obtain ⟨_, c0, c1, c2, _⟩ := (unhideR HT).below hv
    go_simp
    exact mUpon_b
  subst hv
  go_simp
  refine hK _ ?_
  clear hK K
  refine lexX_step (fun K hK => ⟨by kernel_rfl, ⟨_, rfl⟩, fun v hv => ?_, fun v hv => ?_⟩)
  · go_simp
    exact mUpon_b
  subst hv
  go_simp
  refine hK _ ?_
  clear hK K
  refine lexX_new (fin0.some _) (fun g8 fg8 K hK => ⟨by kernel_rfl, fun v => ?_, ?_⟩)
  · go_simp
    exact ⟨rfl, rfl⟩
  unfold ptr
  go_simp
  refine hK _ ?_
  clear hK K
  refine lexX_end (fun v hv => ?_)
  have h0 : v.heap[g8]? = some zeroT := hv.held g8 zeroT (by unfold Hd.put; rw [if_pos rfl])
  unfold zeroT at h0
  have hge := fg8.ge
  have hlow := below_three' hv.low hge (.int .i64 t.fr) (.int .i64 t.st) (.slice none 0 0)
  obtain ⟨⟨c0, c1, c2⟩, f0, f1, f2⟩ := three_cells h0
  clear hv fg8
  refine wpAny_step (i := 10) (by kernel_rfl) rfl (by kernel_rfl) (fun K hK => ?_)
  unfold Oper.wp
  go_simp
  refine hK _ _ ?_
  clear hK K
  refine wpAny_end (by kernel_rfl) ?_
  have HP : HeldR ((((v.setCell ⟨g8, 0, none⟩ (.int .i64 t.fr)).setCell ⟨g8, 1, none⟩ (.int .i64 t.st)).setCell ⟨g8, 2, none⟩ (.slice none 0 0)).heap[g8]? = some (.cells #[.int .i64 t.fr, .int .i64 t.st, .slice none 0 0] 32)) := set3 h0
  clear h0 c0 c1 c2 f0 f1 f2
  replace HT := hideR ((unhideR HT).below hlow)
  replace HRes := hideR (keepB (unhideR HRes) hlow)
  replace HW := hideR (below_go (unhideR HW) hlow)
  have hg8 : w.heap.size < g8 := by omega
  have hg9 := ltB (unhideR HP)
  clear hlow hge
  generalize ((v.setCell ⟨g8, 0, none⟩ (.int .i64 t.fr)).setCell ⟨g8, 1, none⟩ (.int .i64 t.st)).setCell ⟨g8, 2, none⟩ (.slice none 0 0) = W9 at *
  go_wp2_with fail
  cases ad with
  | none =>
    obtain ⟨hc0, hL0⟩ := hnone rfl
    have HIC : HeldR (ICame W9 none t.L) := by
      unfold HeldR
      rw [hL0]
      exact ⟨fun k hk => absurd hk (Nat.not_lt_zero k)⟩
    have hn0 : t.L.length = 0 := by rw [hL0]; rfl
    subst hc0
    have HN0 := hideR hn0
    have HIC0 := hideR hL0
    clear hn0 hL0 HIC
    refine wp_region_made 2 #[true, true, true, true, true, true, false, false, false] [.lets (· = .pointer (some ⟨g8, 2, none⟩)),
      .lets (· = .slice none 0 0),
      .lets (· = .pointer (some ⟨b, off, none⟩)),
      .lets (· = .pointer (some ⟨b, off, none⟩)),
      .lets (· = .pointer (some ⟨b, off + 2, none⟩)),
      .lets (· = .slice none 0 0)] [] [] (by kernel_rfl) (by kernel_rfl) rfl ?kinds (by kernel_rfl) (by kernel_rfl) (by kernel_rfl) ?_
    case kinds =>
      constructor
      · intro i h
        rcases i with _ | _ | _ | _ | _ | _ | i <;> simp [Kx.isMade] at h
      · intro i h
        rcases i with _ | _ | _ | _ | _ | _ | i <;> simp [Kx.isUse] at h
    refine lexX_step (fun K hK => ⟨by kernel_rfl, ⟨_, rfl⟩, fun v hv => ?_, fun v hv => ?_⟩)
    · go_simp
      exact mUpon_b
    subst hv
    go_simp
    refine hK _ ?_
    clear hK K
    refine lexX_step (fun K hK => ⟨by kernel_rfl, ⟨_, rfl⟩, fun v hv => ?_, fun v hv => ?_⟩)
    · obtain ⟨⟨c0, c1, c2⟩, _⟩ := three_cells (keepB (unhideR HP) hv)
      go_simp
      exact mUpon_b
    subst hv
    go_simp
    refine hK _ ?_
    clear hK K
    refine lexX_step (fun K hK => ⟨by kernel_rfl, ⟨_, rfl⟩, fun v hv => ?_, fun v hv => ?_⟩)
    · go_simp
      exact mUpon_b
    subst hv
    go_simp
    refine hK _ ?_
    clear hK K
    refine lexX_step (fun K hK => ⟨by kernel_rfl, ⟨_, rfl⟩, fun v hv => ?_, fun v hv => ?_⟩)
    · go_simp
      exact mUpon_b
    subst hv
    go_simp
    refine hK _ ?_
    clear hK K
    refine lexX_step (fun K hK => ⟨by kernel_rfl, ⟨_, rfl⟩, fun v hv => ?_, fun v hv => ?_⟩)
    · go_simp
      exact mUpon_b
    subst hv
    go_simp
    refine hK _ ?_
    clear hK K
    refine lexX_step (fun K hK => ⟨by kernel_rfl, ⟨_, rfl⟩, fun v hv => ?_, fun v hv => ?_⟩)
    · obtain ⟨_, c0, c1, c2, _⟩ := (unhideR HT).below hv
      rw [unhideR HN0] at c2
      go_simp
      exact mUpon_b
    subst hv
    go_simp
    refine hK _ ?_
    clear hK K
    refine lexX_end (fun v2 hv => ?_)
    replace HT := hideR ((unhideR HT).below hv.low)
    replace HP := hideR (keepB (unhideR HP) hv.low)
    replace HRes := hideR (keepB (unhideR HRes) hv.low)
    replace HW := hideR (below_go (unhideR HW) hv.low)
    have hg10 := ltB (unhideR HP)
    clear hv
    refine wpAny_step (i := 6) (by kernel_rfl) rfl (by kernel_rfl) (fun K hK => ?_)
    unfold Oper.wp
    go_simp
    refine hK _ _ ?_
    clear hK K
    have HIC : HeldR (ICame v2 none t.L) := by
      unfold HeldR
      rw [unhideR HIC0]
      exact ⟨fun k hk => absurd hk (Nat.not_lt_zero k)⟩
    have hic : ∀ x : Addr, none = some x → x.block ≠ g8 ∧ x.block ≠ w.heap.size := fun x e => by cases e
    refine wpAny_step (i := 7) (by kernel_rfl) rfl (by kernel_rfl) (fun K hK => ?_)
    unfold Oper.wp
    go_simp
    refine hK _ _ ?_
    clear hK K
    obtain ⟨⟨c0, c1, c2⟩, f0, f1, f2⟩ := three_cells (unhideR HP)
    refine wpAny_step (i := 8) (by kernel_rfl) rfl (by kernel_rfl) (fun K hK => ?_)
    unfold Oper.wp
    go_simp
    refine hK _ _ ?_
    clear hK K
    refine wpAny_end (by kernel_rfl) ?_
    have HP2 := hideR (set1_2 (unhideR HP) (.slice none 0 0))
    have HRes2 : HeldR ((v2.setCell ⟨g8, 2, none⟩ (.slice none 0 0)).heap[w.heap.size]? = some (.cells #[.int .i64 0, .int .i64 0, .slice none 0 0] 32)) := (heap_setCell_other _ _ _ _ (by show w.heap.size ≠ g8; omega)).trans (unhideR HRes)
    have HW2 := hideR ((unhideR HW).setCell (p := ⟨g8, 2, none⟩) (by show w.heap.size ≤ g8; omega) (.slice none 0 0))
    have HIC2 : HeldR (ICame (v2.setCell ⟨g8, 2, none⟩ (.slice none 0 0)) none t.L) := (unhideR HIC).other (fun a0 e => (hic a0 e).1)
    clear HP HRes HW HIC c0 c1 c2 f0 f1 f2 HT
    generalize v2.setCell ⟨g8, 2, none⟩ (.slice none 0 0) = W5 at *
    obtain ⟨⟨c0, c1, c2⟩, _⟩ := three_cells (unhideR HP2)
    obtain ⟨⟨d0, d1, d2⟩, f0, f1, f2⟩ := three_cells (unhideR HRes2)
    go_wp2
    simp [bodyPost, results, Tryd.results7, go_sem, d0, d1, d2]
    refine ⟨⟨none, 0, by rw [unhideR HN0], ?_⟩, ?_⟩
    · exact (((unhideR HIC2).other (fun a0 e => (hic a0 e).2)).other (fun a0 e => (hic a0 e).2)).other (fun a0 e => (hic a0 e).2)
    · exact below_three' (unhideR HW2) (Nat.le_refl _) _ _ _
  | some a0 =>
    refine wp_region_made 2 #[true, true, true, true, true, true, false, false, false] [.lets (· = .pointer (some ⟨g8, 2, none⟩)),
      .lets (· = .slice none 0 0),
      .lets (· = .pointer (some ⟨b, off, none⟩)),
      .lets (· = .pointer (some ⟨b, off, none⟩)),
      .lets (· = .pointer (some ⟨b, off + 2, none⟩)),
      .lets (· = .slice (some a0) t.L.length cap)] [] [] (by kernel_rfl) (by kernel_rfl) rfl ?kinds (by kernel_rfl) (by kernel_rfl) (by kernel_rfl) ?_
    case kinds =>
      constructor
      · intro i h
        rcases i with _ | _ | _ | _ | _ | _ | i <;> simp [Kx.isMade] at h
      · intro i h
        rcases i with _ | _ | _ | _ | _ | _ | i <;> simp [Kx.isUse] at h
    refine lexX_step (fun K hK => ⟨by kernel_rfl, ⟨_, rfl⟩, fun v hv => ?_, fun v hv => ?_⟩)
    · go_simp
      exact mUpon_b
    subst hv
    go_simp
    refine hK _ ?_
    clear hK K
    refine lexX_step (fun K hK => ⟨by kernel_rfl, ⟨_, rfl⟩, fun v hv => ?_, fun v hv => ?_⟩)
    · obtain ⟨⟨c0, c1, c2⟩, _⟩ := three_cells (keepB (unhideR HP) hv)
      go_simp
      exact mUpon_b
    subst hv
    go_simp
    refine hK _ ?_
    clear hK K
    refine lexX_step (fun K hK => ⟨by kernel_rfl, ⟨_, rfl⟩, fun v hv => ?_, fun v hv => ?_⟩)
    · go_simp
      exact mUpon_b
    subst hv
    go_simp
    refine hK _ ?_
    clear hK K
    refine lexX_step (fun K hK => ⟨by kernel_rfl, ⟨_, rfl⟩, fun v hv => ?_, fun v hv => ?_⟩)
    · go_simp
      exact mUpon_b
    subst hv
    go_simp
    refine hK _ ?_
    clear hK K
    refine lexX_step (fun K hK => ⟨by kernel_rfl, ⟨_, rfl⟩, fun v hv => ?_, fun v hv => ?_⟩)
    · go_simp
      exact mUpon_b
    subst hv
    go_simp
    refine hK _ ?_
    clear hK K
    refine lexX_step (fun K hK => ⟨by kernel_rfl, ⟨_, rfl⟩, fun v hv => ?_, fun v hv => ?_⟩)
    · obtain ⟨_, c0, c1, c2, _⟩ := (unhideR HT).below hv
      go_simp
      exact mUpon_b
    subst hv
    go_simp
    refine hK _ ?_
    clear hK K
    refine lexX_end (fun v2 hv => ?_)
    replace HT := hideR ((unhideR HT).below hv.low)
    replace HP := hideR (keepB (unhideR HP) hv.low)
    replace HRes := hideR (keepB (unhideR HRes) hv.low)
    replace HW := hideR (below_go (unhideR HW) hv.low)
    have hg10 := ltB (unhideR HP)
    clear hv
    refine wpAny_step (i := 6) (by kernel_rfl) rfl (by kernel_rfl) (fun K hK => ?_)
    refine wp_append_own _ _ _ 23 rfl v2.heap.size 3 i0 (.int .i64 0) 1 8 Tryd.underlying23 hi hz0 hz1 hz2 rfl (by decide) (.slice none 0 0) 0 [] rfl (World.ownsRow_nil _ _ _ _) a0 t.L.length cap (t.L.map (Value.int .i64)) rfl (by simp) ?q1 ?q2 ?q3 ?q4 ?q5 ?_
    case q1 => exact int_cells (unhideR HT).row
    case q2 =>
      intro u hu
      obtain ⟨y, _, rfl⟩ := List.mem_map.1 hu
      rfl
    case q3 => unfold maxLen; omega
    case q4 => omega
    case q5 => exact Nat.le_refl _
    intro v3 w3 hown hgrow _
    have hb3 : Below v2.heap.size v2 w3 := (Below.refl _ _).grown hgrow (Nat.le_refl _) (fun g h => by cases h)
    have hO : w3.ownsRow v2.heap.size 3 1 v3 t.L.length (t.L.map (Value.int .i64)) := by simpa using hown
    obtain ⟨ad3, cap3, rfl, hI3, hB3⟩ := own_ints hO
    have HIC := hideR hI3
    have hic : ∀ x, ad3 = some x → x.block ≠ g8 ∧ x.block ≠ w.heap.size := fun x e => by
      have := hB3 x e
      omega
    replace HP := hideR (keepB (unhideR HP) hb3)
    replace HRes := hideR (keepB (unhideR HRes) hb3)
    replace HW := hideR (below_go (unhideR HW) hb3)
    clear hown hgrow hO hI3 hB3 hb3
    go_simp
    refine hK _ _ ?_
    clear hK K
    refine wpAny_step (i := 7) (by kernel_rfl) rfl (by kernel_rfl) (fun K hK => ?_)
    unfold Oper.wp
    go_simp
    refine hK _ _ ?_
    clear hK K
    obtain ⟨⟨c0, c1, c2⟩, f0, f1, f2⟩ := three_cells (unhideR HP)
    refine wpAny_step (i := 8) (by kernel_rfl) rfl (by kernel_rfl) (fun K hK => ?_)
    unfold Oper.wp
    go_simp
    refine hK _ _ ?_
    clear hK K
    refine wpAny_end (by kernel_rfl) ?_
    have HP2 := hideR (set1_2 (unhideR HP) (.slice ad3 t.L.length cap3))
    have HRes2 : HeldR ((w3.setCell ⟨g8, 2, none⟩ (.slice ad3 t.L.length cap3)).heap[w.heap.size]? = some (.cells #[.int .i64 0, .int .i64 0, .slice none 0 0] 32)) := (heap_setCell_other _ _ _ _ (by show w.heap.size ≠ g8; omega)).trans (unhideR HRes)
    have HW2 := hideR ((unhideR HW).setCell (p := ⟨g8, 2, none⟩) (by show w.heap.size ≤ g8; omega) (.slice ad3 t.L.length cap3))
    have HIC2 : HeldR (ICame (w3.setCell ⟨g8, 2, none⟩ (.slice ad3 t.L.length cap3)) ad3 t.L) := (unhideR HIC).other (fun a0 e => (hic a0 e).1)
    clear HP HRes HW HIC c0 c1 c2 f0 f1 f2 HT
    generalize w3.setCell ⟨g8, 2, none⟩ (.slice ad3 t.L.length cap3) = W5 at *
    obtain ⟨⟨c0, c1, c2⟩, _⟩ := three_cells (unhideR HP2)
    obtain ⟨⟨d0, d1, d2⟩, f0, f1, f2⟩ := three_cells (unhideR HRes2)
    go_wp2
    simp [bodyPost, results, Tryd.results7, go_sem, d0, d1, d2]
    refine ⟨⟨_, _, rfl, ?_⟩, ?_⟩
    · exact (((unhideR HIC2).other (fun a0 e => (hic a0 e).2)).other (fun a0 e => (hic a0 e).2)).other (fun a0 e => (hic a0 e).2)
    · exact below_three' (unhideR HW2) (Nat.le_refl _) _ _ _
end Go.Proofs.YtlhjmmcimhceeahDoor
