/-
  The program's medians.
-/
import Derived.Test.YtncbmkflilcdgahDoorDF5a
import Derived.Test.YtncbmkflilcdgahDoorFrLw
import Derived.Test.YtncbmkflilcdgahDoorShelf
import Derived.Sort.OwnSortedInts
namespace Go.Proofs.YtncbmkflilcdgahDoor
open Go Go.RowKit Go.Sort

theorem own_ne_pic {u : World} {B n c g gm : Nat} {xs : List Value} {x0 x1 x2 : Value} (h : u.ownsRow B 3 1 (.slice (some ⟨g, 0, none⟩) n c) n xs) (hm : u.heap[gm]? = some (.cells #[x0, x1, x2] 94)) : gm ≠ g := by
  intro e
  subst e
  rcases h.2 with ⟨h1, _⟩ | ⟨g', c', cur, h1, _, h3, _⟩
  · cases h1
  · injection h1 with h1
    injection h1 with h1
    injection h1 with h1
    subst h1
    rw [hm] at h3
    injection h3 with h3
    injection h3 with _ h4
    revert h4
    decide
theorem own_low_g {u : World} {B n c g : Nat} {xs : List Value} (h : u.ownsRow B 3 1 (.slice (some ⟨g, 0, none⟩) n c) n xs) : B ≤ g ∧ g < u.heap.size := by
  rcases h.2 with ⟨h1, _⟩ | ⟨g', c', cur, h1, h2, h3, _⟩
  · cases h1
  · injection h1 with h1
    injection h1 with h1
    injection h1 with h1
    subst h1
    exact ⟨h2, ltB h3⟩
/-- how far the medians have come. -/
structure MdAt (Ls : List Pic) (w : World) (W H : Int) (n m gm gx gy k : Nat) (Y : List Int) (u : World) : Prop where
  bel : Below w.heap.size w u
  g0 : u.heap[w.heap.size]? = some (.cells #[.int .i64 0, .int .i64 0, .slice none 0 0] 94)
  g : u.heap[gm]? = some (.cells #[.int .i64 W, .int .i64 H, .slice (some ⟨gx, 0, none⟩) n n] 94)
  row : u.ownsRow w.heap.size 3 1 (.slice (some ⟨gx, 0, none⟩) n n) n ((stkK Ls k ++ List.replicate (n - k) 0).map (Value.int .i64))
  cnt : u.ownsRow w.heap.size 3 1 (.slice (some ⟨gy, 0, none⟩) m m) m (Y.map (Value.int .i64))
  lo : w.heap.size ≤ gm
  ne : gx ≠ gy
theorem MdAt.go {Ls : List Pic} {w : World} {W H : Int} {n m gm gx gy k : Nat} {Y : List Int} {u v : World} (h : MdAt Ls w W H n m gm gx gy k Y u) (b : Below u.heap.size u v) : MdAt Ls w W H n m gm gx gy k Y v :=
  ⟨below_go h.bel b, keepB h.g0 b, keepB h.g b, own_below2 h.row b, own_below2 h.cnt b, h.lo, h.ne⟩
theorem MdAt.put {Ls : List Pic} {w : World} {W H : Int} {n m gm gx gy k : Nat} {Y : List Int} {u : World} (h : MdAt Ls w W H n m gm gx gy k Y u) (j : Nat) (x : Int) : MdAt Ls w W H n m gm gx gy k (Y.set j x) (u.setCell ⟨gy, j, none⟩ (.int .i64 x)) := by
  have hl := own_low_g h.cnt
  have s := h.cnt.stored j (.int .i64 x)
  have hn := own_ne_pic h.cnt h.g
  have hn0 := own_ne_pic h.cnt h.g0
  refine ⟨h.bel.setCell (by show w.heap.size ≤ gy; exact hl.1) _, (heap_setCell_other u ⟨gy, j, none⟩ w.heap.size _ (by simpa using hn0)).trans h.g0, (heap_setCell_other u ⟨gy, j, none⟩ gm _ (by simpa using hn)).trans h.g, h.row.kept s.2 (.inr (by
    intro q
    have : gx = gy := by simpa [Value.ownBlock] using q
    exact h.ne this)), ?_, h.lo, h.ne⟩
  have e : (Y.map (Value.int .i64)).set j (.int .i64 x) = (Y.set j x).map (Value.int .i64) := by rw [List.map_set]
  rw [← e]
  exact s.1
theorem med_set {Ls : List Pic} {n k : Nat} (hk : k < n) : ((stkK Ls k ++ List.replicate (n - k) 0).map (Value.int .i64)).set k (.int .i64 (medV (colV Ls k))) = (stkK Ls (k + 1) ++ List.replicate (n - (k + 1)) 0).map (Value.int .i64) := by
  rw [stkK_next, show n - k = (n - (k + 1)) + 1 by omega, List.replicate_succ, List.map_append, List.map_append, List.map_append, List.map_cons]
  have l : ((stkK Ls k).map (Value.int .i64)).length = k := by rw [List.length_map, stkK_length]
  rw [List.set_append_right _ _ (by omega), l, Nat.sub_self]
  simp
theorem MdAt.med {Ls : List Pic} {w : World} {W H : Int} {n m gm gx gy k : Nat} {Y : List Int} {u : World} (h : MdAt Ls w W H n m gm gx gy k Y u) (hk : k < n) : MdAt Ls w W H n m gm gx gy (k + 1) Y (u.setCell ⟨gx, k, none⟩ (.int .i64 (medV (colV Ls k)))) := by
  have hl := own_low_g h.row
  have s := h.row.stored k (.int .i64 (medV (colV Ls k)))
  have hn := own_ne_pic h.row h.g
  have hn0 := own_ne_pic h.row h.g0
  refine ⟨h.bel.setCell (by show w.heap.size ≤ gx; exact hl.1) _, (heap_setCell_other u ⟨gx, k, none⟩ w.heap.size _ (by simpa using hn0)).trans h.g0, (heap_setCell_other u ⟨gx, k, none⟩ gm _ (by simpa using hn)).trans h.g, ?_, h.cnt.kept s.2 (.inr (by
    intro q
    have : gy = gx := by simpa [Value.ownBlock] using q
    exact h.ne this.symm)), h.lo, h.ne⟩
  have := s.1
  rwa [med_set hk] at this
theorem MdAt.sort {Ls : List Pic} {w : World} {W H : Int} {n m gm gx gy k : Nat} {Y : List Int} {u v : World} (h : MdAt Ls w W H n m gm gx gy k Y u) (hY : Y.length = m)
    (hv : ∃ q os, v = grow (putRow (Value.int .i64) (Sort.ahead u q) gy 0 (Y.mergeSort fun x y => decide (x ≤ y)).toArray) os) : MdAt Ls w W H n m gm gx gy k (Y.mergeSort fun x y => decide (x ≤ y)) v := by
  obtain ⟨q, os, rfl⟩ := hv
  have hl := own_low_g h.cnt
  have gr := grownBy_sortedI (w := u) (g := gy) (n := q) (os := os) (Y.mergeSort fun x y => decide (x ≤ y)).toArray
  have hn := own_ne_pic h.cnt h.g
  have hn0 := own_ne_pic h.cnt h.g0
  rcases h.cnt.2 with ⟨h1, _⟩ | ⟨g', c', cur, h1, h2, h3, h4, h5, h6, h7⟩
  · cases h1
  injection h1 with h1 _ hc
  injection h1 with h1
  injection h1 with h1
  subst h1
  subst hc
  refine ⟨h.bel.grown gr h.bel.size (fun j hj => by cases hj; exact hl.1), ?_, ?_, h.row.kept gr (.inr (by
    intro q
    have : gx = gy := by simpa [Value.ownBlock] using q
    exact h.ne this)), ?_, h.lo, h.ne⟩
  · rw [gr.block w.heap.size (ltB h.g0) (fun q => hn0 (by simpa using q))]
    exact h.g0
  · rw [gr.block gm (ltB h.g) (fun q => hn (by simpa using q))]
    exact h.g
  · have := ownsRow_sortedI (w := u) (base := w.heap.size) (g := gy) (cap := m) (n := q) (e := 3) (os := os) (cur := cur) (ss := Y) (ts := Y.mergeSort fun x y => decide (x ≤ y)) (List.length_mergeSort _) h2 h3 (by omega) h5 h6
    rw [hY] at this
    exact this
structure Alike (Ls : List Pic) (W H : Int) (n : Nat) : Prop where
  ok : ∀ j, j < Ls.length → PicOk (Ls.getD j pic0) ∧ (Ls.getD j pic0).wide = W ∧ (Ls.getD j pic0).high = H ∧ (Ls.getD j pic0).L.length = n
def MedPost (Ls : List Pic) (W H : Int) (n : Nat) (w : World) (e : Ending) (w' : World) : Prop := ∃ gx, e = .returned (.agg #[.int .i64 W, .int .i64 H, .slice (some ⟨gx, 0, none⟩) n n]) ∧ w.heap.size ≤ gx ∧ ICame w' (some ⟨gx, 0, none⟩) (stkK Ls n) ∧ Below w.heap.size w w'
set_option maxRecDepth 100000 in
set_option maxHeartbeats 6400000 in
theorem medians_any {w : World} {al : Option Addr} {cap n : Nat} {Ls : List Pic} {W H : Int} (hr : PCame w al Ls) (ha : Alike Ls W H n) (hm : 1 ≤ Ls.length) (hm2 : Ls.length ≤ 64) (hn : n ≤ 65536) :
    Calls Tryd.prog 81 #[.slice al Ls.length cap] w (MedPost Ls W H n w) := by
  obtain ⟨i0, hi0, hz0, hz1, hz2⟩ := info_parts infoI
  have hb := below_a w (.cells #[.int .i64 0, .int .i64 0, .slice none 0 0] 94)
  have HG := hideR (alloc_last w (.cells #[.int .i64 0, .int .i64 0, .slice none 0 0] 94))
  have HR := hideR hr
  have HA := hideR ha
  have HB := hideR hb
  obtain ⟨b0, o0, ad0, cap0, rfl, hp0, _⟩ := (hr.below hb).at_ 0 (by omega)
  obtain ⟨_, hW0, hH0, hL0⟩ := ha.ok 0 (by omega)
  obtain ⟨_, x0, x1, x2, _⟩ := hp0
  rw [hW0] at x0
  rw [hH0] at x1
  rw [hL0] at x2
  rw [Nat.zero_mul, Nat.add_zero] at x0 x1 x2
  have hem := fun u => empty_any W H ad0 n cap0 u hn
  have HW1 : HeldR ((w.alloc (.cells #[.int .i64 0, .int .i64 0, .slice none 0 0] 94)).heap.size = w.heap.size + 1) := hideR (by simp)
  clear hb hr ha hW0 hH0 hL0
  generalize hML : Ls.length = m at *
  have HML := hideR hML
  clear hML
  go_enter Tryd.func81, Tryd.ntmps81
  go_wp2_with fail
  generalize w.alloc (.cells #[.int .i64 0, .int .i64 0, .slice none 0 0] 94) = W1 at *
  refine (hem _).mono ?_
  rintro e w2 ⟨gx, rfl, ho, k2⟩
  replace HB := hideR (below_go (unhideR HB) k2)
  replace HG := hideR (keepB (unhideR HG) k2)
  have HO := hideR ho
  have lW1 := (unhideR HB).size
  clear hem ho k2 x0 x1 x2
  obtain ⟨w3, hmk, hoz, hb3⟩ := make_zero (w := w2.alloc (.cells #[.int .i64 W, .int .i64 H, .slice (some ⟨gx, 0, none⟩) n n] 94)) (n := m) w.heap.size (by simp; omega) (by omega)
  have hgx := own_low_g (unhideR HO)
  have hg3 := keepB (alloc_last w2 (.cells #[.int .i64 W, .int .i64 H, .slice (some ⟨gx, 0, none⟩) n n] 94)) hb3
  have HM : HeldR (MdAt Ls w W H n m w2.heap.size gx (w2.alloc (.cells #[.int .i64 W, .int .i64 H, .slice (some ⟨gx, 0, none⟩) n n] 94)).heap.size 0 (List.replicate m 0) w3) := by
    refine hideR ⟨below_go (below_go (unhideR HB) (below_a w2 _)) hb3, keepB (keepA (unhideR HG)) hb3, hg3, ?_, hoz, (unhideR HB).size, ?_⟩
    · have := own_below2 (own_below2 (unhideR HO) (below_a w2 (.cells #[.int .i64 W, .int .i64 H, .slice (some ⟨gx, 0, none⟩) n n] 94))) hb3
      simpa [stkK] using own_low this (by have := unhideR HW1; omega)
    · have h2 := hgx.2
      simp
      omega
  clear HG
  obtain ⟨y0, y1, y2⟩ := pic_three hg3
  go_wp2
  have hgz : (w2.alloc (.cells #[.int .i64 W, .int .i64 H, .slice (some ⟨gx, 0, none⟩) n n] 94)).heap.size = w2.heap.size + 1 := by simp
  rw [hgz] at HM
  clear hmk hgz hoz hb3 hg3
  generalize hgy : w2.heap.size + 1 = gy at *
  generalize w2.heap.size = gm at *
  clear hgx HO hgy HB HW1
  have HY0 : HeldR ((List.replicate m (0 : Int)).length = m) := hideR (by simp)
  go_loopw [18] (fun kv wl => ∃ (k : Nat) (Y : List Int), k ≤ n ∧ kv = .int .i64 (k : Nat) ∧ HeldR (MdAt Ls w W H n m gm gx gy k Y wl) ∧ HeldR (Y.length = m)) (fun kv _ => n + 1 - (intOf kv).toNat)
  case atStart => exact ⟨0, _, by omega, rfl, HM, HY0⟩
  case round =>
    clear HM HY0 y0 y1 y2
    obtain ⟨k, Y0, hk, rfl, HM, HY0⟩ := hrel
    by_cases hlt : k < n
    · have HC0 : HeldR (Y0.length = m ∧ Y0.take 0 = (colV Ls k).take 0) := hideR ⟨unhideR HY0, rfl⟩
      go_wp2
      go_loopw [23] (fun jv wl => ∃ (j : Nat) (Y : List Int), j ≤ m ∧ jv = .int .i64 (j : Nat) ∧ HeldR (MdAt Ls w W H n m gm gx gy k Y wl) ∧ HeldR (Y.length = m ∧ Y.take j = (colV Ls k).take j)) (fun jv _ => m + 1 - (intOf jv).toNat)
      case atStart => exact ⟨0, Y0, by omega, rfl, HM, HC0⟩
      case round =>
        clear HM HC0 HY0
        obtain ⟨j, Y, hj, rfl, HM, HC⟩ := hrel
        by_cases hjl : j < m
        · have hjL : j < Ls.length := by rw [unhideR HML]; exact hjl
          obtain ⟨bj, oj, adj, capj, eb, hp, _⟩ := ((unhideR HR).below (unhideR HM).bel).at_ j hjL
          injection eb with eb
          injection eb with eb1 eb2
          subst eb1
          subst eb2
          obtain ⟨_, hW0, hH0, hL0⟩ := (unhideR HA).ok j hjL
          obtain ⟨_, x0, x1, x2, hrow⟩ := hp
          rw [hW0] at x0
          rw [hH0] at x1
          obtain ⟨bc, oc, rfl, lbc, xc⟩ := hrow.at_ k (by rw [hL0]; exact hlt)
          rw [hL0] at x2
          have HX : HeldR ((colV Ls k).getD j 0 = (Ls.getD j pic0).L.getD k 0) := by
            refine hideR ?_
            unfold colV
            rw [List.getD_eq_getElem?_getD, List.getElem?_map, List.getElem?_eq_getElem hjL, List.getD_eq_getElem?_getD (l := Ls), List.getElem?_eq_getElem hjL]
            rfl
          generalize (Ls.getD j pic0).L.getD k 0 = x at *
          have hb2 := below_a wr (.cells #[.int .i64 W, .int .i64 H, .slice (some ⟨bc, oc, none⟩) n capj] 94)
          obtain ⟨y0, y1, y2⟩ := pic_three (alloc_last wr (.cells #[.int .i64 W, .int .i64 H, .slice (some ⟨bc, oc, none⟩) n capj] 94))
          have xc2 := (hb2.cell (p := ⟨bc, oc + k, none⟩) lbc).trans xc
          replace HM := hideR ((unhideR HM).go hb2)
          have q1 : ∃ z, (wr.alloc (.cells #[.int .i64 W, .int .i64 H, .slice (some ⟨bc, oc, none⟩) n capj] 94)).cell? ⟨gy, j, none⟩ = some z := by
            refine ⟨_, (((unhideR HM).cnt).cellAt j (by omega)).trans (List.getElem?_eq_getElem ?_)⟩
            rw [((unhideR HM).cnt).1]
            omega
          obtain ⟨z, q1⟩ := q1
          have q2 := ((unhideR HM).cnt).frozenAt j
          have HM2 := hideR ((unhideR HM).put j x)
          have HC2 : HeldR ((Y.set j x).length = m ∧ (Y.set j x).take (j + 1) = (colV Ls k).take (j + 1)) := by
            obtain ⟨c1, c2⟩ := unhideR HC
            refine hideR ⟨by rw [List.length_set]; exact c1, ?_⟩
            have lc : (colV Ls k).length = m := by rw [col_length]; exact unhideR HML
            rw [List.take_add_one, List.take_add_one, List.getElem?_set_self (by omega), List.take_set_of_le (Nat.le_refl _), c2, List.getElem?_eq_getElem (by omega)]
            have hx := unhideR HX
            rw [List.getD_eq_getElem?_getD, List.getElem?_eq_getElem (by omega)] at hx
            rw [← hx]
            rfl
          clear HM HC HX hb2 hW0 hH0 hL0 hrow xc lbc hjL
          go_wp2
          exact ⟨⟨j + 1, _, by omega, by go_num, HM2, HC2⟩, by simp [intOf]; omega⟩
        · obtain rfl : m = j := by omega
          have HYc : HeldR (Y = colV Ls k) := by
            obtain ⟨c1, c2⟩ := unhideR HC
            have lc : (colV Ls k).length = m := by rw [col_length]; exact unhideR HML
            refine hideR ?_
            rwa [List.take_of_length_le (by omega), List.take_of_length_le (by omega)] at c2
          have hYl := (unhideR HC).1
          have hH : Holds (Value.int .i64) wr gy 0 Y.toArray := by
            rcases (unhideR HM).cnt.2 with ⟨h1, _⟩ | ⟨g', c', cur, h1, _, h3, _, _, _, h7⟩
            · cases h1
            · injection h1 with h1
              injection h1 with h1
              injection h1 with h1
              subst h1
              refine holds_of_blockI h3 ?_
              rw [hYl]
              simpa using h7
          have hlg := own_low_g (unhideR HM).cnt
          have hso := Tryd.slices_Sort_int gy 0 m Y wr hH hlg.2 (by omega)
          rw [hYl] at hso
          clear hH hlg
          go_wp2_with fail
          refine hso.mono ?_
          rintro e w5 ⟨rfl, hgr⟩
          have HM2 := hideR ((unhideR HM).sort hYl hgr)
          have HYl := hideR hYl
          clear hso hgr HM HC hYl
          have hlS : (Y.mergeSort fun x y => decide (x ≤ y)).length = m := by rw [List.length_mergeSort]; exact unhideR HYl
          have HV : HeldR ((Y.mergeSort fun x y => decide (x ≤ y)).getD ((m - 1) / 2) 0 = medV (colV Ls k)) := by
            refine hideR ?_
            unfold medV
            rw [col_length, unhideR HML, unhideR HYc]
          have lgy := (own_low_g (unhideR HM2).cnt).2
          have xc : w5.cell? ⟨gy, (m - 1) / 2, none⟩ = some (.int .i64 ((Y.mergeSort fun x y => decide (x ≤ y)).getD ((m - 1) / 2) 0)) := by
            have hc : (m - 1) / 2 < (Y.mergeSort fun x y => decide (x ≤ y)).length := by rw [hlS]; omega
            rw [((unhideR HM2).cnt).cellAt ((m - 1) / 2) (by omega), List.getElem?_map, List.getElem?_eq_getElem hc, List.getD_eq_getElem?_getD, List.getElem?_eq_getElem hc]
            rfl
          have HMd := hideR (fun v (h : MdAt Ls w W H n m gm gx gy k (Y.mergeSort fun x y => decide (x ≤ y)) v) => h.med hlt)
          rw [unhideR HV] at xc
          generalize medV (colV Ls k) = x at *
          have hd1 : ((m : Int) - 1).tdiv 2 = (((m - 1) / 2 : Nat) : Int) := by rw [Int.tdiv_eq_ediv_of_nonneg (by omega)]; omega
          have hd2 : ((m : Int) - 1) / 2 = (((m - 1) / 2 : Nat) : Int) := by omega
          have hcl : (m - 1) / 2 < m := by omega
          have hw1 : IntKind.i64.wrap ((m : Int) - 1) = (m : Int) - 1 := wrap_fit (by omega) (by omega)
          have hw2 : IntKind.i64.wrap (((m - 1) / 2 : Nat) : Int) = (((m - 1) / 2 : Nat) : Int) := wrap_fit (by omega) (by omega)
          have HS := hideR hlS
          clear hlS HV
          generalize (Y.mergeSort fun x y => decide (x ≤ y)) = Z at *
          generalize (m - 1) / 2 = c at *
          go_wp2_with fail
          refine wp_region_made 0 #[true, true, true, true, true, true, true, true, true, true, true, false] [.lets (· = .pointer (some ⟨gm, 2, none⟩)),
            .lets (· = .slice (some ⟨gx, 0, none⟩) n n),
            .lets (· = .int .i64 (k : Nat)),
            .lets (· = .slice (some ⟨gy, 0, none⟩) m m),
            .lets (· = .slice (some ⟨gy, 0, none⟩) m m),
            .lets (· = .int .i64 (m : Nat)),
            .lets (· = .int .i64 ((m : Int) - 1)),
            .lets (· = .int .i64 (c : Nat)),
            .lets (· = .pointer (some ⟨gy, c, none⟩)),
            .lets (· = .int .i64 x),
            .lets (· = .pointer (some ⟨gx, k, none⟩))] [] [] (by kernel_rfl) (by kernel_rfl) rfl ?kinds (by kernel_rfl) (by kernel_rfl) (by kernel_rfl) ?_
          case kinds =>
            constructor
            · intro i h
              rcases i with _ | _ | _ | _ | _ | _ | _ | _ | _ | _ | _ | i <;> simp [Kx.isMade] at h
            · intro i h
              rcases i with _ | _ | _ | _ | _ | _ | _ | _ | _ | _ | _ | i <;> simp [Kx.isUse] at h
          refine lexX_step (fun K hK => ⟨by kernel_rfl, ⟨_, rfl⟩, fun v hv => ?_, fun v hv => ?_⟩)
          · go_simp
            exact mUpon_b
          subst hv
          go_simp
          refine hK _ ?_
          clear hK K
          refine lexX_step (fun K hK => ⟨by kernel_rfl, ⟨_, rfl⟩, fun v hv => ?_, fun v hv => ?_⟩)
          · have y2 := (pic_three ((unhideR HM2).go hv).g).2.2
            go_simp
            exact mUpon_b
          subst hv
          go_simp
          refine hK _ ?_
          clear hK K
          refine lexX_step (fun K hK => ⟨by kernel_rfl, ⟨_, rfl⟩, fun v hv => ?_, fun v hv => ?_⟩)
          · go_simp
            exact mUpon_b
          subst hv
          go_simp
          refine hK _ ?_
          clear hK K
          refine lexX_step (fun K hK => ⟨by kernel_rfl, ⟨_, rfl⟩, fun v hv => ?_, fun v hv => ?_⟩)
          · go_simp
            exact mUpon_b
          subst hv
          go_simp
          refine hK _ ?_
          clear hK K
          refine lexX_step (fun K hK => ⟨by kernel_rfl, ⟨_, rfl⟩, fun v hv => ?_, fun v hv => ?_⟩)
          · go_simp
            exact mUpon_b
          subst hv
          go_simp
          refine hK _ ?_
          clear hK K
          refine lexX_step (fun K hK => ⟨by kernel_rfl, ⟨_, rfl⟩, fun v hv => ?_, fun v hv => ?_⟩)
          · go_simp
            exact mUpon_b
          subst hv
          go_simp
          refine hK _ ?_
          clear hK K
          refine lexX_step (fun K hK => ⟨by kernel_rfl, ⟨_, rfl⟩, fun v hv => ?_, fun v hv => ?_⟩)
          · go_simp
            exact mUpon_b
          subst hv
          go_simp
          refine hK _ ?_
          clear hK K
          refine lexX_step (fun K hK => ⟨by kernel_rfl, ⟨_, rfl⟩, fun v hv => ?_, fun v hv => ?_⟩)
          · go_simp
            exact mUpon_b
          subst hv
          go_simp
          refine hK _ ?_
          clear hK K
          refine lexX_step (fun K hK => ⟨by kernel_rfl, ⟨_, rfl⟩, fun v hv => ?_, fun v hv => ?_⟩)
          · go_simp
            exact mUpon_b
          subst hv
          go_simp
          refine hK _ ?_
          clear hK K
          refine lexX_step (fun K hK => ⟨by kernel_rfl, ⟨_, rfl⟩, fun v hv => ?_, fun v hv => ?_⟩)
          · have y2 : v.cell? ⟨gy, c, none⟩ = some (.int .i64 x) := (hv.cell (p := ⟨gy, c, none⟩) lgy).trans xc
            go_simp
            exact mUpon_b
          subst hv
          go_simp
          refine hK _ ?_
          clear hK K
          refine lexX_step (fun K hK => ⟨by kernel_rfl, ⟨_, rfl⟩, fun v hv => ?_, fun v hv => ?_⟩)
          · go_simp
            exact mUpon_b
          subst hv
          go_simp
          refine hK _ ?_
          clear hK K
          refine lexX_end (fun v5 hv => ?_)
          have HM5 := hideR ((unhideR HM2).go hv.low)
          have q1 : ∃ z, v5.cell? ⟨gx, k, none⟩ = some z := by
            refine ⟨_, (((unhideR HM5).row).cellAt k (by omega)).trans (List.getElem?_eq_getElem ?_)⟩
            rw [((unhideR HM5).row).1]
            omega
          obtain ⟨z, q1⟩ := q1
          have q2 := ((unhideR HM5).row).frozenAt k
          have HM6 := hideR (unhideR HMd v5 (unhideR HM5))
          clear hv HM2 HM5 HMd xc
          refine wpAny_step (i := 11) (by kernel_rfl) rfl (by kernel_rfl) (fun K hK => ?_)
          unfold Oper.wp
          go_simp
          refine hK _ _ ?_
          clear hK K
          refine wpAny_end (by kernel_rfl) ?_
          clear q1 q2
          go_wp2
          exact ⟨⟨k + 1, Z, by omega, by go_num, HM6, HS⟩, by simp [intOf]; omega⟩
    · obtain rfl : n = k := by omega
      obtain ⟨y0, y1, y2⟩ := pic_three (unhideR HM).g
      obtain ⟨z0, z1, z2⟩ := pic_three (unhideR HM).g0
      obtain ⟨o0', o1', o2'⟩ := pic_open (unhideR HM).g0
      have hg0 := three_set (y0 := .int .i64 W) (y1 := .int .i64 H) (y2 := .slice (some ⟨gx, 0, none⟩) n n) (unhideR HM).g0
      have HX : HeldR (MedPost Ls W H n w (.returned (.agg #[.int .i64 W, .int .i64 H, .slice (some ⟨gx, 0, none⟩) n n])) (((wr.setCell ⟨w.heap.size, 0, none⟩ (.int .i64 W)).setCell ⟨w.heap.size, 1, none⟩ (.int .i64 H)).setCell ⟨w.heap.size, 2, none⟩ (.slice (some ⟨gx, 0, none⟩) n n))) := by
        refine hideR ⟨gx, rfl, (own_low_g (unhideR HM).row).1, ?_, three_below (unhideR HM).bel (Nat.le_refl _)⟩
        have hne := own_ne_pic (unhideR HM).row (unhideR HM).g0
        have hs : ∀ (u : World) (i : Nat) (x : Value), u.grownBy (u.setCell ⟨w.heap.size, i, none⟩ x) (some w.heap.size) := fun u i x => ⟨rfl, rfl, rfl, by simp [World.setCell], fun b _ hb => heap_setCell_other u ⟨w.heap.size, i, none⟩ b x (fun e => hb (by simp at e; rw [e]))⟩
        have hk : ∀ {u : World} {i : Nat} {x : Value}, u.ownsRow w.heap.size 3 1 (.slice (some ⟨gx, 0, none⟩) n n) n ((stkK Ls n).map (Value.int .i64)) → (u.setCell ⟨w.heap.size, i, none⟩ x).ownsRow w.heap.size 3 1 (.slice (some ⟨gx, 0, none⟩) n n) n ((stkK Ls n).map (Value.int .i64)) := fun {u i x} h => h.kept (hs u i x) (.inr (fun q => hne (by simpa [Value.ownBlock] using q.symm)))
        have h0 := (unhideR HM).row
        rw [Nat.sub_self, List.replicate_zero, List.append_nil] at h0
        have h1 := hk (i := 2) (x := .slice (some ⟨gx, 0, none⟩) n n) (hk (i := 1) (x := .int .i64 H) (hk (i := 0) (x := .int .i64 W) h0))
        have h2 : (((wr.setCell ⟨w.heap.size, 0, none⟩ (.int .i64 W)).setCell ⟨w.heap.size, 1, none⟩ (.int .i64 H)).setCell ⟨w.heap.size, 2, none⟩ (.slice (some ⟨gx, 0, none⟩) n n)).ownsRow w.heap.size 3 1 (.slice (some ⟨gx, 0, none⟩) n n) (stkK Ls n).length ((stkK Ls n).map (Value.int .i64)) := by rw [stkK_length]; exact h1
        obtain ⟨ad, cap', e1, hr, _⟩ := own_ints h2
        injection e1 with e1
        rw [← e1] at hr
        exact hr
      go_wp2_with fail
      generalize ((wr.setCell ⟨w.heap.size, 0, none⟩ (.int .i64 W)).setCell ⟨w.heap.size, 1, none⟩ (.int .i64 H)).setCell ⟨w.heap.size, 2, none⟩ (.slice (some ⟨gx, 0, none⟩) n n) = uf at *
      obtain ⟨r0, r1, r2⟩ := pic_three hg0
      simp [bodyPost, results, Tryd.results81, go_sem, r0, r1, r2]
      exact unhideR HX
end Go.Proofs.YtncbmkflilcdgahDoor
