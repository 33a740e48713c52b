/-
  The program's gathering of parts' pixels, by contract.
-/
import Derived.Test.YtmgnobeaacjdjajGreatDoorDWA
import Derived.Deep.CutRange
namespace Go.Proofs.YtmgnobeaacjdjajGreatDoor
open Go Go.RowKit Go.Shelf Go.Lib Go.Sort

theorem infoX : (Tryz.prog.info? 36).map (fun i => (i.zero, i.size, i.bytes)) = some (some Sxzv, 9, 72) := by kernel_rfl
theorem make_spots {w : World} {n : Nat} (hn : n ≤ 65536) : ∃ w', (Instr.makeSlice 50 (.int .i64 (n : Int)) (.int .i64 (n : Int))).run Tryz.prog w = .ok (.slice (some ⟨w.heap.size, 0, none⟩) n n) w' ∧ GRow 9 w w.heap.size n (fun _ => sx0) w' := by
  obtain ⟨i0, hi0, hz0, hz1, hz2⟩ := info_parts infoX
  obtain ⟨w', h1, h2, h3⟩ := run_make_full (P := Tryz.prog) w w.heap.size 50 36 i0 Sxzv 9 (by kernel_rfl) hi0 hz0 hz1 .i64 .i64 n (by rw [hz2]; omega) (by simp [maxLen]; omega) (Nat.le_refl _)
  refine ⟨w', h1, ⟨Array.replicate n sx0, by simp, fun i hi => by simp [hi], fun j hj => ?_⟩, (h2.lt _ rfl).2, (Below.refl _ _).grown h3 (Nat.le_refl _) (fun k hk => by cases hk), rfl⟩
  rw [size_flatK, Array.size_replicate] at hj
  refine ⟨?_, by rw [Nat.zero_add]; exact h2.frozenAt j⟩
  rw [Nat.zero_add, h2.cellAt j hj, get_flatK _ _ _ _ (by simpa using hj)]
  have hd : j / 9 < n := by omega
  have e1 : (Array.replicate n sx0)[j / 9]! = sx0 := by simp [hd]
  rw [e1]
  have e2 : (madeCells Sxzv.cells (n * 9)).toList[j]? = some (Sxzv.cells[j % 9]!) := by
    unfold madeCells
    simp [hj]
    rfl
  rw [e2]
  rcases (show j % 9 = 0 ∨ j % 9 = 1 ∨ j % 9 = 2 ∨ j % 9 = 3 ∨ j % 9 = 4 ∨ j % 9 = 5 ∨ j % 9 = 6 ∨ j % 9 = 7 ∨ j % 9 = 8 by omega) with q | q | q | q | q | q | q | q | q <;> rw [q] <;> rfl
theorem GRow.congr {k : Nat} {w : World} {g N : Nat} {f f' : Nat → Sta} {u : World} (h : GRow k w g N f u) (e : ∀ i, i < N → f i = f' i) : GRow k w g N f' u := by
  obtain ⟨d, h1, h2, h3⟩ := h.has
  exact ⟨⟨d, h1, fun i hi => (h2 i hi).trans (e i hi), h3⟩, h.lt, h.bel, h.k9⟩
/-- what is gathered from. -/
structure GaIn (W H parts : Nat) (lab ov : List Int) : Prop where
  w1 : 1 ≤ W
  w2 : W ≤ 256
  h2 : H ≤ 256
  len : lab.length = H * W
  few : lab.length ≤ 65536
  ol : ov.length = lab.length
  pn : parts ≤ 65536
  lo : ∀ i, i < lab.length → 0 ≤ lab.getD i 0 ∧ lab.getD i 0 ≤ parts
  ov1 : ∀ i, i < lab.length → 1 ≤ lab.getD i 0 → 1 ≤ ov.getD i 0 ∧ ov.getD i 0 ≤ 65535
  all : ∀ k : Nat, 1 ≤ k → k ≤ parts → 1 ≤ (spK lab ov W H k).px
theorem GaIn.at_ {W H parts : Nat} {lab ov : List Int} (h : GaIn W H parts lab ov) {i : Nat} (hi : i < lab.length) : i % W < W ∧ i / W < H := by
  have := h.w1
  refine ⟨Nat.mod_lt _ (by omega), ?_⟩
  rw [Nat.div_lt_iff_lt_mul (by omega), ← h.len]
  exact hi
theorem GaIn.bound {W H parts : Nat} {lab ov : List Int} (h : GaIn W H parts lab ov) {k : Nat} (hk : 1 ≤ k) {i : Nat} (hi : i ≤ lab.length) : SpB (spN lab ov W H k i) i := by
  refine spN_bound (n := lab.length) (fun j hj => ?_) (fun j hj e => h.ov1 j hj (by omega)) i hi
  have := h.at_ hj
  have := h.w2
  have := h.h2
  omega
def GaPost (W H parts : Nat) (lab ov : List Int) (w : World) (e : Ending) (w' : World) : Prop := e = .returned (.slice (some ⟨w.heap.size, 0, none⟩) parts parts) ∧ GRow 9 w w.heap.size parts (fun j => starOf (spK lab ov W H (j + 1))) w'
set_option maxRecDepth 100000 in
set_option maxHeartbeats 3200000 in
theorem gathered_any {k : Nat} (hk9 : 9 = k) (zE : ∀ w, (Go.sizeOf 36).run Tryz.prog w = .ok k w) {w : World} {a1 a2 : Option Addr} {cp1 cp2 W H parts : Nat} {lab ov : List Int} (h1 : ICame w a1 ov) (h2 : ICame w a2 lab) (h : GaIn W H parts lab ov) :
    Calls Tryz.prog 44 #[.slice a1 lab.length cp1, .slice a2 lab.length cp2, .int .i64 (parts : Nat), .int .i64 (W : Nat)] w (GaPost W H parts lab ov w) := by
  obtain ⟨w1, hmk, hg0⟩ := make_spots (w := w) (n := parts) h.pn
  have HS0 : HeldR (GRow k w w.heap.size parts (fun j => rawS (spN lab ov W H (j + 1) 0)) w1) := hideR (by
    rw [← hk9]
    exact hg0.congr (fun i _ => rfl))
  have HIn := hideR h
  have HA1 : HeldR (∀ u, Below w.heap.size w u → ICame u a1 ov) := hideR (fun u b => h1.below b)
  have HA2 : HeldR (∀ u, Below w.heap.size w u → ICame u a2 lab) := hideR (fun u b => h2.below b)
  have HK9 := hideR hk9
  have aE := aggX
  have hw1 := h.w1
  have hw2 := h.w2
  have hh2 := h.h2
  have hfew := h.few
  have hpn := h.pn
  obtain ⟨n, hn⟩ : ∃ n, lab.length = n := ⟨_, rfl⟩
  have HN := hideR hn
  rw [hn] at hfew ⊢
  have hW0 : (W : Int) ≠ 0 := by omega
  have hW0' : W ≠ 0 := by omega
  clear h h1 h2 hn hg0 hk9
  go_enter Tryz.func44, Tryz.ntmps44
  go_wp2
  clear hmk
  obtain ⟨g, hg⟩ : ∃ g, w.heap.size = g := ⟨_, rfl⟩
  have HGe := hideR hg
  rw [show (⟨w.heap.size, 0, none⟩ : Addr) = ⟨g, 0, none⟩ by rw [hg]]
  rw [hg] at HS0 HA1 HA2
  clear hg
  go_loopw [18] (fun iv wl => ∃ i : Nat, i ≤ n ∧ iv = .int .i64 (i : Nat) ∧ HeldR (GRow k w g parts (fun j => rawS (spN lab ov W H (j + 1) i)) wl)) (fun iv _ => 100000 - (intOf iv).toNat)
  case atStart => exact ⟨0, by omega, rfl, HS0⟩
  case round =>
    clear HS0
    obtain ⟨i, hin, rfl, HS⟩ := hrel
    by_cases hi : i < n
    · have tin : decide (i < n) = true := decide_eq_true hi
      have ji : (i : Int) < (n : Int) := by omega
      have wi : IntKind.i64.wrap ((i : Int) + 1) = (i : Int) + 1 := iwrap (by omega) (by omega)
      have hil : i < lab.length := by rw [unhideR HN]; exact hi
      obtain ⟨b2, o2, e2, _, x2⟩ := (unhideR HA2 wr (unhideR HS).bel).at_ i hil
      subst e2
      have hlo := (unhideR HIn).lo i hil
      obtain ⟨lv, hlv⟩ : ∃ lv, lab.getD i 0 = lv := ⟨_, rfl⟩
      rw [hlv] at x2 hlo
      by_cases hpos : 0 < lv
      · have tp : decide (0 < lv) = true := decide_eq_true hpos
        obtain ⟨lb, hlb⟩ : ∃ lb : Nat, lv = (lb : Int) + 1 := ⟨(lv - 1).toNat, by omega⟩
        subst hlb
        have hlp : lb < parts := by omega
        have jl : (lb : Int) < (parts : Int) := by omega
        have wlb : IntKind.i64.wrap ((lb : Int) + 1 - 1) = (lb : Int) := by rw [show (lb : Int) + 1 - 1 = (lb : Int) by omega]; exact iwrap (by omega) (by omega)
        have wlb2 : IntKind.i64.wrap (lb : Int) = (lb : Int) := iwrap (by omega) (by omega)
        obtain ⟨b1, o1, e1, hb1, x1⟩ := (unhideR HA1 wr (unhideR HS).bel).at_ i (by rw [(unhideR HIn).ol]; exact hil)
        subst e1
        have hxy := (unhideR HIn).at_ hil
        have hov := (unhideR HIn).ov1 i hil (by rw [hlv]; omega)
        have hB := (unhideR HIn).bound (k := lb + 1) (by omega) (show i ≤ lab.length by omega)
        have hok := raw_ok (x := i % W) (y := i / W) (l := ov.getD i 0) hB (by omega) (by omega) (by omega) hov.1 hov.2
        have hst := raw_step (lab := lab) (ov := ov) (W := W) (H := H) (k := lb + 1) (n := i) hxy.1 hxy.2 hB.p0
        have hnx : ∀ j, rawS (spN lab ov W H (j + 1) (i + 1)) = updS (fun j => rawS (spN lab ov W H (j + 1) i)) lb (withX (rawS (spN lab ov W H (lb + 1) i)) ((i % W : Nat) : Int) ((i / W : Nat) : Int) (ov.getD i 0)) j := fun j => by
          rw [spN_next, hlv]
          unfold updS
          by_cases e : j = lb
          · subst e
            rw [if_pos rfl, if_pos (by omega), hst]
          · rw [if_neg e, if_neg (by omega)]
        have hm1 : (i : Int) % (W : Int) = ((i % W : Nat) : Int) := (Int.natCast_emod i W).symm
        have hm2 : (i : Int).tmod (W : Int) = ((i % W : Nat) : Int) := (Int.tmod_eq_emod_of_nonneg (Int.natCast_nonneg i)).trans hm1
        have hd1 : (i : Int) / (W : Int) = ((i / W : Nat) : Int) := (Int.natCast_ediv i W).symm
        have hd2 : (i : Int).tdiv (W : Int) = ((i / W : Nat) : Int) := (Int.tdiv_eq_ediv_of_nonneg (Int.natCast_nonneg i)).trans hd1
        obtain ⟨x, hx'⟩ : ∃ x, i % W = x := ⟨_, rfl⟩
        obtain ⟨y, hy'⟩ : ∃ y, i / W = y := ⟨_, rfl⟩
        obtain ⟨v0, hv0⟩ : ∃ v0, ov.getD i 0 = v0 := ⟨_, rfl⟩
        rw [hx'] at hm1 hm2 hxy hok hnx
        rw [hy'] at hd1 hd2 hxy hok hnx
        rw [hv0] at x1 hok hnx
        have wx1 : IntKind.i64.wrap (x : Int) = (x : Int) := iwrap (by omega) (by omega)
        have wy1 : IntKind.i64.wrap (y : Int) = (y : Int) := iwrap (by omega) (by omega)
        obtain ⟨s0, hs0⟩ : ∃ s0, rawS (spN lab ov W H (lb + 1) i) = s0 := ⟨_, rfl⟩
        rw [hs0] at hok hnx
        have HWi : HeldR (∀ u, Calls Tryz.prog 77 #[.agg (valSx s0).toArray, .int .i64 (x : Nat), .int .i64 (y : Nat), .int .i64 v0] u fun e w' => e = .returned (.agg (valSx (withX s0 (x : Nat) (y : Nat) v0)).toArray) ∧ Below u.heap.size u w') := hideR (fun u => (with_any (w := u) hok).mono (fun e w' q => q))
        have HLd : HeldR (∀ v, Below wr.heap.size wr v → Sem.run Tryz.prog (loadCellsFrom ⟨g, lb * k, none⟩ 0 k #[]) v = .ok (valSx s0).toArray v) := hideR (fun v b => by
          have := (unhideR HS).load hlp b
          simp only [hs0] at this
          exact this)
        have HSt : HeldR (∀ v, Below wr.heap.size wr v → Sem.run Tryz.prog (storeCells ⟨g, lb * k, none⟩ (valSx (withX s0 (x : Nat) (y : Nat) v0)) 0) v = .ok () (v.setCells g (lb * k) (valSx (withX s0 (x : Nat) (y : Nat) v0))) ∧ HeldR (GRow k w g parts (fun j => rawS (spN lab ov W H (j + 1) (i + 1))) (v.setCells g (lb * k) (valSx (withX s0 (x : Nat) (y : Nat) v0))))) := hideR (fun v b => by
          obtain ⟨q1, q2⟩ := ((unhideR HS).below b).store hlp (withX s0 (x : Nat) (y : Nat) v0)
          exact ⟨q1, hideR (q2.congr (fun j _ => (hnx j).symm))⟩)
        have HC1 : HeldR (∀ v, Below wr.heap.size wr v → v.cell? ⟨b1, o1 + i, none⟩ = some (.int .i64 v0)) := hideR (fun v b => (b.cell (p := ⟨b1, o1 + i, none⟩) hb1).trans x1)
        have l1n : (valSx s0).length = k := unhideR HK9
        have l2n : (valSx (withX s0 (x : Nat) (y : Nat) v0)).length = k := unhideR HK9
        obtain ⟨cI, hcI⟩ : ∃ cI, valSx s0 = cI := ⟨_, rfl⟩
        obtain ⟨cJ, hcJ⟩ : ∃ cJ, valSx (withX s0 (x : Nat) (y : Nat) v0) = cJ := ⟨_, rfl⟩
        rw [hcI] at HWi HLd l1n
        rw [hcJ] at HWi HSt l2n
        clear hB hok hst hnx hov hx' hy' hv0 hs0 hcI hcJ HS hxy hlv x1 hlo
        go_wp2_with fail
        refine wp_region_made 0 #[true, true, true, true, true, true, true, true, true, true, true, true, true, true, true, true, true, true, true, true, false] [.lets (· = .slice (some ⟨g, 0, none⟩) parts parts),
          .lets (· = .int .i64 (lb + 1)),
          .lets (· = .int .i64 (lb : Nat)),
          .lets (· = .slice (some ⟨g, 0, none⟩) parts parts),
          .lets (· = .int .i64 (lb + 1)),
          .lets (· = .int .i64 (lb : Nat)),
          .lets (· = .pointer (some ⟨g, lb * k, none⟩)),
          .lets (· = .agg cI.toArray),
          .lets (· = .int .i64 (i : Nat)),
          .lets (· = .int .i64 (W : Nat)),
          .lets (· = .int .i64 (x : Nat)),
          .lets (· = .int .i64 (i : Nat)),
          .lets (· = .int .i64 (W : Nat)),
          .lets (· = .int .i64 (y : Nat)),
          .lets (· = .slice (some ⟨b1, o1, none⟩) n cp1),
          .lets (· = .int .i64 (i : Nat)),
          .lets (· = .pointer (some ⟨b1, o1 + i, none⟩)),
          .lets (· = .int .i64 v0),
          .lets (· = .agg cJ.toArray),
          .lets (· = .pointer (some ⟨g, lb * k, none⟩))] [] [] (by kernel_rfl) (by kernel_rfl) rfl ?kinds (by kernel_rfl) (by kernel_rfl) (by kernel_rfl) ?_
        case kinds =>
          constructor
          · intro i h
            rcases i with _ | _ | _ | _ | _ | _ | _ | _ | _ | _ | _ | _ | _ | _ | _ | _ | _ | _ | _ | _ | i <;> simp [Kx.isMade] at h
          · intro i h
            rcases i with _ | _ | _ | _ | _ | _ | _ | _ | _ | _ | _ | _ | _ | _ | _ | _ | _ | _ | _ | _ | i <;> simp [Kx.isUse] at h
        refine lexX_step (fun K hK => ⟨by kernel_rfl, ⟨_, rfl⟩, fun v hv => ?_, fun v hv => ?_⟩)
        · go_simp
          exact mUpon_b
        subst hv
        go_simp
        refine hK _ ?_
        clear hK K
        refine lexX_step (fun K hK => ⟨by kernel_rfl, ⟨_, rfl⟩, fun v hv => ?_, fun v hv => ?_⟩)
        · go_simp
          exact mUpon_b
        subst hv
        go_simp
        refine hK _ ?_
        clear hK K
        refine lexX_step (fun K hK => ⟨by kernel_rfl, ⟨_, rfl⟩, fun v hv => ?_, fun v hv => ?_⟩)
        · go_simp
          exact mUpon_b
        subst hv
        go_simp
        refine hK _ ?_
        clear hK K
        refine lexX_step (fun K hK => ⟨by kernel_rfl, ⟨_, rfl⟩, fun v hv => ?_, fun v hv => ?_⟩)
        · go_simp
          exact mUpon_b
        subst hv
        go_simp
        refine hK _ ?_
        clear hK K
        refine lexX_step (fun K hK => ⟨by kernel_rfl, ⟨_, rfl⟩, fun v hv => ?_, fun v hv => ?_⟩)
        · go_simp
          exact mUpon_b
        subst hv
        go_simp
        refine hK _ ?_
        clear hK K
        refine lexX_step (fun K hK => ⟨by kernel_rfl, ⟨_, rfl⟩, fun v hv => ?_, fun v hv => ?_⟩)
        · go_simp
          exact mUpon_b
        subst hv
        go_simp
        refine hK _ ?_
        clear hK K
        refine lexX_step (fun K hK => ⟨by kernel_rfl, ⟨_, rfl⟩, fun v hv => ?_, fun v hv => ?_⟩)
        · go_simp
          exact mUpon_b
        subst hv
        go_simp
        refine hK _ ?_
        clear hK K
        refine lexX_step (fun K hK => ⟨by kernel_rfl, ⟨_, rfl⟩, fun v hv => ?_, fun v hv => ?_⟩)
        · have l1 := unhideR HLd _ hv
          go_simp
          exact mUpon_b
        subst hv
        go_simp
        refine hK _ ?_
        clear hK K
        refine lexX_step (fun K hK => ⟨by kernel_rfl, ⟨_, rfl⟩, fun v hv => ?_, fun v hv => ?_⟩)
        · go_simp
          exact mUpon_b
        subst hv
        go_simp
        refine hK _ ?_
        clear hK K
        refine lexX_step (fun K hK => ⟨by kernel_rfl, ⟨_, rfl⟩, fun v hv => ?_, fun v hv => ?_⟩)
        · go_simp
          exact mUpon_b
        subst hv
        go_simp
        refine hK _ ?_
        clear hK K
        refine lexX_step (fun K hK => ⟨by kernel_rfl, ⟨_, rfl⟩, fun v hv => ?_, fun v hv => ?_⟩)
        · go_simp
          exact mUpon_b
        subst hv
        go_simp
        refine hK _ ?_
        clear hK K
        refine lexX_step (fun K hK => ⟨by kernel_rfl, ⟨_, rfl⟩, fun v hv => ?_, fun v hv => ?_⟩)
        · go_simp
          exact mUpon_b
        subst hv
        go_simp
        refine hK _ ?_
        clear hK K
        refine lexX_step (fun K hK => ⟨by kernel_rfl, ⟨_, rfl⟩, fun v hv => ?_, fun v hv => ?_⟩)
        · go_simp
          exact mUpon_b
        subst hv
        go_simp
        refine hK _ ?_
        clear hK K
        refine lexX_step (fun K hK => ⟨by kernel_rfl, ⟨_, rfl⟩, fun v hv => ?_, fun v hv => ?_⟩)
        · go_simp
          exact mUpon_b
        subst hv
        go_simp
        refine hK _ ?_
        clear hK K
        refine lexX_step (fun K hK => ⟨by kernel_rfl, ⟨_, rfl⟩, fun v hv => ?_, fun v hv => ?_⟩)
        · go_simp
          exact mUpon_b
        subst hv
        go_simp
        refine hK _ ?_
        clear hK K
        refine lexX_step (fun K hK => ⟨by kernel_rfl, ⟨_, rfl⟩, fun v hv => ?_, fun v hv => ?_⟩)
        · go_simp
          exact mUpon_b
        subst hv
        go_simp
        refine hK _ ?_
        clear hK K
        refine lexX_step (fun K hK => ⟨by kernel_rfl, ⟨_, rfl⟩, fun v hv => ?_, fun v hv => ?_⟩)
        · go_simp
          exact mUpon_b
        subst hv
        go_simp
        refine hK _ ?_
        clear hK K
        refine lexX_step (fun K hK => ⟨by kernel_rfl, ⟨_, rfl⟩, fun v hv => ?_, fun v hv => ?_⟩)
        · have cc := unhideR HC1 _ hv
          go_simp
          exact mUpon_b
        subst hv
        go_simp
        refine hK _ ?_
        clear hK K
        refine lexX_step (fun K hK => ⟨by kernel_rfl, ⟨_, rfl⟩, fun v hv => ?_, fun v hv => ?_⟩)
        · go_simp
          refine (unhideR HWi _).mono ?_
          rintro e w9 ⟨rfl, k⟩
          exact ⟨_, rfl, rfl, k⟩
        subst hv
        go_simp
        refine hK _ ?_
        clear hK K
        refine lexX_step (fun K hK => ⟨by kernel_rfl, ⟨_, rfl⟩, fun v hv => ?_, fun v hv => ?_⟩)
        · go_simp
          exact mUpon_b
        subst hv
        go_simp
        refine hK _ ?_
        clear hK K
        refine lexX_end (fun v5 hv => ?_)
        have K5 := hv.low
        clear hv
        obtain ⟨st, HG5⟩ := unhideR HSt v5 K5
        refine wpAny_step (i := 20) (by kernel_rfl) rfl (by kernel_rfl) (fun K hK => ?_)
        unfold Oper.wp
        go_simp
        refine hK _ _ ?_
        clear hK K
        refine wpAny_end (by kernel_rfl) ?_
        clear st
        generalize v5.setCells g (lb * k) cJ = w6 at *
        go_wp2
        exact ⟨⟨i + 1, by omega, by go_num, HG5⟩, by simp [intOf]; omega⟩
      · have tp : decide (0 < lv) = false := decide_eq_false hpos
        have HS2 : HeldR (GRow k w g parts (fun j => rawS (spN lab ov W H (j + 1) (i + 1))) wr) := hideR ((unhideR HS).congr (fun j _ => by rw [spN_next, hlv, if_neg (by omega)]))
        clear HS hlv hlo
        go_wp2
        exact ⟨⟨i + 1, by omega, by go_num, HS2⟩, by simp [intOf]; omega⟩
    · obtain rfl : n = i := by omega
      have tin : decide (n < n) = false := decide_eq_false hi
      have hk9 := unhideR HK9
      subst hk9
      have HR2 : HeldR (∀ j, j < parts → 1 ≤ (spK lab ov W H (j + 1)).px ∧ SpB (spK lab ov W H (j + 1)) n) := hideR (fun j hj => by
        have q := (unhideR HIn).bound (k := j + 1) (by omega) (Nat.le_refl lab.length)
        refine ⟨(unhideR HIn).all (j + 1) (by omega) (by omega), ?_⟩
        rw [← unhideR HN]
        exact q)
      have HS1 : HeldR (GRow 9 w g parts (fun j => if j < 0 then starOf (spK lab ov W H (j + 1)) else rawS (spK lab ov W H (j + 1))) wr) := hideR ((unhideR HS).congr (fun j _ => by
        rw [if_neg (Nat.not_lt_zero j)]
        unfold spK
        rw [unhideR HN]))
      clear HS zE aE
      go_wp2
      go_loopw [48] (fun iv wl => ∃ i : Nat, i ≤ parts ∧ iv = .int .i64 (i : Nat) ∧ HeldR (GRow 9 w g parts (fun j => if j < i then starOf (spK lab ov W H (j + 1)) else rawS (spK lab ov W H (j + 1))) wl)) (fun iv _ => 100000 - (intOf iv).toNat)
      case atStart => exact ⟨0, by omega, rfl, HS1⟩
      case round =>
        clear HS1
        obtain ⟨i, hip, rfl, HS⟩ := hrel
        by_cases hi2 : i < parts
        · have ti : decide (i < parts) = true := decide_eq_true hi2
          have ji : (i : Int) < (parts : Int) := by omega
          have wi : IntKind.i64.wrap ((i : Int) + 1) = (i : Int) + 1 := iwrap (by omega) (by omega)
          obtain ⟨hp1, hB⟩ := unhideR HR2 i hi2
          obtain ⟨hc, hf⟩ := (unhideR HS).cell hi2
          have hraw : (if i < i then starOf (spK lab ov W H (i + 1)) else rawS (spK lab ov W H (i + 1))) = ⟨(spK lab ov W H (i + 1)).le, (spK lab ov W H (i + 1)).tp, (spK lab ov W H (i + 1)).ri, (spK lab ov W H (i + 1)).lo, (spK lab ov W H (i + 1)).px, (spK lab ov W H (i + 1)).li, (spK lab ov W H (i + 1)).sx, (spK lab ov W H (i + 1)).sy, 0⟩ := by
            rw [if_neg (Nat.lt_irrefl i)]
            unfold rawS
            rw [if_neg (by omega)]
          simp only [hraw] at hc
          obtain ⟨c0, c1, c2, c3, c4, c5, c6, c7, c8⟩ := hc
          simp only at c0 c1 c2 c3 c4 c5 c6 c7 c8
          have HNx : HeldR (∀ u, Below wr.heap.size wr u → (∀ j, j < 9 → u.frozen? ⟨g, i * 9 + j, none⟩ = false) ∧ u.cell? ⟨g, i * 9 + 6, none⟩ = some (.int .i64 (spK lab ov W H (i + 1)).sx) ∧ u.cell? ⟨g, i * 9 + 7, none⟩ = some (.int .i64 (spK lab ov W H (i + 1)).sy) ∧ u.cell? ⟨g, i * 9 + 8, none⟩ = some (.int .i64 0) ∧ HeldR (GRow 9 w g parts (fun j => if j < i + 1 then starOf (spK lab ov W H (j + 1)) else rawS (spK lab ov W H (j + 1))) (set3w u g (i * 9 + 6) (.int .i64 ((spK lab ov W H (i + 1)).sx.tdiv (spK lab ov W H (i + 1)).li)) (.int .i64 ((spK lab ov W H (i + 1)).sy.tdiv (spK lab ov W H (i + 1)).li)) (.int .i64 (spK lab ov W H (i + 1)).li)))) := hideR (fun u b => by
            have hG := (unhideR HS).below b
            obtain ⟨hc2, hf2⟩ := hG.cell hi2
            simp only [hraw] at hc2
            refine ⟨hf2, hc2.c6, hc2.c7, hc2.c8, hideR ((hG.star hi2 ((spK lab ov W H (i + 1)).sx.tdiv (spK lab ov W H (i + 1)).li) ((spK lab ov W H (i + 1)).sy.tdiv (spK lab ov W H (i + 1)).li) (spK lab ov W H (i + 1)).li).congr (fun j _ => ?_))⟩
            unfold updS
            by_cases e : j = i
            · subst e
              rw [if_pos rfl, if_pos (Nat.lt_succ_self j)]
              simp only [hraw]
              rfl
            · rw [if_neg e]
              by_cases e2 : j < i
              · simp [e2, show j < i + 1 by omega]
              · simp [e2, show ¬ j < i + 1 by omega])
          obtain ⟨b1', b2', b3', b4', b5', b6', b7', b8'⟩ := hB
          have q0 : 0 ≤ (spK lab ov W H (i + 1)).sx / (spK lab ov W H (i + 1)).li := Int.ediv_nonneg b5' (by omega)
          have q1 : (spK lab ov W H (i + 1)).sx / (spK lab ov W H (i + 1)).li ≤ (spK lab ov W H (i + 1)).sx := Int.ediv_le_self _ b5'
          have q2 : 0 ≤ (spK lab ov W H (i + 1)).sy / (spK lab ov W H (i + 1)).li := Int.ediv_nonneg b7' (by omega)
          have q3 : (spK lab ov W H (i + 1)).sy / (spK lab ov W H (i + 1)).li ≤ (spK lab ov W H (i + 1)).sy := Int.ediv_le_self _ b7'
          have d1 : (spK lab ov W H (i + 1)).sx.tdiv (spK lab ov W H (i + 1)).li = (spK lab ov W H (i + 1)).sx / (spK lab ov W H (i + 1)).li := Int.tdiv_eq_ediv_of_nonneg b5'
          have d2 : (spK lab ov W H (i + 1)).sy.tdiv (spK lab ov W H (i + 1)).li = (spK lab ov W H (i + 1)).sy / (spK lab ov W H (i + 1)).li := Int.tdiv_eq_ediv_of_nonneg b7'
          generalize (spK lab ov W H (i + 1)).le = le at *
          generalize (spK lab ov W H (i + 1)).tp = tp at *
          generalize (spK lab ov W H (i + 1)).ri = ri at *
          generalize (spK lab ov W H (i + 1)).lo = lo at *
          generalize (spK lab ov W H (i + 1)).px = px at *
          generalize (spK lab ov W H (i + 1)).li = li at *
          generalize (spK lab ov W H (i + 1)).sx = sx at *
          generalize (spK lab ov W H (i + 1)).sy = sy at *
          have hli0 : li ≠ 0 := by omega
          rw [d1, d2] at HNx
          obtain ⟨qx, hqx⟩ : ∃ qx, sx / li = qx := ⟨_, rfl⟩
          obtain ⟨qy, hqy⟩ : ∃ qy, sy / li = qy := ⟨_, rfl⟩
          rw [hqx] at HNx d1 q0 q1
          rw [hqy] at HNx d2 q2 q3
          have wq1 : IntKind.i64.wrap qx = qx := iwrap (by omega) (by omega)
          have wq2 : IntKind.i64.wrap qy = qy := iwrap (by omega) (by omega)
          clear hraw hf HS b1' b2' b3' b4' b5' b6' b7' b8' hp1
          go_upto_region 11 with fail
          have HGc := hideR (alloc_last wr (.cells #[.int .i64 le, .int .i64 tp, .int .i64 ri, .int .i64 lo, .int .i64 px, .int .i64 li, .int .i64 sx, .int .i64 sy, .int .i64 0] 36))
          have HBc := hideR (below_a wr (.cells #[.int .i64 le, .int .i64 tp, .int .i64 ri, .int .i64 lo, .int .i64 px, .int .i64 li, .int .i64 sx, .int .i64 sy, .int .i64 0] 36))
          generalize wr.alloc (.cells #[.int .i64 le, .int .i64 tp, .int .i64 ri, .int .i64 lo, .int .i64 px, .int .i64 li, .int .i64 sx, .int .i64 sy, .int .i64 0] 36) = W2 at *
          refine wp_region_made 0 #[true, true, true, true, true, true, true, true, true, true, true, true, true, true, true, true, true, true, true, false] [.lets (· = .slice (some ⟨g, 0, none⟩) parts parts),
            .lets (· = .int .i64 (i : Nat)),
            .lets (· = .pointer (some ⟨wr.heap.size, 6, none⟩)),
            .lets (· = .pointer (some ⟨wr.heap.size, 6, none⟩)),
            .lets (· = .int .i64 sx),
            .lets (· = .pointer (some ⟨wr.heap.size, 5, none⟩)),
            .lets (· = .int .i64 li),
            .lets (· = .int .i64 qx),
            .lets (· = .pointer (some ⟨wr.heap.size, 6, none⟩)),
            .lets (· = .pointer (some ⟨wr.heap.size, 7, none⟩)),
            .lets (· = .int .i64 sy),
            .lets (· = .pointer (some ⟨wr.heap.size, 5, none⟩)),
            .lets (· = .int .i64 li),
            .lets (· = .int .i64 qy),
            .lets (· = .pointer (some ⟨wr.heap.size, 5, none⟩)),
            .lets (· = .int .i64 li),
            .lets (· = .agg #[.int .i64 qx, .int .i64 qy, .int .i64 li]),
            .lets (· = .pointer (some ⟨g, i * 9, none⟩)),
            .lets (· = .pointer (some ⟨g, i * 9 + 6, none⟩))] [] [] (by kernel_rfl) (by kernel_rfl) rfl ?kinds (by kernel_rfl) (by kernel_rfl) (by kernel_rfl) ?_
          case kinds =>
            constructor
            · intro i h
              rcases i with _ | _ | _ | _ | _ | _ | _ | _ | _ | _ | _ | _ | _ | _ | _ | _ | _ | _ | _ | i <;> simp [Kx.isMade] at h
            · intro i h
              rcases i with _ | _ | _ | _ | _ | _ | _ | _ | _ | _ | _ | _ | _ | _ | _ | _ | _ | _ | _ | i <;> simp [Kx.isUse] at h
          refine lexX_step (fun K hK => ⟨by kernel_rfl, ⟨_, rfl⟩, fun v hv => ?_, fun v hv => ?_⟩)
          · go_simp
            exact mUpon_b
          subst hv
          go_simp
          refine hK _ ?_
          clear hK K
          refine lexX_step (fun K hK => ⟨by kernel_rfl, ⟨_, rfl⟩, fun v hv => ?_, fun v hv => ?_⟩)
          · go_simp
            exact mUpon_b
          subst hv
          go_simp
          refine hK _ ?_
          clear hK K
          refine lexX_step (fun K hK => ⟨by kernel_rfl, ⟨_, rfl⟩, fun v hv => ?_, fun v hv => ?_⟩)
          · go_simp
            exact mUpon_b
          subst hv
          go_simp
          refine hK _ ?_
          clear hK K
          refine lexX_step (fun K hK => ⟨by kernel_rfl, ⟨_, rfl⟩, fun v hv => ?_, fun v hv => ?_⟩)
          · go_simp
            exact mUpon_b
          subst hv
          go_simp
          refine hK _ ?_
          clear hK K
          refine lexX_step (fun K hK => ⟨by kernel_rfl, ⟨_, rfl⟩, fun v hv => ?_, fun v hv => ?_⟩)
          · have cc := (cells_at (keepB (unhideR HGc) hv) 6 (by simp)).1
            simp at cc
            go_simp
            exact mUpon_b
          subst hv
          go_simp
          refine hK _ ?_
          clear hK K
          refine lexX_step (fun K hK => ⟨by kernel_rfl, ⟨_, rfl⟩, fun v hv => ?_, fun v hv => ?_⟩)
          · go_simp
            exact mUpon_b
          subst hv
          go_simp
          refine hK _ ?_
          clear hK K
          refine lexX_step (fun K hK => ⟨by kernel_rfl, ⟨_, rfl⟩, fun v hv => ?_, fun v hv => ?_⟩)
          · have cc := (cells_at (keepB (unhideR HGc) hv) 5 (by simp)).1
            simp at cc
            go_simp
            exact mUpon_b
          subst hv
          go_simp
          refine hK _ ?_
          clear hK K
          refine lexX_step (fun K hK => ⟨by kernel_rfl, ⟨_, rfl⟩, fun v hv => ?_, fun v hv => ?_⟩)
          · go_simp
            exact mUpon_b
          subst hv
          go_simp
          refine hK _ ?_
          clear hK K
          refine lexX_step (fun K hK => ⟨by kernel_rfl, ⟨_, rfl⟩, fun v hv => ?_, fun v hv => ?_⟩)
          · go_simp
            exact mUpon_b
          subst hv
          go_simp
          refine hK _ ?_
          clear hK K
          refine lexX_step (fun K hK => ⟨by kernel_rfl, ⟨_, rfl⟩, fun v hv => ?_, fun v hv => ?_⟩)
          · go_simp
            exact mUpon_b
          subst hv
          go_simp
          refine hK _ ?_
          clear hK K
          refine lexX_step (fun K hK => ⟨by kernel_rfl, ⟨_, rfl⟩, fun v hv => ?_, fun v hv => ?_⟩)
          · have cc := (cells_at (keepB (unhideR HGc) hv) 7 (by simp)).1
            simp at cc
            go_simp
            exact mUpon_b
          subst hv
          go_simp
          refine hK _ ?_
          clear hK K
          refine lexX_step (fun K hK => ⟨by kernel_rfl, ⟨_, rfl⟩, fun v hv => ?_, fun v hv => ?_⟩)
          · go_simp
            exact mUpon_b
          subst hv
          go_simp
          refine hK _ ?_
          clear hK K
          refine lexX_step (fun K hK => ⟨by kernel_rfl, ⟨_, rfl⟩, fun v hv => ?_, fun v hv => ?_⟩)
          · have cc := (cells_at (keepB (unhideR HGc) hv) 5 (by simp)).1
            simp at cc
            go_simp
            exact mUpon_b
          subst hv
          go_simp
          refine hK _ ?_
          clear hK K
          refine lexX_step (fun K hK => ⟨by kernel_rfl, ⟨_, rfl⟩, fun v hv => ?_, fun v hv => ?_⟩)
          · go_simp
            exact mUpon_b
          subst hv
          go_simp
          refine hK _ ?_
          clear hK K
          refine lexX_step (fun K hK => ⟨by kernel_rfl, ⟨_, rfl⟩, fun v hv => ?_, fun v hv => ?_⟩)
          · go_simp
            exact mUpon_b
          subst hv
          go_simp
          refine hK _ ?_
          clear hK K
          refine lexX_step (fun K hK => ⟨by kernel_rfl, ⟨_, rfl⟩, fun v hv => ?_, fun v hv => ?_⟩)
          · have cc := (cells_at (keepB (unhideR HGc) hv) 5 (by simp)).1
            simp at cc
            go_simp
            exact mUpon_b
          subst hv
          go_simp
          refine hK _ ?_
          clear hK K
          refine lexX_step (fun K hK => ⟨by kernel_rfl, ⟨_, rfl⟩, fun v hv => ?_, fun v hv => ?_⟩)
          · go_simp
            exact mUpon_b
          subst hv
          go_simp
          refine hK _ ?_
          clear hK K
          refine lexX_step (fun K hK => ⟨by kernel_rfl, ⟨_, rfl⟩, fun v hv => ?_, fun v hv => ?_⟩)
          · go_simp
            exact mUpon_b
          subst hv
          go_simp
          refine hK _ ?_
          clear hK K
          refine lexX_step (fun K hK => ⟨by kernel_rfl, ⟨_, rfl⟩, fun v hv => ?_, fun v hv => ?_⟩)
          · go_simp
            exact mUpon_b
          subst hv
          go_simp
          refine hK _ ?_
          clear hK K
          refine lexX_end (fun v6 hv => ?_)
          have K6 := hv.low
          clear hv
          obtain ⟨hf6, y6, y7, y8, HG6⟩ := unhideR HNx v6 (below_go (unhideR HBc) K6)
          have f6 := hf6 6 (by omega)
          have f7 := hf6 7 (by omega)
          have f8 := hf6 8 (by omega)
          clear hf6
          refine wpAny_step (i := 19) (by kernel_rfl) rfl (by kernel_rfl) (fun K hK => ?_)
          unfold Oper.wp
          go_simp
          refine hK _ _ ?_
          clear hK K
          refine wpAny_end (by kernel_rfl) ?_
          have HG7 : HeldR (GRow 9 w g parts (fun j => if j < i + 1 then starOf (spK lab ov W H (j + 1)) else rawS (spK lab ov W H (j + 1))) (((v6.setCell ⟨g, i * 9 + 6, none⟩ (.int .i64 qx)).setCell ⟨g, i * 9 + 7, none⟩ (.int .i64 qy)).setCell ⟨g, i * 9 + 8, none⟩ (.int .i64 li))) := HG6
          clear HG6 y6 y7 y8 f6 f7 f8
          generalize ((v6.setCell ⟨g, i * 9 + 6, none⟩ (.int .i64 qx)).setCell ⟨g, i * 9 + 7, none⟩ (.int .i64 qy)).setCell ⟨g, i * 9 + 8, none⟩ (.int .i64 li) = w7 at *
          go_wp2
          exact ⟨⟨i + 1, by omega, by go_num, HG7⟩, by simp [intOf]; omega⟩
        · obtain rfl : parts = i := by omega
          have ti : decide (parts < parts) = false := decide_eq_false hi2
          have HF : HeldR (GaPost W H parts lab ov w (.returned (.slice (some ⟨g, 0, none⟩) parts parts)) wr) := hideR ⟨by rw [unhideR HGe], by
            rw [unhideR HGe]
            exact (unhideR HS).congr (fun j hj => by rw [if_pos hj])⟩
          clear HS
          go_wp2
          go_ret
          exact unhideR HF
end Go.Proofs.YtmgnobeaacjdjajGreatDoor
