/-
  The program's rises and sets along a track, by contract.
-/
import Derived.Test.YtlhjmmcimhceeahDoorDE2
namespace Go.Proofs.YtlhjmmcimhceeahDoor
open Go Go.RowKit

theorem ev_set0 {w : World} {b : Nat} {y0 y1 y2 : Value} {t : TypeId} (h : w.heap[b]? = some (.cells #[y0, y1, y2] t (0, 0))) (x : Value) : (w.setCell ⟨b, 0, none⟩ x).heap[b]? = some (.cells #[x, y1, y2] t (0, 0)) := by
  rw [heap_setCell_same _ _ _ _ _ _ h]
  simp
theorem ev_set1 {w : World} {b : Nat} {y0 y1 y2 : Value} {t : TypeId} (h : w.heap[b]? = some (.cells #[y0, y1, y2] t (0, 0))) (x : Value) : (w.setCell ⟨b, 1, none⟩ x).heap[b]? = some (.cells #[y0, x, y2] t (0, 0)) := by
  rw [heap_setCell_same _ _ _ _ _ _ h]
  simp
set_option maxRecDepth 100000 in
set_option maxHeartbeats 800000 in
theorem above_any {w : World} {bt bl b1 o1 cap : Nat} {t : Tr} {lev : Int} (ht : w.heap[bt]? = some (.cells #[.int .i64 t.fr, .int .i64 t.st, .slice (some ⟨b1, o1, none⟩) t.L.length cap] 32)) (hl : w.heap[bl]? = some (.cells #[.int .i64 lev] 3)) (hi : ICame w (some ⟨b1, o1, none⟩) t.L) {i : Nat} (h : i < t.L.length) :
    Calls Tryd.prog 40 #[.int .i64 (i : Nat), .pointer (some ⟨bt, 0, none⟩), .pointer (some ⟨bl, 0, none⟩)] w fun e w' => e = .returned (.bool (decide (lev < t.h i))) ∧ Below w.heap.size w w' := by
  obtain ⟨⟨c0, c1, c2⟩, _⟩ := three_cells ht
  have cl := one_at hl
  have hc : w.cell? ⟨b1, o1 + i, none⟩ = some (.int .i64 (t.h i)) := heights_at hi (Below.refl _ _) h
  generalize t.h i = p at *
  clear ht hl hi
  go_enter Tryd.func40, Tryd.ntmps40
  go_wp2_with fail
  go_quiet (fail)
  go_wp2
  go_ret
  exact ⟨rfl, drawn_below _ _⟩
set_option maxRecDepth 100000 in
set_option maxHeartbeats 1600000 in
theorem rise_any {w : World} {v : Value} {t : Tr} {lev : Int} (h : TrV w v t) (hO : TrOk t) {i : Nat} (hn : i + 1 < t.L.length) (hp : t.h i ≤ lev) (hq : lev < t.h (i + 1)) :
    Calls Tryd.prog 41 #[v, .int .i64 (i : Nat), .int .i64 lev] w fun e w' => e = .returned (.agg #[.int .i64 1, .int .i64 (t.fr + (i : Int) * t.st + downV t.st (lev - t.h i) (t.h (i + 1) - t.h i)), .int .i64 (i : Int)]) ∧ Below w.heap.size w w' := by
  have hin := fun u (hu : Below w.heap.size w u) => instant_any (h.below hu) (i : Int) (hO.inst (show i < t.L.length by omega)).1 (hO.inst (show i < t.L.length by omega)).2.1
  obtain ⟨ad, cap, rfl, hi⟩ := h
  obtain ⟨b1, o1, rfl, _, _⟩ := hi.at_ 0 (by have := hO.n1; omega)
  have n2 := hO.n2
  have s1 := hO.s1
  have s2 := hO.step
  have j1 := (hO.inst (show i < t.L.length by omega)).2.2.1
  have j2 := (hO.inst (show i < t.L.length by omega)).2.2.2
  have q0 := flat_at hO.hs i
  have q1 := flat_at hO.hs (i + 1)
  change -1099511627776 ≤ t.h i ∧ t.h i ≤ 1099511627776 at q0
  change -1099511627776 ≤ t.h (i + 1) ∧ t.h (i + 1) ≤ 1099511627776 at q1
  have HC : HeldR (∀ u, Below w.heap.size w u → u.cell? ⟨b1, o1 + i, none⟩ = some (.int .i64 (t.h i))) := fun u k => heights_at hi k (by omega)
  have HC1 : HeldR (∀ u, Below w.heap.size w u → u.cell? ⟨b1, o1 + (i + 1), none⟩ = some (.int .i64 (t.h (i + 1)))) := fun u k => heights_at hi k hn
  have HIn := hideR hin
  clear hin hO
  generalize t.h i = p at *
  generalize t.h (i + 1) = q at *
  obtain ⟨d1, d2⟩ := down_in (a := t.st) (b := lev - p) (c := q - p) (by omega) (by omega) (by omega) (by omega)
  have hsh := fun u => share_any (a := t.st) (b := lev - p) (c := q - p) (by omega) (by omega) (by omega) (by omega) (by omega) (by omega) u
  generalize downV t.st (lev - p) (q - p) = dn at *
  generalize upV t.st (lev - p) (q - p) = up at *
  have w1 : IntKind.i64.wrap (lev - p) = lev - p := iwrap (by omega) (by omega)
  have w2 : IntKind.i64.wrap (q - p) = q - p := iwrap (by omega) (by omega)
  have w3 : IntKind.i64.wrap (t.fr + (i : Int) * t.st + dn) = t.fr + (i : Int) * t.st + dn := iwrap (by omega) (by omega)
  have wi : IntKind.i64.wrap ((i : Int) + 1) = (i : Int) + 1 := iwrap (by omega) (by omega)
  have ib0 : i < t.L.length := by omega


  have ib1 : 0 ≤ (i : Int) + 1 := by omega
  have ib2 : (i : Int) + 1 < (t.L.length : Int) := by omega
  go_enter Tryd.func41, Tryd.ntmps41
  go_wp2_with fail
  have HB := hideR (keepA (o' := .cells #[.int .i64 0, .int .i64 0, .int .i64 0] 56) (alloc_last w (.cells #[.int .i64 t.fr, .int .i64 t.st, .slice (some ⟨b1, o1, none⟩) t.L.length cap] 32)))
  have HZ := hideR (alloc_two' w (.cells #[.int .i64 t.fr, .int .i64 t.st, .slice (some ⟨b1, o1, none⟩) t.L.length cap] 32) (.cells #[.int .i64 0, .int .i64 0, .int .i64 0] 56))
  have HW := hideR (below_al2 w (.cells #[.int .i64 t.fr, .int .i64 t.st, .slice (some ⟨b1, o1, none⟩) t.L.length cap] 32) (.cells #[.int .i64 0, .int .i64 0, .int .i64 0] 56))
  generalize (w.alloc (.cells #[.int .i64 t.fr, .int .i64 t.st, .slice (some ⟨b1, o1, none⟩) t.L.length cap] 32)).alloc (.cells #[.int .i64 0, .int .i64 0, .int .i64 0] 56) = W1 at *
  clear hi
  refine wp_region_made 3 #[true, true, true, true, true, true, true, true, true, true, true, true, true, true, true, true, true, true, true, true, true, true, true, false, false, false, false] [.lets (· = .pointer (some ⟨w.heap.size, 1, none⟩)),
    .lets (· = .int .i64 t.st),
    .lets (· = .int .i64 lev),
    .lets (· = .pointer (some ⟨w.heap.size, 2, none⟩)),
    .lets (· = .slice (some ⟨b1, o1, none⟩) t.L.length cap),
    .lets (· = .int .i64 (i : Nat)),
    .lets (· = .pointer (some ⟨b1, o1 + i, none⟩)),
    .lets (· = .int .i64 p),
    .lets (· = .int .i64 (lev - p)),
    .lets (· = .pointer (some ⟨w.heap.size, 2, none⟩)),
    .lets (· = .slice (some ⟨b1, o1, none⟩) t.L.length cap),
    .lets (· = .int .i64 (i : Nat)),
    .lets (· = .int .i64 ((i : Int) + 1)),
    .lets (· = .pointer (some ⟨b1, o1 + (i + 1), none⟩)),
    .lets (· = .int .i64 q),
    .lets (· = .pointer (some ⟨w.heap.size, 2, none⟩)),
    .lets (· = .slice (some ⟨b1, o1, none⟩) t.L.length cap),
    .lets (· = .int .i64 (i : Nat)),
    .lets (· = .pointer (some ⟨b1, o1 + i, none⟩)),
    .lets (· = .int .i64 p),
    .lets (· = .int .i64 (q - p)),
    .lets (· = .tuple #[.int .i64 dn, .int .i64 up]),
    .lets (· = .tuple #[.int .i64 dn, .int .i64 up])] [] [] (by kernel_rfl) (by kernel_rfl) rfl ?kinds (by kernel_rfl) (by kernel_rfl) (by kernel_rfl) ?_
  case kinds =>
    constructor
    · intro i h
      rcases i with _ | _ | _ | _ | _ | _ | _ | _ | _ | _ | _ | _ | _ | _ | _ | _ | _ | _ | _ | _ | _ | _ | _ | i <;> simp [Kx.isMade] at h
    · intro i h
      rcases i with _ | _ | _ | _ | _ | _ | _ | _ | _ | _ | _ | _ | _ | _ | _ | _ | _ | _ | _ | _ | _ | _ | _ | i <;> simp [Kx.isUse] at h
  refine lexX_step (fun K hK => ⟨by kernel_rfl, ⟨_, rfl⟩, fun v hv => ?_, fun v hv => ?_⟩)
  · go_simp
    exact mUpon_b
  subst hv
  go_simp
  refine hK _ ?_
  clear hK K
  refine lexX_step (fun K hK => ⟨by kernel_rfl, ⟨_, rfl⟩, fun v hv => ?_, fun v hv => ?_⟩)
  · obtain ⟨⟨c0, c1, c2⟩, _⟩ := three_cells (keepB (unhideR HB) hv)
    go_simp
    exact mUpon_b
  subst hv
  go_simp
  refine hK _ ?_
  clear hK K
  refine lexX_step (fun K hK => ⟨by kernel_rfl, ⟨_, rfl⟩, fun v hv => ?_, fun v hv => ?_⟩)
  · go_simp
    exact mUpon_b
  subst hv
  go_simp
  refine hK _ ?_
  clear hK K
  refine lexX_step (fun K hK => ⟨by kernel_rfl, ⟨_, rfl⟩, fun v hv => ?_, fun v hv => ?_⟩)
  · go_simp
    exact mUpon_b
  subst hv
  go_simp
  refine hK _ ?_
  clear hK K
  refine lexX_step (fun K hK => ⟨by kernel_rfl, ⟨_, rfl⟩, fun v hv => ?_, fun v hv => ?_⟩)
  · obtain ⟨⟨c0, c1, c2⟩, _⟩ := three_cells (keepB (unhideR HB) hv)
    go_simp
    exact mUpon_b
  subst hv
  go_simp
  refine hK _ ?_
  clear hK K
  refine lexX_step (fun K hK => ⟨by kernel_rfl, ⟨_, rfl⟩, fun v hv => ?_, fun v hv => ?_⟩)
  · go_simp
    exact mUpon_b
  subst hv
  go_simp
  refine hK _ ?_
  clear hK K
  refine lexX_step (fun K hK => ⟨by kernel_rfl, ⟨_, rfl⟩, fun v hv => ?_, fun v hv => ?_⟩)
  · go_simp
    exact mUpon_b
  subst hv
  go_simp
  refine hK _ ?_
  clear hK K
  refine lexX_step (fun K hK => ⟨by kernel_rfl, ⟨_, rfl⟩, fun v hv => ?_, fun v hv => ?_⟩)
  · have hc := unhideR HC _ (below_go (unhideR HW) hv)
    go_simp
    exact mUpon_b
  subst hv
  go_simp
  refine hK _ ?_
  clear hK K
  refine lexX_step (fun K hK => ⟨by kernel_rfl, ⟨_, rfl⟩, fun v hv => ?_, fun v hv => ?_⟩)
  · go_simp
    exact mUpon_b
  subst hv
  go_simp
  refine hK _ ?_
  clear hK K
  refine lexX_step (fun K hK => ⟨by kernel_rfl, ⟨_, rfl⟩, fun v hv => ?_, fun v hv => ?_⟩)
  · go_simp
    exact mUpon_b
  subst hv
  go_simp
  refine hK _ ?_
  clear hK K
  refine lexX_step (fun K hK => ⟨by kernel_rfl, ⟨_, rfl⟩, fun v hv => ?_, fun v hv => ?_⟩)
  · obtain ⟨⟨c0, c1, c2⟩, _⟩ := three_cells (keepB (unhideR HB) hv)
    go_simp
    exact mUpon_b
  subst hv
  go_simp
  refine hK _ ?_
  clear hK K
  refine lexX_step (fun K hK => ⟨by kernel_rfl, ⟨_, rfl⟩, fun v hv => ?_, fun v hv => ?_⟩)
  · go_simp
    exact mUpon_b
  subst hv
  go_simp
  refine hK _ ?_
  clear hK K
  refine lexX_step (fun K hK => ⟨by kernel_rfl, ⟨_, rfl⟩, fun v hv => ?_, fun v hv => ?_⟩)
  · go_simp
    exact mUpon_b
  subst hv
  go_simp
  refine hK _ ?_
  clear hK K
  refine lexX_step (fun K hK => ⟨by kernel_rfl, ⟨_, rfl⟩, fun v hv => ?_, fun v hv => ?_⟩)
  · go_simp
    exact mUpon_b
  subst hv
  go_simp
  refine hK _ ?_
  clear hK K
  refine lexX_step (fun K hK => ⟨by kernel_rfl, ⟨_, rfl⟩, fun v hv => ?_, fun v hv => ?_⟩)
  · have hc1 := unhideR HC1 _ (below_go (unhideR HW) hv)
    go_simp
    exact mUpon_b
  subst hv
  go_simp
  refine hK _ ?_
  clear hK K
  refine lexX_step (fun K hK => ⟨by kernel_rfl, ⟨_, rfl⟩, fun v hv => ?_, fun v hv => ?_⟩)
  · go_simp
    exact mUpon_b
  subst hv
  go_simp
  refine hK _ ?_
  clear hK K
  refine lexX_step (fun K hK => ⟨by kernel_rfl, ⟨_, rfl⟩, fun v hv => ?_, fun v hv => ?_⟩)
  · obtain ⟨⟨c0, c1, c2⟩, _⟩ := three_cells (keepB (unhideR HB) hv)
    go_simp
    exact mUpon_b
  subst hv
  go_simp
  refine hK _ ?_
  clear hK K
  refine lexX_step (fun K hK => ⟨by kernel_rfl, ⟨_, rfl⟩, fun v hv => ?_, fun v hv => ?_⟩)
  · go_simp
    exact mUpon_b
  subst hv
  go_simp
  refine hK _ ?_
  clear hK K
  refine lexX_step (fun K hK => ⟨by kernel_rfl, ⟨_, rfl⟩, fun v hv => ?_, fun v hv => ?_⟩)
  · go_simp
    exact mUpon_b
  subst hv
  go_simp
  refine hK _ ?_
  clear hK K
  refine lexX_step (fun K hK => ⟨by kernel_rfl, ⟨_, rfl⟩, fun v hv => ?_, fun v hv => ?_⟩)
  · have hc := unhideR HC _ (below_go (unhideR HW) hv)
    go_simp
    exact mUpon_b
  subst hv
  go_simp
  refine hK _ ?_
  clear hK K
  refine lexX_step (fun K hK => ⟨by kernel_rfl, ⟨_, rfl⟩, fun v hv => ?_, fun v hv => ?_⟩)
  · go_simp
    exact mUpon_b
  subst hv
  go_simp
  refine hK _ ?_
  clear hK K
  refine lexX_step (fun K hK => ⟨by kernel_rfl, ⟨_, rfl⟩, fun v hv => ?_, fun v hv => ?_⟩)
  · go_simp
    refine (hsh _).mono ?_
    rintro e w9 ⟨rfl, k⟩
    exact ⟨_, rfl, rfl, k⟩
  subst hv
  go_simp
  refine hK _ ?_
  clear hK K
  refine lexX_step (fun K hK => ⟨by kernel_rfl, ⟨_, rfl⟩, fun v hv => ?_, fun v hv => ?_⟩)
  · go_simp
    exact mUpon_b
  subst hv
  go_simp
  refine hK _ ?_
  clear hK K
  refine lexX_end (fun v hv => ?_)
  replace HB := hideR (keepB (unhideR HB) hv.low)
  replace HZ := hideR (keepB (unhideR HZ) hv.low)
  replace HW := hideR (below_go (unhideR HW) hv.low)
  clear hv
  refine wpAny_two (i := 23) (j := 24) (by kernel_rfl) rfl rfl (by kernel_rfl) (by kernel_rfl) (fun K hK => ?oa) (fun K hK => ?ob)
  case' oa =>
    unfold Oper.wp
    go_simp
    refine hK _ _ ?_
    clear hK K
    refine wpAny_two (i := 24) (j := 25) (by kernel_rfl) rfl rfl (by kernel_rfl) (by kernel_rfl) (fun K hK => ?oc) (fun K hK => ?od)
  case' oc =>
    unfold Oper.wp
    go_simp
    refine hK _ _ ?_
    clear hK K
    refine wpAny_step (i := 25) (by kernel_rfl) rfl (by kernel_rfl) (fun K hK => ?_)
    unfold Oper.wp
    go_simp
    refine hK _ _ ?_
    clear hK K
    refine wpAny_step (i := 26) (by kernel_rfl) rfl (by kernel_rfl) (fun K hK => ?_)
    unfold Oper.wp
    go_simp
    refine hK _ _ ?_
    clear hK K
    refine wpAny_end (by kernel_rfl) ?_
  case' od =>
    unfold Oper.wp
    go_simp
    refine hK _ _ ?_
    clear hK K
    refine wpAny_step (i := 24) (by kernel_rfl) rfl (by kernel_rfl) (fun K hK => ?_)
    unfold Oper.wp
    go_simp
    refine hK _ _ ?_
    clear hK K
    refine wpAny_step (i := 26) (by kernel_rfl) rfl (by kernel_rfl) (fun K hK => ?_)
    unfold Oper.wp
    go_simp
    refine hK _ _ ?_
    clear hK K
    refine wpAny_end (by kernel_rfl) ?_
  case' ob =>
    unfold Oper.wp
    go_simp
    refine hK _ _ ?_
    clear hK K
    refine wpAny_step (i := 23) (by kernel_rfl) rfl (by kernel_rfl) (fun K hK => ?_)
    unfold Oper.wp
    go_simp
    refine hK _ _ ?_
    clear hK K
    refine wpAny_step (i := 25) (by kernel_rfl) rfl (by kernel_rfl) (fun K hK => ?_)
    unfold Oper.wp
    go_simp
    refine hK _ _ ?_
    clear hK K
    refine wpAny_step (i := 26) (by kernel_rfl) rfl (by kernel_rfl) (fun K hK => ?_)
    unfold Oper.wp
    go_simp
    refine hK _ _ ?_
    clear hK K
    refine wpAny_end (by kernel_rfl) ?_
  all_goals
    obtain ⟨⟨c0, c1, c2⟩, _⟩ := three_cells (unhideR HB)
    have hin := unhideR HIn _ (unhideR HW)
    go_wp2_with fail
    refine hin.mono ?_
    rintro e w5 ⟨rfl, k5⟩
    replace HB := hideR (keepB (unhideR HB) k5)
    replace HZ := hideR (keepB (unhideR HZ) k5)
    replace HW := hideR (below_go (unhideR HW) k5)
    clear k5 hin c0 c1 c2
    obtain ⟨⟨d0, d1', d2'⟩, f0, f1', f2'⟩ := cell_at (unhideR HZ)
    go_wp2
    simp [bodyPost, results, Tryd.results41, go_sem, d0, d1', d2']
    exact below_three (unhideR HW) (by omega) _ _ _
set_option maxRecDepth 100000 in
set_option maxHeartbeats 1600000 in
theorem set_any {w : World} {v : Value} {t : Tr} {lev : Int} (h : TrV w v t) (hO : TrOk t) {i : Nat} (hn : i + 1 < t.L.length) (hp : lev < t.h i) (hq : t.h (i + 1) ≤ lev) :
    Calls Tryd.prog 42 #[v, .int .i64 (i : Nat), .int .i64 lev] w fun e w' => e = .returned (.agg #[.int .i64 2, .int .i64 (t.fr + (i : Int) * t.st + upV t.st (t.h i - lev) (t.h i - t.h (i + 1))), .int .i64 (if t.h (i + 1) = lev then (i : Int) + 1 else (i : Int))]) ∧ Below w.heap.size w w' := by
  have hin := fun u (hu : Below w.heap.size w u) => instant_any (h.below hu) (i : Int) (hO.inst (show i < t.L.length by omega)).1 (hO.inst (show i < t.L.length by omega)).2.1
  obtain ⟨ad, cap, rfl, hi⟩ := h
  obtain ⟨b1, o1, rfl, _, _⟩ := hi.at_ 0 (by have := hO.n1; omega)
  have n2 := hO.n2
  have s1 := hO.s1
  have s2 := hO.step
  have j1 := (hO.inst (show i < t.L.length by omega)).2.2.1
  have j2 := (hO.inst (show i < t.L.length by omega)).2.2.2
  have q0 := flat_at hO.hs i
  have q1 := flat_at hO.hs (i + 1)
  change -1099511627776 ≤ t.h i ∧ t.h i ≤ 1099511627776 at q0
  change -1099511627776 ≤ t.h (i + 1) ∧ t.h (i + 1) ≤ 1099511627776 at q1
  have HC : HeldR (∀ u, Below w.heap.size w u → u.cell? ⟨b1, o1 + i, none⟩ = some (.int .i64 (t.h i))) := fun u k => heights_at hi k (by omega)
  have HC1 : HeldR (∀ u, Below w.heap.size w u → u.cell? ⟨b1, o1 + (i + 1), none⟩ = some (.int .i64 (t.h (i + 1)))) := fun u k => heights_at hi k hn
  have HIn := hideR hin
  clear hin hO
  generalize t.h i = p at *
  generalize t.h (i + 1) = q at *
  obtain ⟨d1, d2⟩ := up_in (a := t.st) (b := p - lev) (c := p - q) (by omega) (by omega) (by omega) (by omega)
  have hsh := fun u => share_any (a := t.st) (b := p - lev) (c := p - q) (by omega) (by omega) (by omega) (by omega) (by omega) (by omega) u
  generalize downV t.st (p - lev) (p - q) = dn at *
  generalize upV t.st (p - lev) (p - q) = up at *
  have w1 : IntKind.i64.wrap (p - lev) = p - lev := iwrap (by omega) (by omega)
  have w2 : IntKind.i64.wrap (p - q) = p - q := iwrap (by omega) (by omega)
  have w3 : IntKind.i64.wrap (t.fr + (i : Int) * t.st + up) = t.fr + (i : Int) * t.st + up := iwrap (by omega) (by omega)
  have wi : IntKind.i64.wrap ((i : Int) + 1) = (i : Int) + 1 := iwrap (by omega) (by omega)
  have ib0 : i < t.L.length := by omega
  obtain ⟨IX, HIX⟩ : ∃ IX, HeldR ((if q = lev then (i : Int) + 1 else (i : Int)) = IX) := ⟨_, rfl⟩
  rw [unhideR HIX]
  have ib1 : 0 ≤ (i : Int) + 1 := by omega
  have ib2 : (i : Int) + 1 < (t.L.length : Int) := by omega
  go_enter Tryd.func42, Tryd.ntmps42
  go_wp2_with fail
  have HB := hideR (keepA (o' := .cells #[.int .i64 0, .int .i64 0, .int .i64 0] 56) (alloc_last w (.cells #[.int .i64 t.fr, .int .i64 t.st, .slice (some ⟨b1, o1, none⟩) t.L.length cap] 32)))
  have HZ := hideR (alloc_two' w (.cells #[.int .i64 t.fr, .int .i64 t.st, .slice (some ⟨b1, o1, none⟩) t.L.length cap] 32) (.cells #[.int .i64 0, .int .i64 0, .int .i64 0] 56))
  have HW := hideR (below_al2 w (.cells #[.int .i64 t.fr, .int .i64 t.st, .slice (some ⟨b1, o1, none⟩) t.L.length cap] 32) (.cells #[.int .i64 0, .int .i64 0, .int .i64 0] 56))
  generalize (w.alloc (.cells #[.int .i64 t.fr, .int .i64 t.st, .slice (some ⟨b1, o1, none⟩) t.L.length cap] 32)).alloc (.cells #[.int .i64 0, .int .i64 0, .int .i64 0] 56) = W1 at *
  clear hi
  refine wp_region_made 3 #[true, true, true, true, true, true, true, true, true, true, true, true, true, true, true, true, true, true, true, true, true, true, true, false, false, false, false] [.lets (· = .pointer (some ⟨w.heap.size, 1, none⟩)),
    .lets (· = .int .i64 t.st),
    .lets (· = .pointer (some ⟨w.heap.size, 2, none⟩)),
    .lets (· = .slice (some ⟨b1, o1, none⟩) t.L.length cap),
    .lets (· = .int .i64 (i : Nat)),
    .lets (· = .pointer (some ⟨b1, o1 + i, none⟩)),
    .lets (· = .int .i64 p),
    .lets (· = .int .i64 lev),
    .lets (· = .int .i64 (p - lev)),
    .lets (· = .pointer (some ⟨w.heap.size, 2, none⟩)),
    .lets (· = .slice (some ⟨b1, o1, none⟩) t.L.length cap),
    .lets (· = .int .i64 (i : Nat)),
    .lets (· = .pointer (some ⟨b1, o1 + i, none⟩)),
    .lets (· = .int .i64 p),
    .lets (· = .pointer (some ⟨w.heap.size, 2, none⟩)),
    .lets (· = .slice (some ⟨b1, o1, none⟩) t.L.length cap),
    .lets (· = .int .i64 (i : Nat)),
    .lets (· = .int .i64 ((i : Int) + 1)),
    .lets (· = .pointer (some ⟨b1, o1 + (i + 1), none⟩)),
    .lets (· = .int .i64 q),
    .lets (· = .int .i64 (p - q)),
    .lets (· = .tuple #[.int .i64 dn, .int .i64 up]),
    .lets (· = .tuple #[.int .i64 dn, .int .i64 up])] [] [] (by kernel_rfl) (by kernel_rfl) rfl ?kinds (by kernel_rfl) (by kernel_rfl) (by kernel_rfl) ?_
  case kinds =>
    constructor
    · intro i h
      rcases i with _ | _ | _ | _ | _ | _ | _ | _ | _ | _ | _ | _ | _ | _ | _ | _ | _ | _ | _ | _ | _ | _ | _ | i <;> simp [Kx.isMade] at h
    · intro i h
      rcases i with _ | _ | _ | _ | _ | _ | _ | _ | _ | _ | _ | _ | _ | _ | _ | _ | _ | _ | _ | _ | _ | _ | _ | i <;> simp [Kx.isUse] at h
  refine lexX_step (fun K hK => ⟨by kernel_rfl, ⟨_, rfl⟩, fun v hv => ?_, fun v hv => ?_⟩)
  · go_simp
    exact mUpon_b
  subst hv
  go_simp
  refine hK _ ?_
  clear hK K
  refine lexX_step (fun K hK => ⟨by kernel_rfl, ⟨_, rfl⟩, fun v hv => ?_, fun v hv => ?_⟩)
  · obtain ⟨⟨c0, c1, c2⟩, _⟩ := three_cells (keepB (unhideR HB) hv)
    go_simp
    exact mUpon_b
  subst hv
  go_simp
  refine hK _ ?_
  clear hK K
  refine lexX_step (fun K hK => ⟨by kernel_rfl, ⟨_, rfl⟩, fun v hv => ?_, fun v hv => ?_⟩)
  · go_simp
    exact mUpon_b
  subst hv
  go_simp
  refine hK _ ?_
  clear hK K
  refine lexX_step (fun K hK => ⟨by kernel_rfl, ⟨_, rfl⟩, fun v hv => ?_, fun v hv => ?_⟩)
  · obtain ⟨⟨c0, c1, c2⟩, _⟩ := three_cells (keepB (unhideR HB) hv)
    go_simp
    exact mUpon_b
  subst hv
  go_simp
  refine hK _ ?_
  clear hK K
  refine lexX_step (fun K hK => ⟨by kernel_rfl, ⟨_, rfl⟩, fun v hv => ?_, fun v hv => ?_⟩)
  · go_simp
    exact mUpon_b
  subst hv
  go_simp
  refine hK _ ?_
  clear hK K
  refine lexX_step (fun K hK => ⟨by kernel_rfl, ⟨_, rfl⟩, fun v hv => ?_, fun v hv => ?_⟩)
  · go_simp
    exact mUpon_b
  subst hv
  go_simp
  refine hK _ ?_
  clear hK K
  refine lexX_step (fun K hK => ⟨by kernel_rfl, ⟨_, rfl⟩, fun v hv => ?_, fun v hv => ?_⟩)
  · have hc := unhideR HC _ (below_go (unhideR HW) hv)
    go_simp
    exact mUpon_b
  subst hv
  go_simp
  refine hK _ ?_
  clear hK K
  refine lexX_step (fun K hK => ⟨by kernel_rfl, ⟨_, rfl⟩, fun v hv => ?_, fun v hv => ?_⟩)
  · go_simp
    exact mUpon_b
  subst hv
  go_simp
  refine hK _ ?_
  clear hK K
  refine lexX_step (fun K hK => ⟨by kernel_rfl, ⟨_, rfl⟩, fun v hv => ?_, fun v hv => ?_⟩)
  · go_simp
    exact mUpon_b
  subst hv
  go_simp
  refine hK _ ?_
  clear hK K
  refine lexX_step (fun K hK => ⟨by kernel_rfl, ⟨_, rfl⟩, fun v hv => ?_, fun v hv => ?_⟩)
  · go_simp
    exact mUpon_b
  subst hv
  go_simp
  refine hK _ ?_
  clear hK K
  refine lexX_step (fun K hK => ⟨by kernel_rfl, ⟨_, rfl⟩, fun v hv => ?_, fun v hv => ?_⟩)
  · obtain ⟨⟨c0, c1, c2⟩, _⟩ := three_cells (keepB (unhideR HB) hv)
    go_simp
    exact mUpon_b
  subst hv
  go_simp
  refine hK _ ?_
  clear hK K
  refine lexX_step (fun K hK => ⟨by kernel_rfl, ⟨_, rfl⟩, fun v hv => ?_, fun v hv => ?_⟩)
  · go_simp
    exact mUpon_b
  subst hv
  go_simp
  refine hK _ ?_
  clear hK K
  refine lexX_step (fun K hK => ⟨by kernel_rfl, ⟨_, rfl⟩, fun v hv => ?_, fun v hv => ?_⟩)
  · go_simp
    exact mUpon_b
  subst hv
  go_simp
  refine hK _ ?_
  clear hK K
  refine lexX_step (fun K hK => ⟨by kernel_rfl, ⟨_, rfl⟩, fun v hv => ?_, fun v hv => ?_⟩)
  · have hc := unhideR HC _ (below_go (unhideR HW) hv)
    go_simp
    exact mUpon_b
  subst hv
  go_simp
  refine hK _ ?_
  clear hK K
  refine lexX_step (fun K hK => ⟨by kernel_rfl, ⟨_, rfl⟩, fun v hv => ?_, fun v hv => ?_⟩)
  · go_simp
    exact mUpon_b
  subst hv
  go_simp
  refine hK _ ?_
  clear hK K
  refine lexX_step (fun K hK => ⟨by kernel_rfl, ⟨_, rfl⟩, fun v hv => ?_, fun v hv => ?_⟩)
  · obtain ⟨⟨c0, c1, c2⟩, _⟩ := three_cells (keepB (unhideR HB) hv)
    go_simp
    exact mUpon_b
  subst hv
  go_simp
  refine hK _ ?_
  clear hK K
  refine lexX_step (fun K hK => ⟨by kernel_rfl, ⟨_, rfl⟩, fun v hv => ?_, fun v hv => ?_⟩)
  · go_simp
    exact mUpon_b
  subst hv
  go_simp
  refine hK _ ?_
  clear hK K
  refine lexX_step (fun K hK => ⟨by kernel_rfl, ⟨_, rfl⟩, fun v hv => ?_, fun v hv => ?_⟩)
  · go_simp
    exact mUpon_b
  subst hv
  go_simp
  refine hK _ ?_
  clear hK K
  refine lexX_step (fun K hK => ⟨by kernel_rfl, ⟨_, rfl⟩, fun v hv => ?_, fun v hv => ?_⟩)
  · go_simp
    exact mUpon_b
  subst hv
  go_simp
  refine hK _ ?_
  clear hK K
  refine lexX_step (fun K hK => ⟨by kernel_rfl, ⟨_, rfl⟩, fun v hv => ?_, fun v hv => ?_⟩)
  · have hc1 := unhideR HC1 _ (below_go (unhideR HW) hv)
    go_simp
    exact mUpon_b
  subst hv
  go_simp
  refine hK _ ?_
  clear hK K
  refine lexX_step (fun K hK => ⟨by kernel_rfl, ⟨_, rfl⟩, fun v hv => ?_, fun v hv => ?_⟩)
  · go_simp
    exact mUpon_b
  subst hv
  go_simp
  refine hK _ ?_
  clear hK K
  refine lexX_step (fun K hK => ⟨by kernel_rfl, ⟨_, rfl⟩, fun v hv => ?_, fun v hv => ?_⟩)
  · go_simp
    refine (hsh _).mono ?_
    rintro e w9 ⟨rfl, k⟩
    exact ⟨_, rfl, rfl, k⟩
  subst hv
  go_simp
  refine hK _ ?_
  clear hK K
  refine lexX_step (fun K hK => ⟨by kernel_rfl, ⟨_, rfl⟩, fun v hv => ?_, fun v hv => ?_⟩)
  · go_simp
    exact mUpon_b
  subst hv
  go_simp
  refine hK _ ?_
  clear hK K
  refine lexX_end (fun v hv => ?_)
  replace HB := hideR (keepB (unhideR HB) hv.low)
  replace HZ := hideR (keepB (unhideR HZ) hv.low)
  replace HW := hideR (below_go (unhideR HW) hv.low)
  clear hv
  refine wpAny_two (i := 23) (j := 24) (by kernel_rfl) rfl rfl (by kernel_rfl) (by kernel_rfl) (fun K hK => ?oa) (fun K hK => ?ob)
  case' oa =>
    unfold Oper.wp
    go_simp
    refine hK _ _ ?_
    clear hK K
    refine wpAny_two (i := 24) (j := 25) (by kernel_rfl) rfl rfl (by kernel_rfl) (by kernel_rfl) (fun K hK => ?oc) (fun K hK => ?od)
  case' oc =>
    unfold Oper.wp
    go_simp
    refine hK _ _ ?_
    clear hK K
    refine wpAny_step (i := 25) (by kernel_rfl) rfl (by kernel_rfl) (fun K hK => ?_)
    unfold Oper.wp
    go_simp
    refine hK _ _ ?_
    clear hK K
    refine wpAny_step (i := 26) (by kernel_rfl) rfl (by kernel_rfl) (fun K hK => ?_)
    unfold Oper.wp
    go_simp
    refine hK _ _ ?_
    clear hK K
    refine wpAny_end (by kernel_rfl) ?_
  case' od =>
    unfold Oper.wp
    go_simp
    refine hK _ _ ?_
    clear hK K
    refine wpAny_step (i := 24) (by kernel_rfl) rfl (by kernel_rfl) (fun K hK => ?_)
    unfold Oper.wp
    go_simp
    refine hK _ _ ?_
    clear hK K
    refine wpAny_step (i := 26) (by kernel_rfl) rfl (by kernel_rfl) (fun K hK => ?_)
    unfold Oper.wp
    go_simp
    refine hK _ _ ?_
    clear hK K
    refine wpAny_end (by kernel_rfl) ?_
  case' ob =>
    unfold Oper.wp
    go_simp
    refine hK _ _ ?_
    clear hK K
    refine wpAny_step (i := 23) (by kernel_rfl) rfl (by kernel_rfl) (fun K hK => ?_)
    unfold Oper.wp
    go_simp
    refine hK _ _ ?_
    clear hK K
    refine wpAny_step (i := 25) (by kernel_rfl) rfl (by kernel_rfl) (fun K hK => ?_)
    unfold Oper.wp
    go_simp
    refine hK _ _ ?_
    clear hK K
    refine wpAny_step (i := 26) (by kernel_rfl) rfl (by kernel_rfl) (fun K hK => ?_)
    unfold Oper.wp
    go_simp
    refine hK _ _ ?_
    clear hK K
    refine wpAny_end (by kernel_rfl) ?_
  all_goals
    obtain ⟨⟨c0, c1, c2⟩, _⟩ := three_cells (unhideR HB)
    have hin := unhideR HIn _ (unhideR HW)
    go_wp2_with fail
    refine hin.mono ?_
    rintro e w5 ⟨rfl, k5⟩
    replace HB := hideR (keepB (unhideR HB) k5)
    replace HZ := hideR (keepB (unhideR HZ) k5)
    replace HW := hideR (below_go (unhideR HW) k5)
    clear k5 hin c0 c1 c2
    obtain ⟨⟨d0, d1', d2'⟩, f0, f1', f2'⟩ := cell_at (unhideR HZ)
    have c2 := fun o => (three_cells (keepA (o' := o) (unhideR HB))).1.2.2
    have hc1 := fun o => unhideR HC1 _ (below_go (unhideR HW) (below_a _ o))
    have lb2 : w.heap.size + 1 < w5.heap.size := ltB (unhideR HZ)
    have z0 := fun o => (three_cells (keepA (o' := o) (unhideR HZ))).1.1
    have y0 := fun o => (three_cells (keepA (o' := o) (unhideR HZ))).2.1
    have z1 := fun o x => (three_cells (keepA (o' := o) (ev_set0 (unhideR HZ) x))).1.2.1
    have y1 := fun o x => (three_cells (keepA (o' := o) (ev_set0 (unhideR HZ) x))).2.2.1
    have z2 := fun o x y => (three_cells (keepA (o' := o) (ev_set1 (ev_set0 (unhideR HZ) x) y))).1.2.2
    have y2 := fun o x y => (three_cells (keepA (o' := o) (ev_set1 (ev_set0 (unhideR HZ) x) y))).2.2.2
    have r0 := fun o x y z => (three_cells (keepA (o' := o) (set1_2 (ev_set1 (ev_set0 (unhideR HZ) x) y) z))).1.1
    have r1 := fun o x y z => (three_cells (keepA (o' := o) (set1_2 (ev_set1 (ev_set0 (unhideR HZ) x) y) z))).1.2.1
    have r2 := fun o x y z => (three_cells (keepA (o' := o) (set1_2 (ev_set1 (ev_set0 (unhideR HZ) x) y) z))).1.2.2
    by_cases hz : q = lev
    · have e3 := unhideR HIX
      rw [if_pos hz] at e3
      subst e3
      have tz : (q == lev) = true := by simp [hz]
      clear d0 d1' d2' f0 f1' f2'
      go_wp2
      simp [bodyPost, results, Tryd.results42, go_sem, r0, r1, r2]
      exact (below_three (unhideR HW) (by omega) _ _ _).alloc (by simp [World.setCell]; omega) _
    · have e3 := unhideR HIX
      rw [if_neg hz] at e3
      subst e3
      have tz : (q == lev) = false := by simp [hz]
      clear d0 d1' d2' f0 f1' f2'
      go_wp2
      simp [bodyPost, results, Tryd.results42, go_sem, r0, r1, r2]
      exact (below_three (unhideR HW) (by omega) _ _ _).alloc (by simp [World.setCell]; omega) _
end Go.Proofs.YtlhjmmcimhceeahDoor
