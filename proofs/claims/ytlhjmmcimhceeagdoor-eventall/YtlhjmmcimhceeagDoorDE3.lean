/-
  The program's height of a track, and At, by contract.
-/
import Derived.Test.YtlhjmmcimhceeagDoorDE2
namespace Go.Proofs.YtlhjmmcimhceeagDoor
open Go Go.RowKit

/-- the heights of a track that came in. -/
theorem heights_at {w : World} {b o : Nat} {L : List Int} (h : ICame w (some ⟨b, o, none⟩) L) {u : World} (k : Below w.heap.size w u) {i : Nat} (hi : i < L.length) : u.cell? ⟨b, o + i, none⟩ = some (.int .i64 (L.getD i 0)) := by
  obtain ⟨b', o', e, _, hc⟩ := (h.below k).at_ i hi
  cases e
  exact hc
set_option maxRecDepth 100000 in
set_option maxHeartbeats 1600000 in
theorem height_any {w : World} {v : Value} {t : Tr} (h : TrV w v t) (hO : TrOk t) (x : Int) (h1 : t.fr ≤ x) (h2 : x ≤ t.last) :
    Calls Tryd.prog 47 #[v, .int .i64 x] w fun e w' => e = .returned (.int .i64 (heightV t x)) ∧ Below w.heap.size w w' := by
  obtain ⟨ad, cap, rfl, hi⟩ := h
  obtain ⟨b1, o1, rfl, _, _⟩ := hi.at_ 0 (by have := hO.n1; omega)
  obtain ⟨i1, i2, i3, i4⟩ := idx_is hO h1 h2
  have n2 := hO.n2
  have s1 := hO.s1
  have s2 := hO.step
  have f1 := hO.f1
  have f2 := hO.f2
  have l2 := hO.l2
  have l1 := hO.l1
  have hfl := hO.hs
  have em : (x - t.fr) % t.st = rest t x := by
    have := Int.mul_ediv_add_emod (x - t.fr) t.st
    rw [i1] at this
    unfold rest
    rw [Int.mul_comm] at this
    omega
  have w1 : IntKind.i64.wrap (x - t.fr) = x - t.fr := iwrap (by omega) (by omega)
  have w2 : IntKind.i64.wrap ((x - t.fr) / t.st) = ((idx t x : Nat) : Int) := by rw [i1]; exact iwrap (by omega) (by omega)
  have w3 : IntKind.i64.wrap ((x - t.fr) % t.st) = rest t x := by rw [em]; exact iwrap (by omega) (by omega)
  have w2' : IntKind.i64.wrap ((x - t.fr).tdiv t.st) = ((idx t x : Nat) : Int) := by rw [Int.tdiv_eq_ediv_of_nonneg (by omega)]; exact w2
  have w3' : IntKind.i64.wrap ((x - t.fr).tmod t.st) = rest t x := by rw [Int.tmod_eq_emod_of_nonneg (by omega)]; exact w3
  have nz : ¬ t.st = 0 := by omega
  have b5 : (t.st == 0) = false := by simp; omega
  have HN : HeldR (rest t x ≠ 0 → idx t x + 1 < t.L.length) := fun e => height_next hO h1 h2 e
  have HU := hideR (height_up (t := t) (x := x))
  have HDn := hideR (height_down (t := t) (x := x) s1)
  have HZ := hideR (height_zero (t := t) (x := x))
  have HF := hideR (fun i => flat_at hfl i)
  clear i1 hfl hO
  unfold Tr.h at HU HDn HZ
  generalize heightV t x = Z at *
  generalize idx t x = i at *
  generalize rest t x = r at *
  by_cases hr : r = 0
  · have hz := unhideR HZ hr
    subst hr
    have HC := fun u (k : Below w.heap.size w u) => heights_at hi k i2
    replace HC := hideR HC
    clear HU HDn HZ HN HF
    rw [hz]
    clear hz Z
    generalize t.L.getD i 0 = p at *
    go_enter Tryd.func47, Tryd.ntmps47
    go_wp2_with fail
    have HB := hideR (alloc_last w (.cells #[.int .i64 t.fr, .int .i64 t.st, .slice (some ⟨b1, o1, none⟩) t.L.length cap] 56))
    have HW := hideR (below_a w (.cells #[.int .i64 t.fr, .int .i64 t.st, .slice (some ⟨b1, o1, none⟩) t.L.length cap] 56))
    have HI := hideR (hi.below (below_a w (.cells #[.int .i64 t.fr, .int .i64 t.st, .slice (some ⟨b1, o1, none⟩) t.L.length cap] 56)))
    generalize w.alloc (.cells #[.int .i64 t.fr, .int .i64 t.st, .slice (some ⟨b1, o1, none⟩) t.L.length cap] 56) = W1 at *
    clear hi
    have c0 := (three_cells (unhideR HB)).1
    obtain ⟨c0, c1, c2⟩ := c0
    have hc := unhideR HC _ (unhideR HW)
    go_quiet (fail)
    go_wp2
    all_goals
      go_ret
      exact ⟨rfl, below_go (unhideR HW) (drawn_below _ _)⟩
  · have hn := unhideR HN hr
    have hu := unhideR HU hn
    have hd := unhideR HDn hn
    have q0 := unhideR HF i
    have q1 := unhideR HF (i + 1)
    have HC := fun u (k : Below w.heap.size w u) => heights_at hi k i2
    have HC1 := fun u (k : Below w.heap.size w u) => heights_at hi k hn
    replace HC := hideR HC
    replace HC1 := hideR HC1
    have t0 : (r == 0) = false := by simp; omega
    clear HU HDn HZ HN HF
    generalize t.L.getD i 0 = p at *
    generalize t.L.getD (i + 1) 0 = q at *
    have w5 : IntKind.i64.wrap (q - p) = q - p := iwrap (by omega) (by omega)
    have w6 : IntKind.i64.wrap (p - q) = p - q := iwrap (by omega) (by omega)
    have wi : IntKind.i64.wrap ((i : Int) + 1) = (i : Int) + 1 := iwrap (by omega) (by omega)
    have ib1 : 0 ≤ (i : Int) + 1 := by omega
    have ib2 : (i : Int) + 1 < (t.L.length : Int) := by omega
    by_cases hg : 0 ≤ q - p
    · obtain ⟨d1, d2⟩ := down_in (a := q - p) (b := r) (c := t.st) hg i3 (by omega) (by omega)
      have hsh := fun u => share_any (a := q - p) (b := r) (c := t.st) hg (by omega) i3 (by omega) (by omega) (by omega) u
      subst hu
      generalize downV (q - p) r t.st = dn at *
      generalize upV (q - p) r t.st = up at *
      have w7 : IntKind.i64.wrap (p + dn) = p + dn := iwrap (by omega) (by omega)
      have tg : decide (0 ≤ q - p) = true := decide_eq_true hg
      clear hd
      subst em
      go_enter Tryd.func47, Tryd.ntmps47
      go_wp2_with fail
      have HB := hideR (alloc_last w (.cells #[.int .i64 t.fr, .int .i64 t.st, .slice (some ⟨b1, o1, none⟩) t.L.length cap] 56))
      have HW := hideR (below_a w (.cells #[.int .i64 t.fr, .int .i64 t.st, .slice (some ⟨b1, o1, none⟩) t.L.length cap] 56))
      have HI := hideR (hi.below (below_a w (.cells #[.int .i64 t.fr, .int .i64 t.st, .slice (some ⟨b1, o1, none⟩) t.L.length cap] 56)))
      generalize w.alloc (.cells #[.int .i64 t.fr, .int .i64 t.st, .slice (some ⟨b1, o1, none⟩) t.L.length cap] 56) = W1 at *
      clear hi
      obtain ⟨⟨c0, c1, c2⟩, _⟩ := three_cells (unhideR HB)
      have hc := unhideR HC _ (unhideR HW)
      have hc1 := unhideR HC1 _ (unhideR HW)
      go_quiet (fail)
      have hb1 := drawn_below W1 nq
      replace HB := hideR (keepB (unhideR HB) hb1)
      replace HW := hideR (below_go (unhideR HW) hb1)
      clear c0 c1 c2 hc hc1 HI
      generalize W1.drewN nq = W2 at *
      clear hb1
      obtain ⟨⟨c0, c1, c2⟩, _⟩ := three_cells (unhideR HB)
      have hc := unhideR HC _ (unhideR HW)
      have hc1 := unhideR HC1 _ (unhideR HW)
      go_wp2_with fail
      go_quiet (fail)
      have hb1 := drawn_below W2 nq
      replace HB := hideR (keepB (unhideR HB) hb1)
      replace HW := hideR (below_go (unhideR HW) hb1)
      clear c0 c1 c2 hc hc1
      generalize W2.drewN nq = W3 at *
      clear hb1
      obtain ⟨⟨c0, c1, c2⟩, _⟩ := three_cells (unhideR HB)
      have hc := unhideR HC _ (unhideR HW)
      have hc1 := unhideR HC1 _ (unhideR HW)
      go_wp2_with fail
      refine (hsh _).mono ?_
      rintro e w4 ⟨rfl, k2⟩
      replace HB := hideR (keepB (unhideR HB) k2)
      replace HW := hideR (below_go (unhideR HW) k2)
      clear k2 hsh c0 c1 c2 hc hc1
      obtain ⟨⟨c0, c1, c2⟩, _⟩ := three_cells (unhideR HB)
      have hc := unhideR HC _ (unhideR HW)
      go_wp2
      go_ret
      exact ⟨rfl, unhideR HW⟩
    · obtain ⟨d1, d2⟩ := up_in (a := p - q) (b := r) (c := t.st) (by omega) i3 (by omega) (by omega)
      have hsh := fun u => share_any (a := p - q) (b := r) (c := t.st) (by omega) (by omega) i3 (by omega) (by omega) (by omega) u
      subst hd
      generalize downV (p - q) r t.st = dn at *
      generalize upV (p - q) r t.st = up at *
      have w7 : IntKind.i64.wrap (p - up) = p - up := iwrap (by omega) (by omega)
      have tg : decide (0 ≤ q - p) = false := decide_eq_false hg
      clear hu
      subst em
      go_enter Tryd.func47, Tryd.ntmps47
      go_wp2_with fail
      have HB := hideR (alloc_last w (.cells #[.int .i64 t.fr, .int .i64 t.st, .slice (some ⟨b1, o1, none⟩) t.L.length cap] 56))
      have HW := hideR (below_a w (.cells #[.int .i64 t.fr, .int .i64 t.st, .slice (some ⟨b1, o1, none⟩) t.L.length cap] 56))
      have HI := hideR (hi.below (below_a w (.cells #[.int .i64 t.fr, .int .i64 t.st, .slice (some ⟨b1, o1, none⟩) t.L.length cap] 56)))
      generalize w.alloc (.cells #[.int .i64 t.fr, .int .i64 t.st, .slice (some ⟨b1, o1, none⟩) t.L.length cap] 56) = W1 at *
      clear hi
      obtain ⟨⟨c0, c1, c2⟩, _⟩ := three_cells (unhideR HB)
      have hc := unhideR HC _ (unhideR HW)
      have hc1 := unhideR HC1 _ (unhideR HW)
      go_quiet (fail)
      have hb1 := drawn_below W1 nq
      replace HB := hideR (keepB (unhideR HB) hb1)
      replace HW := hideR (below_go (unhideR HW) hb1)
      clear c0 c1 c2 hc hc1 HI
      generalize W1.drewN nq = W2 at *
      clear hb1
      obtain ⟨⟨c0, c1, c2⟩, _⟩ := three_cells (unhideR HB)
      have hc := unhideR HC _ (unhideR HW)
      have hc1 := unhideR HC1 _ (unhideR HW)
      go_wp2_with fail
      go_quiet (fail)
      have hb1 := drawn_below W2 nq
      replace HB := hideR (keepB (unhideR HB) hb1)
      replace HW := hideR (below_go (unhideR HW) hb1)
      clear c0 c1 c2 hc hc1
      generalize W2.drewN nq = W3 at *
      clear hb1
      obtain ⟨⟨c0, c1, c2⟩, _⟩ := three_cells (unhideR HB)
      have hc := unhideR HC _ (unhideR HW)
      have hc1 := unhideR HC1 _ (unhideR HW)
      clear c0 c1 c2 hc hc1
      go_wp2_with fail
      refine wp_region_made 3 #[true, true, true, true, true, true, true, true, true, true, true, true, true, true, true, true, true, false, false, false, false] [.lets (· = .pointer (some ⟨w.heap.size, 2, none⟩)),
        .lets (· = .slice (some ⟨b1, o1, none⟩) t.L.length cap),
        .lets (· = .int .i64 (i : Nat)),
        .lets (· = .pointer (some ⟨b1, o1 + i, none⟩)),
        .lets (· = .int .i64 p),
        .lets (· = .pointer (some ⟨w.heap.size, 2, none⟩)),
        .lets (· = .slice (some ⟨b1, o1, none⟩) t.L.length cap),
        .lets (· = .int .i64 (i : Nat)),
        .lets (· = .int .i64 ((i : Int) + 1)),
        .lets (· = .pointer (some ⟨b1, o1 + (i + 1), none⟩)),
        .lets (· = .int .i64 q),
        .lets (· = .int .i64 (p - q)),
        .lets (· = .int .i64 ((x - t.fr) % t.st)),
        .lets (· = .pointer (some ⟨w.heap.size, 1, none⟩)),
        .lets (· = .int .i64 t.st),
        .lets (· = .tuple #[.int .i64 dn, .int .i64 up]),
        .lets (· = .tuple #[.int .i64 dn, .int .i64 up])] [] [] (by kernel_rfl) (by kernel_rfl) rfl ?kinds (by kernel_rfl) (by kernel_rfl) (by kernel_rfl) ?_
      case kinds =>
        constructor
        · intro i h
          rcases i with _ | _ | _ | _ | _ | _ | _ | _ | _ | _ | _ | _ | _ | _ | _ | _ | _ | i <;> simp [Kx.isMade] at h
        · intro i h
          rcases i with _ | _ | _ | _ | _ | _ | _ | _ | _ | _ | _ | _ | _ | _ | _ | _ | _ | i <;> simp [Kx.isUse] at h
      refine lexX_step (fun K hK => ⟨by kernel_rfl, ⟨_, rfl⟩, fun v hv => ?_, fun v hv => ?_⟩)
      · go_simp
        exact mUpon_b
      subst hv
      go_simp
      refine hK _ ?_
      clear hK K
      refine lexX_step (fun K hK => ⟨by kernel_rfl, ⟨_, rfl⟩, fun v hv => ?_, fun v hv => ?_⟩)
      · obtain ⟨⟨c0, c1, c2⟩, _⟩ := three_cells (keepB (unhideR HB) hv)
        go_simp
        exact mUpon_b
      subst hv
      go_simp
      refine hK _ ?_
      clear hK K
      refine lexX_step (fun K hK => ⟨by kernel_rfl, ⟨_, rfl⟩, fun v hv => ?_, fun v hv => ?_⟩)
      · go_simp
        exact mUpon_b
      subst hv
      go_simp
      refine hK _ ?_
      clear hK K
      refine lexX_step (fun K hK => ⟨by kernel_rfl, ⟨_, rfl⟩, fun v hv => ?_, fun v hv => ?_⟩)
      · go_simp
        exact mUpon_b
      subst hv
      go_simp
      refine hK _ ?_
      clear hK K
      refine lexX_step (fun K hK => ⟨by kernel_rfl, ⟨_, rfl⟩, fun v hv => ?_, fun v hv => ?_⟩)
      · have hc := unhideR HC _ (below_go (unhideR HW) hv)
        go_simp
        exact mUpon_b
      subst hv
      go_simp
      refine hK _ ?_
      clear hK K
      refine lexX_step (fun K hK => ⟨by kernel_rfl, ⟨_, rfl⟩, fun v hv => ?_, fun v hv => ?_⟩)
      · go_simp
        exact mUpon_b
      subst hv
      go_simp
      refine hK _ ?_
      clear hK K
      refine lexX_step (fun K hK => ⟨by kernel_rfl, ⟨_, rfl⟩, fun v hv => ?_, fun v hv => ?_⟩)
      · obtain ⟨⟨c0, c1, c2⟩, _⟩ := three_cells (keepB (unhideR HB) hv)
        go_simp
        exact mUpon_b
      subst hv
      go_simp
      refine hK _ ?_
      clear hK K
      refine lexX_step (fun K hK => ⟨by kernel_rfl, ⟨_, rfl⟩, fun v hv => ?_, fun v hv => ?_⟩)
      · go_simp
        exact mUpon_b
      subst hv
      go_simp
      refine hK _ ?_
      clear hK K
      refine lexX_step (fun K hK => ⟨by kernel_rfl, ⟨_, rfl⟩, fun v hv => ?_, fun v hv => ?_⟩)
      · go_simp
        exact mUpon_b
      subst hv
      go_simp
      refine hK _ ?_
      clear hK K
      refine lexX_step (fun K hK => ⟨by kernel_rfl, ⟨_, rfl⟩, fun v hv => ?_, fun v hv => ?_⟩)
      · go_simp
        exact mUpon_b
      subst hv
      go_simp
      refine hK _ ?_
      clear hK K
      refine lexX_step (fun K hK => ⟨by kernel_rfl, ⟨_, rfl⟩, fun v hv => ?_, fun v hv => ?_⟩)
      · have hc1 := unhideR HC1 _ (below_go (unhideR HW) hv)
        go_simp
        exact mUpon_b
      subst hv
      go_simp
      refine hK _ ?_
      clear hK K
      refine lexX_step (fun K hK => ⟨by kernel_rfl, ⟨_, rfl⟩, fun v hv => ?_, fun v hv => ?_⟩)
      · go_simp
        exact mUpon_b
      subst hv
      go_simp
      refine hK _ ?_
      clear hK K
      refine lexX_step (fun K hK => ⟨by kernel_rfl, ⟨_, rfl⟩, fun v hv => ?_, fun v hv => ?_⟩)
      · go_simp
        exact mUpon_b
      subst hv
      go_simp
      refine hK _ ?_
      clear hK K
      refine lexX_step (fun K hK => ⟨by kernel_rfl, ⟨_, rfl⟩, fun v hv => ?_, fun v hv => ?_⟩)
      · go_simp
        exact mUpon_b
      subst hv
      go_simp
      refine hK _ ?_
      clear hK K
      refine lexX_step (fun K hK => ⟨by kernel_rfl, ⟨_, rfl⟩, fun v hv => ?_, fun v hv => ?_⟩)
      · obtain ⟨⟨c0, c1, c2⟩, _⟩ := three_cells (keepB (unhideR HB) hv)
        go_simp
        exact mUpon_b
      subst hv
      go_simp
      refine hK _ ?_
      clear hK K
      refine lexX_step (fun K hK => ⟨by kernel_rfl, ⟨_, rfl⟩, fun v hv => ?_, fun v hv => ?_⟩)
      · go_simp
        refine (hsh _).mono ?_
        rintro e w9 ⟨rfl, k⟩
        exact ⟨_, rfl, rfl, k⟩
      subst hv
      go_simp
      refine hK _ ?_
      clear hK K
      refine lexX_step (fun K hK => ⟨by kernel_rfl, ⟨_, rfl⟩, fun v hv => ?_, fun v hv => ?_⟩)
      · go_simp
        exact mUpon_b
      subst hv
      go_simp
      refine hK _ ?_
      clear hK K
      refine lexX_end (fun v hv => ?_)
      replace HB := hideR (keepB (unhideR HB) hv.low)
      replace HW := hideR (below_go (unhideR HW) hv.low)
      clear hv
      refine wpAny_two (i := 17) (j := 18) (by kernel_rfl) rfl rfl (by kernel_rfl) (by kernel_rfl) (fun K hK => ?oa) (fun K hK => ?ob)
      case' oa =>
        unfold Oper.wp
        go_simp
        refine hK _ _ ?_
        clear hK K
        refine wpAny_two (i := 18) (j := 19) (by kernel_rfl) rfl rfl (by kernel_rfl) (by kernel_rfl) (fun K hK => ?oc) (fun K hK => ?od)
      case' oc =>
        unfold Oper.wp
        go_simp
        refine hK _ _ ?_
        clear hK K
        refine wpAny_step (i := 19) (by kernel_rfl) rfl (by kernel_rfl) (fun K hK => ?_)
        unfold Oper.wp
        go_simp
        refine hK _ _ ?_
        clear hK K
        refine wpAny_step (i := 20) (by kernel_rfl) rfl (by kernel_rfl) (fun K hK => ?_)
        unfold Oper.wp
        go_simp
        refine hK _ _ ?_
        clear hK K
        refine wpAny_end (by kernel_rfl) ?_
      case' od =>
        unfold Oper.wp
        go_simp
        refine hK _ _ ?_
        clear hK K
        refine wpAny_step (i := 18) (by kernel_rfl) rfl (by kernel_rfl) (fun K hK => ?_)
        unfold Oper.wp
        go_simp
        refine hK _ _ ?_
        clear hK K
        refine wpAny_step (i := 20) (by kernel_rfl) rfl (by kernel_rfl) (fun K hK => ?_)
        unfold Oper.wp
        go_simp
        refine hK _ _ ?_
        clear hK K
        refine wpAny_end (by kernel_rfl) ?_
      case' ob =>
        unfold Oper.wp
        go_simp
        refine hK _ _ ?_
        clear hK K
        refine wpAny_step (i := 17) (by kernel_rfl) rfl (by kernel_rfl) (fun K hK => ?_)
        unfold Oper.wp
        go_simp
        refine hK _ _ ?_
        clear hK K
        refine wpAny_step (i := 19) (by kernel_rfl) rfl (by kernel_rfl) (fun K hK => ?_)
        unfold Oper.wp
        go_simp
        refine hK _ _ ?_
        clear hK K
        refine wpAny_step (i := 20) (by kernel_rfl) rfl (by kernel_rfl) (fun K hK => ?_)
        unfold Oper.wp
        go_simp
        refine hK _ _ ?_
        clear hK K
        refine wpAny_end (by kernel_rfl) ?_
      all_goals
        obtain ⟨⟨c0, c1, c2⟩, _⟩ := three_cells (unhideR HB)
        have hc := unhideR HC _ (unhideR HW)
        go_wp2
        go_ret
        exact ⟨rfl, unhideR HW⟩
set_option maxRecDepth 100000 in
set_option maxHeartbeats 1600000 in
theorem at_ok (a : Nat → Addr) : AtOK a := by
  intro v t x w hS h hl
  have hv := h
  obtain ⟨ad, cap, rfl, hi⟩ := h
  have hva := trvalid_ok a _ t (w.alloc (.cells #[.int .i64 t.fr, .int .i64 t.st, .slice ad t.L.length cap] 56)) (hS.below (below_a w _) (Nat.le_refl _)) (hv.below (below_a w _)) hl
  have HS := hideR hS
  have HV := hideR hv
  have HE : HeldR (trE t ≠ 0 → htE t x = trE t ∧ htV t x = 0) := fun e => by
    have q : htE t x = trE t := by unfold htE; rw [if_pos e]
    exact ⟨q, by unfold htV; rw [if_neg (by rw [q]; exact e)]⟩
  have HE3 : HeldR (trE t = 0 → (x < t.fr ∨ t.last < x) → htE t x = 3 ∧ htV t x = 0) := fun e f => by
    have q : htE t x = 3 := by unfold htE; rw [if_neg (by rw [e]; decide), if_pos f]
    exact ⟨q, by unfold htV; rw [if_neg (by rw [q]; decide)]⟩
  have HE0 : HeldR (trE t = 0 → ¬ (x < t.fr ∨ t.last < x) → htE t x = 0 ∧ htV t x = heightV t x) := fun e f => by
    have q : htE t x = 0 := by unfold htE; rw [if_neg (by rw [e]; decide), if_neg f]
    exact ⟨q, by unfold htV; rw [if_pos q]⟩
  have hob := alloc_last w (.cells #[.int .i64 t.fr, .int .i64 t.st, .slice ad t.L.length cap] 56)
  have HB := hideR hob
  obtain ⟨R, HRr⟩ : ∃ R, HeldR (htV t x = R) := ⟨_, rfl⟩
  rw [unhideR HRr]
  clear hS hv hi hob
  go_enter Tryd.func27, Tryd.ntmps27
  go_wp2_with fail
  refine hva.mono ?_
  rintro e w1 ⟨y, rfl, hy, k1⟩
  have HW := hideR (below_go (below_a w (.cells #[.int .i64 t.fr, .int .i64 t.st, .slice ad t.L.length cap] 56)) k1)
  replace HB := hideR (keepB (unhideR HB) k1)
  clear k1 hva
  rcases hy with ⟨hy0, rfl⟩ | ⟨k, hk, hyk, rfl⟩
  · have hO := ok_of hy0
    have HL := hideR (fun u (hu : Below w.heap.size w u) => last_any ((unhideR HV).below hu) hO)
    have HH := hideR (fun u (hu : Below w.heap.size w u) (q1 : t.fr ≤ x) (q2 : x ≤ t.last) => height_any ((unhideR HV).below hu) hO x q1 q2)
    have H3 := hideR (unhideR HE3 hy0)
    have H0 := hideR (unhideR HE0 hy0)
    clear HE HE3 HE0 hy0 hO
    generalize t.last = z at *
    generalize heightV t x = Z at *
    by_cases q1 : x < t.fr
    · obtain ⟨e1, e2⟩ := unhideR H3 (.inl q1)
      have e3 := unhideR HRr
      rw [e2] at e3
      subst e3
      have HX : HeldR (ErrIs a (htE t x) (.iface 175 (.pointer (some (a 2))))) := by
        unfold HeldR
        rw [e1]
        exact err_at 2 (by decide)
      have g2 := ((unhideR HS).below (unhideR HW) (Nat.le_refl _)).g2
      obtain ⟨⟨c0, c1, c2⟩, _⟩ := three_cells (unhideR HB)
      clear e1 e2 H3 H0 HL HH HRr
      go_wp2_with fail
      go_quiet (fail)
      go_wp2
      go_ret2
      exact ⟨_, rfl, unhideR HX, below_go (unhideR HW) (drawn_below _ _)⟩
    · have hla := unhideR HL _ (unhideR HW)
      obtain ⟨⟨c0, c1, c2⟩, _⟩ := three_cells (unhideR HB)
      go_wp2_with fail
      refine hla.mono ?_
      rintro e w2 ⟨rfl, k2⟩
      replace HW := hideR (below_go (unhideR HW) k2)
      replace HB := hideR (keepB (unhideR HB) k2)
      clear k2 hla c0 c1 c2
      obtain ⟨⟨c0, c1, c2⟩, _⟩ := three_cells (unhideR HB)
      by_cases q2 : z < x
      · obtain ⟨e1, e2⟩ := unhideR H3 (.inr q2)
        have e3 := unhideR HRr
        rw [e2] at e3
        subst e3
        have HX : HeldR (ErrIs a (htE t x) (.iface 175 (.pointer (some (a 2))))) := by
          unfold HeldR
          rw [e1]
          exact err_at 2 (by decide)
        have g2 := ((unhideR HS).below (unhideR HW) (Nat.le_refl _)).g2
        clear e1 e2 H3 H0 HL HH HRr
        go_wp2_with fail
        go_quiet (fail)
        go_wp2
        go_ret2
        exact ⟨_, rfl, unhideR HX, below_go (unhideR HW) (drawn_below _ _)⟩
      · obtain ⟨e1, e2⟩ := unhideR H0 (by omega)
        have e3 := unhideR HRr
        rw [e2] at e3
        subst e3
        have HX : HeldR (ErrIs a (htE t x) .nilIface) := .inl ⟨e1, rfl⟩
        have hht := unhideR HH _ (unhideR HW) (by omega) (by omega)
        clear e1 e2 H3 H0 HL HH HRr
        go_wp2_with fail
        refine hht.mono ?_
        rintro e w3 ⟨rfl, k3⟩
        replace HW := hideR (below_go (unhideR HW) k3)
        clear k3 hht c0 c1 c2
        go_wp2
        go_ret2
        exact ⟨_, rfl, unhideR HX, unhideR HW⟩
  · obtain ⟨e1, e2⟩ := unhideR HE (by omega)
    have e3 := unhideR HRr
    rw [e2] at e3
    subst e3
    have HX : HeldR (ErrIs a (htE t x) (.iface 175 (.pointer (some (a k))))) := by
      unfold HeldR
      rw [e1, hyk]
      exact err_at k hk
    clear HE HE3 HE0 hyk e1 e2 HRr
    go_wp2
    go_ret2
    exact ⟨_, rfl, unhideR HX, unhideR HW⟩
end Go.Proofs.YtlhjmmcimhceeagDoor
