/-
  The program's Stack.
-/
import Derived.Test.YtncbmkflilcdgahDoorDF7
namespace Go.Proofs.YtncbmkflilcdgahDoor
open Go Go.RowKit

def StkP (a : Nat → Addr) (Ls : List Pic) (w : World) (e : Ending) (w' : World) : Prop := ∃ (X : List Int) (adx : Option Addr) (capx : Nat) (er : Value) (Wd Hg : Int), e = .returned (.tuple #[.agg #[.int .i64 Wd, .int .i64 Hg, .slice adx X.length capx], er]) ∧ ErrIs a (stackE Ls) er ∧
    (stackE Ls = 0 → X = stackV Ls ∧ Wd = (Ls.getD 0 pic0).wide ∧ Hg = (Ls.getD 0 pic0).high) ∧ (stackE Ls ≠ 0 → X = []) ∧ ICame w' adx X ∧ Below w.heap.size w w'
theorem stk_bad {a : Nat → Addr} {Ls : List Pic} {w u : World} {er : Value} (h : ErrIs a (stackE Ls) er) (h0 : stackE Ls ≠ 0) (k : Below w.heap.size w u) : StkP a Ls w (.returned (.tuple #[.agg #[.int .i64 0, .int .i64 0, .slice none 0 0], er])) u :=
  ⟨[], none, 0, er, 0, 0, rfl, h, fun q => absurd q h0, fun _ => rfl, ⟨fun k hk => absurd hk (Nat.not_lt_zero k)⟩, k⟩
theorem rest_came {w : World} {b off : Nat} {p : Pic} {Ls : List Pic} (h : PCame w (some ⟨b, off, none⟩) (p :: Ls)) : PCame w (some ⟨b, off + 3, none⟩) Ls := ⟨fun k hk => by
  obtain ⟨b', off', adk, capk, e, h1, h2⟩ := h.at_ (k + 1) (by simp; omega)
  injection e with e
  injection e with e1 e2
  subst e1
  subst e2
  refine ⟨b, off + 3, adk, capk, rfl, ?_, h2⟩
  rw [show off + 3 + k * 3 = off + (k + 1) * 3 by omega]
  exact h1⟩
theorem stack_wt {p : Pic} {Ls : List Pic} (h : (p :: Ls).length ≤ 64) : stackE (p :: Ls) = wtE p Ls := by
  unfold stackE wtE
  rw [if_neg (by omega), if_neg (by simp)]
  have e : firstE (p :: Ls) = if picE p ≠ 0 then picE p else firstE Ls := by
    conv => lhs; unfold firstE
  rw [e]
  have ea : ((p :: Ls).all fun q => decide (q.wide = ((p :: Ls).getD 0 pic0).wide) && decide (q.high = ((p :: Ls).getD 0 pic0).high)) = Ls.all fun q => decide (q.wide = p.wide) && decide (q.high = p.high) := by
    show ((p :: Ls).all fun q => decide (q.wide = p.wide) && decide (q.high = p.high)) = _
    rw [List.all_cons]
    simp
  rw [ea]
  by_cases h1 : picE p = 0
  · simp only [h1, ne_eq, not_true, if_false]
  · simp only [ne_eq, h1, not_false_eq_true, if_true]
theorem same_len2 {p d : Pic} (hp : PicOk p) (hd : PicOk d) (h1 : d.wide = p.wide) (h2 : d.high = p.high) : d.L.length = p.L.length := by
  have a := hp.len
  have b := hd.len
  rw [h1, h2, ← a] at b
  exact_mod_cast b
theorem alike_of {p : Pic} {Ls : List Pic} (h : wtE p Ls = 0) : Alike (p :: Ls) p.wide p.high p.L.length := by
  have h1 : picE p = 0 := by
    unfold wtE at h
    by_cases q : picE p = 0
    · exact q
    · rw [if_pos q] at h; exact h
  have h2 : firstE Ls = 0 := by
    unfold wtE at h
    rw [if_neg (fun k => k h1)] at h
    by_cases q : firstE Ls = 0
    · exact q
    · rw [if_pos q] at h; exact h
  have h3 : (Ls.all fun q => decide (q.wide = p.wide) && decide (q.high = p.high)) = true := by
    unfold wtE at h
    rw [if_neg (fun k => k h1), if_neg (fun k => k h2)] at h
    cases e : (Ls.all fun q => decide (q.wide = p.wide) && decide (q.high = p.high)) with
    | true => rfl
    | false => rw [e, if_pos rfl] at h; cases h
  have h4 : ∀ j, j < Ls.length → picE (Ls.getD j pic0) = 0 := by
    intro j hj
    refine Decidable.byContradiction (fun q => ?_)
    -- the first that is wrong
    have key : ∀ {L : List Pic} {i : Nat}, i < L.length → picE (L.getD i pic0) ≠ 0 → firstE L ≠ 0 := by
      intro L
      induction L with
      | nil => intro i hi; exact absurd hi (Nat.not_lt_zero i)
      | cons x L ih =>
        intro i hi hq
        unfold firstE
        by_cases hx : picE x = 0
        · rw [if_neg (fun k => k hx)]
          cases i with
          | zero => exact absurd hx hq
          | succ i => exact ih (by simpa using hi) hq
        · rw [if_pos hx]; exact hx
    exact key hj q h2
  have hp := pic_ok h1
  refine ⟨fun j hj => ?_⟩
  cases j with
  | zero => exact ⟨hp, rfl, rfl, rfl⟩
  | succ j =>
    have hj' : j < Ls.length := by simpa using hj
    obtain ⟨s1, s2⟩ := size_at.1 h3 j hj'
    have hq := pic_ok (h4 j hj')
    exact ⟨hq, s1, s2, same_len2 hp hq s1 s2⟩
set_option maxRecDepth 100000 in
set_option maxHeartbeats 3200000 in
theorem stack_ok (a : Nat → Addr) : StackOK a := by
  intro w cap al Ls hS hr hl h70 hcap
  show Calls _ _ _ _ (StkP a Ls w)
  have hb := below_a w (.cells #[.int .i64 0, .int .i64 0, .slice none 0 0] 94)
  have HG := hideR (alloc_last w (.cells #[.int .i64 0, .int .i64 0, .slice none 0 0] 94))
  have HB := hideR hb
  have hS2 := hS.below hb (Nat.le_refl _)
  have g1 := hS2.g1
  have g4 := hS2.g4
  by_cases h64 : 64 < Ls.length
  · have HE : HeldR (stackE Ls = 2) := hideR (by unfold stackE; rw [if_pos h64])
    clear hb hS hS2 hr
    go_enter Tryd.func44, Tryd.ntmps44
    go_wp2_with fail
    have HX4 : HeldR (StkP a Ls w (.returned (.tuple #[.agg #[.int .i64 0, .int .i64 0, .slice none 0 0], .iface 233 (.pointer (some (a 1)))])) ((w.alloc (.cells #[.int .i64 0, .int .i64 0, .slice none 0 0] 94)).drew)) := hideR (stk_bad (by rw [unhideR HE]; exact err_at 1 (by decide)) (by rw [unhideR HE]; decide) (below_go (unhideR HB) (below_drewN (Below.refl _ _) 1)))
    have h3 : ((w.alloc (.cells #[.int .i64 0, .int .i64 0, .slice none 0 0] 94)).drew).heap[w.heap.size]? = some (.cells #[.int .i64 0, .int .i64 0, .slice none 0 0] 94) := unhideR HG
    obtain ⟨q0, q1, q2⟩ := pic_three (unhideR HG)
    obtain ⟨o0, o1, o2⟩ := pic_open (unhideR HG)
    go_region
    generalize (w.alloc (.cells #[.int .i64 0, .int .i64 0, .slice none 0 0] 94)).drew = uf at *
    obtain ⟨r0, r1, r2⟩ := pic_three h3
    go_wp2
    simp [bodyPost, results, Tryd.results44, go_sem, r0, r1, r2]
    exact unhideR HX4
  cases Ls with
  | nil =>
    have HE : HeldR (stackE [] = 5) := hideR (by decide)
    generalize hLs : ([] : List Pic) = Ls at *
    have hl0 : Ls.length = 0 := by rw [← hLs]; rfl
    clear hb hS hS2 hr hLs h64 hl h70 hcap
    go_enter Tryd.func44, Tryd.ntmps44
    go_wp2_with fail
    have HX4 : HeldR (StkP a Ls w (.returned (.tuple #[.agg #[.int .i64 0, .int .i64 0, .slice none 0 0], .iface 233 (.pointer (some (a 4)))])) ((w.alloc (.cells #[.int .i64 0, .int .i64 0, .slice none 0 0] 94)).drew)) := hideR (stk_bad (by rw [unhideR HE]; exact err_at 4 (by decide)) (by rw [unhideR HE]; decide) (below_go (unhideR HB) (below_drewN (Below.refl _ _) 1)))
    have h3 : ((w.alloc (.cells #[.int .i64 0, .int .i64 0, .slice none 0 0] 94)).drew).heap[w.heap.size]? = some (.cells #[.int .i64 0, .int .i64 0, .slice none 0 0] 94) := unhideR HG
    obtain ⟨q0, q1, q2⟩ := pic_three (unhideR HG)
    obtain ⟨o0, o1, o2⟩ := pic_open (unhideR HG)
    go_region
    generalize (w.alloc (.cells #[.int .i64 0, .int .i64 0, .slice none 0 0] 94)).drew = uf at *
    obtain ⟨r0, r1, r2⟩ := pic_three h3
    go_wp2
    simp [bodyPost, results, Tryd.results44, go_sem, r0, r1, r2]
    exact unhideR HX4
  | cons p Ls =>
    obtain ⟨b, off, adp, capp, rfl, hp, hpl⟩ := (hr.below hb).at_ 0 (by simp)
    have hp' : PicAt (w.alloc (.cells #[.int .i64 0, .int .i64 0, .slice none 0 0] 94)) b off adp capp p := by
      have := hp
      rwa [Nat.zero_mul, Nat.add_zero] at this
    have hwt := stack_wt (p := p) (Ls := Ls) (by omega)
    have hpl' : p.L.length * 8 ≤ 140737488355328 := hpl
    have HWt := hideR hwt
    have HR := hideR (hr.below hb)
    obtain ⟨adr, hadr⟩ : ∃ adr : Option Addr, (if cap = 1 then (some ⟨b, off, none⟩ : Option Addr) else some ⟨b, off + 3, none⟩) = adr := ⟨_, rfl⟩
    have HRr : HeldR (PCame (w.alloc (.cells #[.int .i64 0, .int .i64 0, .slice none 0 0] 94)) adr Ls) := by
      refine hideR ?_
      rw [← hadr]
      split
      · rename_i e
        have e0 : Ls.length = 0 := by simp at hcap; omega
        exact ⟨fun k hk => absurd hk (by omega)⟩
      · exact rest_came (hr.below hb)
    have h11 : (1 : Int) ≤ (Ls.length : Int) + 1 := by omega
    have HS := hideR hS2
    have HPv := hideR hp'
    clear hb hS hS2 hr hp hpl hwt g1 g4
    have hl1 : Ls.length ≤ 63 := by simp at h64; omega
    rw [show (p :: Ls).length = Ls.length + 1 from rfl] at *
    generalize hAll : p :: Ls = All at *
    have HAll := hideR hAll
    clear hAll
    obtain ⟨_, x0, x1, x2, _⟩ := hp'
    go_enter Tryd.func44, Tryd.ntmps44
    go_wp2_with fail
    refine wp_region_made 1 #[true, true, true, true, true, false, false] [.lets (· = .slice (some ⟨b, off, none⟩) (Ls.length + 1) cap),
      .lets (· = .pointer (some ⟨b, off, none⟩)),
      .lets (· = .agg #[.int .i64 p.wide, .int .i64 p.high, .slice adp p.L.length capp]),
      .lets (· = .slice (some ⟨b, off, none⟩) (Ls.length + 1) cap),
      .lets (· = .slice adr Ls.length (cap - 1))] [] [] (by kernel_rfl) (by kernel_rfl) rfl ?kinds (by kernel_rfl) (by kernel_rfl) (by kernel_rfl) ?_
    case kinds =>
      constructor
      · intro i h
        rcases i with _ | _ | _ | _ | _ | i <;> simp [Kx.isMade] at h
      · intro i h
        rcases i with _ | _ | _ | _ | _ | i <;> simp [Kx.isUse] at h
    refine lexX_step (fun K hK => ⟨by kernel_rfl, ⟨_, rfl⟩, fun v hv => ?_, fun v hv => ?_⟩)
    · go_simp
      exact mUpon_b
    subst hv
    go_simp
    refine hK _ ?_
    clear hK K
    refine lexX_step (fun K hK => ⟨by kernel_rfl, ⟨_, rfl⟩, fun v hv => ?_, fun v hv => ?_⟩)
    · go_simp
      exact mUpon_b
    subst hv
    go_simp
    refine hK _ ?_
    clear hK K
    refine lexX_step (fun K hK => ⟨by kernel_rfl, ⟨_, rfl⟩, fun v hv => ?_, fun v hv => ?_⟩)
    · have z0 := (hv.cell (p := ⟨b, off, none⟩) (unhideR HPv).low).trans x0
      have z1 := (hv.cell (p := ⟨b, off + 1, none⟩) (unhideR HPv).low).trans x1
      have z2 := (hv.cell (p := ⟨b, off + 2, none⟩) (unhideR HPv).low).trans x2
      go_simp
      exact mUpon_b
    subst hv
    go_simp
    refine hK _ ?_
    clear hK K
    refine lexX_step (fun K hK => ⟨by kernel_rfl, ⟨_, rfl⟩, fun v hv => ?_, fun v hv => ?_⟩)
    · go_simp
      exact mUpon_b
    subst hv
    go_simp
    refine hK _ ?_
    clear hK K
    refine lexX_step (fun K hK => ⟨by kernel_rfl, ⟨_, rfl⟩, fun v hv => ?_, fun v hv => ?_⟩)
    · go_simp
      exact mUpon_b
    subst hv
    go_simp
    refine hK _ ?_
    clear hK K
    refine lexX_end (fun v5 hv => ?_)
    have HK := hideR hv.low
    have htog := together_any (cm := cap - 1) (v := .agg #[.int .i64 p.wide, .int .i64 p.high, .slice adp p.L.length capp]) (p := p) ((unhideR HS).below hv.low (Nat.le_refl _)) ⟨adp, capp, rfl, (unhideR HPv).row.below hv.low, hpl'⟩ ((unhideR HRr).below hv.low) (by omega)
    clear hv x0 x1 x2
    refine wpAny_step (i := 5) (by kernel_rfl) rfl (by kernel_rfl) (fun K hK => ?_)
    unfold Oper.wp
    go_simp
    refine htog.mono ?_
    rintro e w6 ⟨er, rfl, her, k6⟩
    replace HK := hideR (below_go (unhideR HK) k6)
    clear htog k6
    refine hK _ _ ?_
    clear hK K
    refine wpAny_step (i := 6) (by kernel_rfl) rfl (by kernel_rfl) (fun K hK => ?_)
    unfold Oper.wp
    go_simp
    refine hK _ _ ?_
    clear hK K
    refine wpAny_end (by kernel_rfl) ?_
    replace HG := hideR (keepB (unhideR HG) (unhideR HK))
    replace HB := hideR (below_go (unhideR HB) (unhideR HK))
    obtain ⟨q0, q1, q2⟩ := pic_three (unhideR HG)
    obtain ⟨o0, o1, o2⟩ := pic_open (unhideR HG)
    by_cases e1 : wtE p Ls = 0
    case neg =>
      obtain ⟨k, hk, rfl⟩ := err_some her e1
      have HX := hideR (stk_bad (w := w) (by rw [unhideR HWt]; exact her) (by rw [unhideR HWt]; exact e1) (three_below (g := w.heap.size) (y0 := .int .i64 0) (y1 := .int .i64 0) (y2 := .slice none 0 0) (unhideR HB) (Nat.le_refl _)))
      have h3 := three_set (y0 := .int .i64 0) (y1 := .int .i64 0) (y2 := .slice none 0 0) (unhideR HG)
      clear her e1
      go_wp2_with fail
      generalize ((w6.setCell ⟨w.heap.size, 0, none⟩ (.int .i64 0)).setCell ⟨w.heap.size, 1, none⟩ (.int .i64 0)).setCell ⟨w.heap.size, 2, none⟩ (.slice none 0 0) = uf at *
      obtain ⟨r0, r1, r2⟩ := pic_three h3
      simp [bodyPost, results, Tryd.results44, go_sem, r0, r1, r2]
      exact unhideR HX
    case pos =>
      obtain rfl := err_nil her e1
      have hal := alike_of e1
      have hfew := (hal.ok 0 (by simp)).1.few
      have HA0 : HeldR (stackE All = 0) := hideR (by rw [unhideR HWt]; exact e1)
      have hfew' : p.L.length ≤ 65536 := hfew
      have hmd := medians_any (cap := cap) ((unhideR HR).below (unhideR HK)) (by rw [← unhideR HAll]; exact hal) (by rw [← unhideR HAll]; simp) (by rw [← unhideR HAll]; simp; omega) hfew'
      have hlA : All.length = Ls.length + 1 := by rw [← unhideR HAll]; rfl
      rw [hlA] at hmd
      clear her e1 hal hfew hlA
      go_wp2_with fail
      refine hmd.mono ?_
      rintro e w7 ⟨gx, rfl, hgx, hIc, k7⟩
      have HX : HeldR (StkP a All w (.returned (.tuple #[.agg #[.int .i64 p.wide, .int .i64 p.high, .slice (some ⟨gx, 0, none⟩) p.L.length p.L.length], .nilIface])) (((w7.setCell ⟨w.heap.size, 0, none⟩ (.int .i64 p.wide)).setCell ⟨w.heap.size, 1, none⟩ (.int .i64 p.high)).setCell ⟨w.heap.size, 2, none⟩ (.slice (some ⟨gx, 0, none⟩) p.L.length p.L.length))) := by
        have lo : w.heap.size < w6.heap.size := ltB (unhideR HG)
        have ne : ∀ a0 : Addr, (some ⟨gx, 0, none⟩ : Option Addr) = some a0 → a0.block ≠ w.heap.size := fun a0 e => by cases e; show gx ≠ _; omega
        have hI3 := ((hIc.other (i := 0) (x := .int .i64 p.wide) ne).other (i := 1) (x := .int .i64 p.high) ne).other (i := 2) (x := .slice (some ⟨gx, 0, none⟩) p.L.length p.L.length) ne
        have h0 := unhideR HA0
        have hAl := unhideR HAll
        subst hAl
        have eX : stkK (p :: Ls) p.L.length = stackV (p :: Ls) := rfl
        have eL : (stackV (p :: Ls)).length = p.L.length := by rw [← eX, stkK_length]
        rw [eX] at hI3
        refine hideR ⟨stackV (p :: Ls), some ⟨gx, 0, none⟩, p.L.length, .nilIface, p.wide, p.high, by rw [eL], .inl ⟨h0, rfl⟩, fun _ => ⟨rfl, rfl, rfl⟩, fun q => absurd h0 q, hI3, three_below (below_go (unhideR HB) k7) (Nat.le_refl _)⟩
      have h3 := three_set (y0 := .int .i64 p.wide) (y1 := .int .i64 p.high) (y2 := .slice (some ⟨gx, 0, none⟩) p.L.length p.L.length) (keepB (unhideR HG) k7)
      obtain ⟨q0, q1, q2⟩ := pic_three (keepB (unhideR HG) k7)
      obtain ⟨o0, o1, o2⟩ := pic_open (keepB (unhideR HG) k7)
      clear hmd hIc k7 hgx
      go_wp2_with fail
      generalize ((w7.setCell ⟨w.heap.size, 0, none⟩ (.int .i64 p.wide)).setCell ⟨w.heap.size, 1, none⟩ (.int .i64 p.high)).setCell ⟨w.heap.size, 2, none⟩ (.slice (some ⟨gx, 0, none⟩) p.L.length p.L.length) = uf at *
      obtain ⟨r0, r1, r2⟩ := pic_three h3
      simp [bodyPost, results, Tryd.results44, go_sem, r0, r1, r2]
      exact unhideR HX
end Go.Proofs.YtncbmkflilcdgahDoor
