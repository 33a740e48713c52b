/-
  The law of a star's light: its walk, given what the program's Round must answer.
-/
import Derived.Test.YtmgnobeaacjdjajDoorLtRo
import Derived.Test.YtmgnobeaacjdjajDoorCodK4
import Derived.Test.YtmgnobeaacjdjajDoorFrSm
import Derived.Test.YtmgnobeaacjdjajDoorSpArg2
import Derived.Deep.CutRange
namespace Go.Proofs.YtmgnobeaacjdjajDoor
open Go Go.RowKit

/-- WHAT THE PROGRAM'S Round MUST ANSWER. -/
def RdPost (a : Nat → Addr) (p : Pic) (s : Sta) (i o : Int) (w : World) (e : Ending) (w' : World) : Prop := ∃ er : Value, e = .returned (.tuple #[.int .i64 (roundV p s i o).1, .int .i64 (roundV p s i o).2.1, .int .i64 (roundV p s i o).2.2, er]) ∧ ErrIs a (roundE p s i o) er ∧ Below w.heap.size w w'
def RoundOK (a : Nat → Addr) : Prop := ∀ {w : World} {v : Value} {p : Pic} (s : Sta) (i o : Int), Sents w a → PicC w v p → Calls Tryd.prog 10 #[v, .agg #[.int .i64 s.x, .int .i64 s.y, .int .i64 s.lt], .int .i64 i, .int .i64 o] w (RdPost a p s i o w)
def pic7 : Pic := ⟨1, 1, [7]⟩
def sta7 : Sta := ⟨0, 0, 0, 0, 0, 0, 512, 512, 0⟩
theorem round7 : roundV pic7 sta7 1 2 = (7, 0, 1) := by decide +kernel
theorem roundE7 : roundE pic7 sta7 1 2 = 0 := by decide +kernel
def RwPost (w : World) (e : Ending) (w' : World) : Prop := e = .returned (.bool true) ∧ Below w.heap.size w w'
set_option maxRecDepth 100000 in
set_option maxHeartbeats 3200000 in
theorem rounds_walk {a : Nat → Addr} (hOK : RoundOK a) {w : World} {v : Value} {op : Option Pic} (hS : Sents w a) (hA : PicArg2 w v op) (s : Sta) (i o9 : Int) : Calls Tryd.prog 4 #[v, .agg #[.int .i64 s.x, .int .i64 s.y, .int .i64 s.lt], .int .i64 i, .int .i64 o9] w (RwPost w) := by
  have HS : HeldR (∀ u, Below w.heap.size w u → Sents u a) := hideR (fun u k => hS.below k (Nat.le_refl _))
  have HA : HeldR (∀ u, Below w.heap.size w u → PicArg2 u v op) := hideR (fun u k => hA.below k)
  have hb0 := below_a w (.cells #[.int .i64 s.x, .int .i64 s.y, .int .i64 s.lt] 35)
  have hb1 := below_go hb0 (below_a (w.alloc (.cells #[.int .i64 s.x, .int .i64 s.y, .int .i64 s.lt] 35)) (.cells #[.int .i64 7] 3))
  have HG0 := hideR (keepA (o' := .cells #[.int .i64 7] 3) (alloc_last w (.cells #[.int .i64 s.x, .int .i64 s.y, .int .i64 s.lt] 35)))
  have hp7 : PicC ((w.alloc (.cells #[.int .i64 s.x, .int .i64 s.y, .int .i64 s.lt] 35)).alloc (.cells #[.int .i64 7] 3)) (.agg #[.int .i64 1, .int .i64 1, .slice (some ⟨w.heap.size + 1, 0, none⟩) 1 1]) pic7 := ⟨_, 1, rfl, ⟨fun k hk => by
    obtain rfl : k = 0 := by simp [pic7] at hk; omega
    have hh := alloc_last (w.alloc (.cells #[.int .i64 s.x, .int .i64 s.y, .int .i64 s.lt] 35)) (.cells #[.int .i64 7] 3)
    rw [show (w.alloc (.cells #[.int .i64 s.x, .int .i64 s.y, .int .i64 s.lt] 35)).heap.size = w.heap.size + 1 by simp] at hh
    exact ⟨_, _, rfl, ltB hh, (cells_at hh 0 (by simp)).1⟩⟩, by decide, by decide, by decide⟩
  have hf := hOK sta7 1 2 (unhideR HS _ hb1) hp7
  unfold RdPost at hf
  rw [round7, roundE7] at hf
  have hf' : Calls Tryd.prog 10 #[.agg #[.int .i64 1, .int .i64 1, .slice (some ⟨w.heap.size + 1, 0, none⟩) 1 1], .agg #[.int .i64 512, .int .i64 512, .int .i64 0], .int .i64 1, .int .i64 2] ((w.alloc (.cells #[.int .i64 s.x, .int .i64 s.y, .int .i64 s.lt] 35)).alloc (.cells #[.int .i64 7] 3)) fun e w' => e = .returned (.tuple #[.int .i64 7, .int .i64 0, .int .i64 1, .nilIface]) ∧ HeldR (Below w.heap.size w w') ∧ HeldR (w'.heap[w.heap.size]? = some (.cells #[.int .i64 s.x, .int .i64 s.y, .int .i64 s.lt] 35)) := hf.mono (by
    rintro e w' ⟨er, rfl, her, k⟩
    rcases her with ⟨_, rfl⟩ | ⟨k9, _, q, _⟩
    · exact ⟨rfl, hideR (below_go hb1 k), hideR (keepB (unhideR HG0) k)⟩
    · omega)
  have HRd0 : HeldR (∀ u p ad cap, Below w.heap.size w u → PicC u (.agg #[.int .i64 p.wide, .int .i64 p.high, .slice ad p.L.length cap]) p → Calls Tryd.prog 10 #[.agg #[.int .i64 p.wide, .int .i64 p.high, .slice ad p.L.length cap], .agg #[.int .i64 s.x, .int .i64 s.y, .int .i64 s.lt], .int .i64 i, .int .i64 o9] u (RdPost a p s i o9 u)) := hideR (fun u p ad cap k h => hOK s i o9 (unhideR HS u k) h)
  clear hS hA hb0 hb1 hf hp7 HG0
  go_enter Tryd.func4, Tryd.ntmps4
  go_wp2_with fail
  refine hf'.mono ?_
  rintro e w1 ⟨rfl, HB1, HG1⟩
  have hsm := small_any (unhideR HA w1 (unhideR HB1)).arg
  obtain ⟨G, hG⟩ : ∃ G, w.heap.size = G := ⟨_, rfl⟩
  rw [hG] at HG1 ⊢
  clear hf' hG
  go_wp2_with fail
  refine hsm.mono ?_
  rintro e w1' ⟨q, rfl, hq, rfl⟩
  clear hsm
  cases q with
  | false =>
    clear hq
    go_wp2
    go_ret
    exact ⟨rfl, unhideR HB1⟩
  | true =>
    obtain ⟨p, rfl, hfew⟩ := hq rfl
    obtain ⟨b, o, cap, ad, rfl, hp1, hl, hpc1⟩ := picArg2_is (unhideR HA w1 (unhideR HB1))
    have HP1 := hideR hp1
    have HRd : HeldR (∀ u, Below w1.heap.size w1 u → Calls Tryd.prog 10 #[.agg #[.int .i64 p.wide, .int .i64 p.high, .slice ad p.L.length cap], .agg #[.int .i64 s.x, .int .i64 s.y, .int .i64 s.lt], .int .i64 i, .int .i64 o9] u (RdPost a p s i o9 u)) := hideR (fun u k => unhideR HRd0 u p ad cap (below_go (unhideR HB1) k) (hpc1.below k))
    clear hq hpc1 hp1 hfew HRd0
    obtain ⟨rl, hrl⟩ : ∃ rl, (roundV p s i o9).1 = rl := ⟨_, rfl⟩
    obtain ⟨rg, hrg⟩ : ∃ rg, (roundV p s i o9).2.1 = rg := ⟨_, rfl⟩
    obtain ⟨rn, hrn⟩ : ∃ rn, (roundV p s i o9).2.2 = rn := ⟨_, rfl⟩
    have hro := fun u (k : Below w1.heap.size w1 u) => roundOf_any ((unhideR HP1).below k) hl s i o9
    unfold RdPost at HRd
    unfold RoPost at hro
    rw [hrl, hrg, hrn] at HRd hro
    have HRo := hideR hro
    clear hrl hrg hrn hro
    go_upto_region 7 with fail
    go_cut [9, 10, 11, 12] from 46 to 57 (fun s9 s10 s11 s12 wx => ∃ er : Value, s9 = .int .i64 rl ∧ s10 = .int .i64 rg ∧ s11 = .int .i64 rn ∧ s12 = er ∧ HeldR (ErrIs a (roundE p s i o9) er) ∧ HeldR (Below w1.heap.size w1 wx))
    case' first =>
      refine wp_region_made 9 #[true, true, true, true, true, true, false, false, false, false, false, false, false, false, false, false] [.lets (· = .pointer (some ⟨b, o, none⟩)),
        .lets (· = .pointer (some ⟨b, o, none⟩)),
        .lets (· = .agg #[.int .i64 p.wide, .int .i64 p.high, .slice ad p.L.length cap]),
        .lets (· = .agg #[.int .i64 s.x, .int .i64 s.y, .int .i64 s.lt]),
        .lets (· = .int .i64 i),
        .lets (· = .int .i64 o9)] [] [] (by kernel_rfl) (by kernel_rfl) rfl ?kinds (by kernel_rfl) (by kernel_rfl) (by kernel_rfl) ?_
      case kinds =>
        constructor
        · intro i h
          rcases i with _ | _ | _ | _ | _ | _ | i <;> simp [Kx.isMade] at h
        · intro i h
          rcases i with _ | _ | _ | _ | _ | _ | i <;> simp [Kx.isUse] at h
      refine lexX_step (fun K hK => ⟨by kernel_rfl, ⟨_, rfl⟩, fun v hv => ?_, fun v hv => ?_⟩)
      · go_simp
        exact mUpon_b
      subst hv
      go_simp
      refine hK _ ?_
      clear hK K
      refine lexX_step (fun K hK => ⟨by kernel_rfl, ⟨_, rfl⟩, fun v hv => ?_, fun v hv => ?_⟩)
      · go_simp
        exact mUpon_b
      subst hv
      go_simp
      refine hK _ ?_
      clear hK K
      refine lexX_step (fun K hK => ⟨by kernel_rfl, ⟨_, rfl⟩, fun v hv => ?_, fun v hv => ?_⟩)
      · obtain ⟨_, c0, c1, c2, _⟩ := (unhideR HP1).below hv
        go_simp
        exact mUpon_b
      subst hv
      go_simp
      refine hK _ ?_
      clear hK K
      refine lexX_step (fun K hK => ⟨by kernel_rfl, ⟨_, rfl⟩, fun v hv => ?_, fun v hv => ?_⟩)
      · obtain ⟨y0, y1, y2⟩ := pic_three (keepB (unhideR HG1) hv)
        go_simp
        exact mUpon_b
      subst hv
      go_simp
      refine hK _ ?_
      clear hK K
      refine lexX_step (fun K hK => ⟨by kernel_rfl, ⟨_, rfl⟩, fun v hv => ?_, fun v hv => ?_⟩)
      · go_simp
        exact mUpon_b
      subst hv
      go_simp
      refine hK _ ?_
      clear hK K
      refine lexX_step (fun K hK => ⟨by kernel_rfl, ⟨_, rfl⟩, fun v hv => ?_, fun v hv => ?_⟩)
      · go_simp
        exact mUpon_b
      subst hv
      go_simp
      refine hK _ ?_
      clear hK K
      refine lexX_end (fun v5 hv => ?_)
      have K5 := hv.low
      clear hv
      have hwd := unhideR HRd v5 K5
      refine wpAny_step (i := 6) (by kernel_rfl) rfl (by kernel_rfl) (fun K hK => ?_)
      unfold Oper.wp
      go_simp
      refine hwd.mono ?_
      rintro e w6 ⟨er, rfl, her, k6⟩
      have HE6 := hideR her
      have HB6 := hideR (below_go K5 k6)
      clear hwd her k6
      go_simp
      refine hK _ _ ?_
      clear hK K
      refine wpAny_step (i := 7) (by kernel_rfl) rfl (by kernel_rfl) (fun K hK => ?_)
      unfold Oper.wp
      go_simp
      refine hK _ _ ?_
      clear hK K
      refine wpAny_take (i := 8) (v := .int .i64 rl) rfl (by kernel_rfl) (by kernel_rfl) (by kernel_rfl) (fun _ _ _ h => h) (Or.inl ⟨by rfl, fun u => ?_⟩) ?_
      · go_simp
        try rfl
      go_simp
      refine wpAny_take (i := 9) (v := .int .i64 rg) rfl (by kernel_rfl) (by kernel_rfl) (by kernel_rfl) (fun _ _ _ h => h) (Or.inl ⟨by rfl, fun u => ?_⟩) ?_
      · go_simp
        try rfl
      go_simp
      refine wpAny_take (i := 10) (v := .int .i64 rn) rfl (by kernel_rfl) (by kernel_rfl) (by kernel_rfl) (fun _ _ _ h => h) (Or.inl ⟨by rfl, fun u => ?_⟩) ?_
      · go_simp
        try rfl
      go_simp
      refine wpAny_take (i := 11) (v := er) rfl (by kernel_rfl) (by kernel_rfl) (by kernel_rfl) (fun _ _ _ h => h) (Or.inl ⟨by rfl, fun u => ?_⟩) ?_
      · go_simp
        try rfl
      go_simp
      refine wpAny_step (i := 12) (by kernel_rfl) rfl (by kernel_rfl) (fun K hK => ?_)
      unfold Oper.wp
      go_simp
      refine hK _ _ ?_
      clear hK K
      refine wpAny_step (i := 13) (by kernel_rfl) rfl (by kernel_rfl) (fun K hK => ?_)
      unfold Oper.wp
      go_simp
      refine hK _ _ ?_
      clear hK K
      refine wpAny_step (i := 14) (by kernel_rfl) rfl (by kernel_rfl) (fun K hK => ?_)
      unfold Oper.wp
      go_simp
      refine hK _ _ ?_
      clear hK K
      refine wpAny_step (i := 15) (by kernel_rfl) rfl (by kernel_rfl) (fun K hK => ?_)
      unfold Oper.wp
      go_simp
      refine hK _ _ ?_
      clear hK K
      refine wpAny_end (by kernel_rfl) ?_
      go_wp2_with fail
      go_meet
      exact ⟨er, rfl, rfl, rfl, rfl, HE6, HB6⟩
    obtain ⟨er, rfl, rfl, rfl, rfl, HR, HB2⟩ := hcut
    have hre := unhideR HRo wc (unhideR HB2)
    have HB3 := hideR (below_go (unhideR HB1) (unhideR HB2))
    obtain ⟨y0, y1, y2⟩ := pic_three (keepB (unhideR HG1) (unhideR HB2))
    clear HRd HRo
    go_wp2_with fail
    refine hre.mono ?_
    rintro e w5 ⟨rfl, k5⟩
    have k5' := below_go (unhideR HB3) k5
    have hcd := coded_err (unhideR HS w5 k5') (unhideR HR)
    have HB5 := hideR k5'
    have u1 : (rl == rl) = true := by simp
    have u2 : (rg == rg) = true := by simp
    have u3 : (rn == rn) = true := by simp
    clear hre k5 k5' y0 y1 y2
    go_wp2_with fail
    refine hcd.mono ?_
    rintro e w6 ⟨rfl, k6⟩
    have HB6 := hideR (below_go (unhideR HB5) k6)
    clear hcd k6
    go_wp2
    go_ret
    exact ⟨rfl, unhideR HB6⟩
end Go.Proofs.YtmgnobeaacjdjajDoor
