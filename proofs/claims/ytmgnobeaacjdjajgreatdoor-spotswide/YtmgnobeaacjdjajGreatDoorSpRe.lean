/-
  How far a share of a spot's light reaches: the document's, by contract.
-/
import Derived.Test.YtmgnobeaacjdjajGreatDoorSpRA
import Derived.Deep.CutRange
namespace Go.Proofs.YtmgnobeaacjdjajGreatDoor
open Go Go.RowKit

def boxB (p : Pic) (s : Sta) : Bool := decide (0 ≤ s.le ∧ s.le ≤ s.ri ∧ s.ri < p.wide ∧ 0 ≤ s.tp ∧ s.tp ≤ s.lo)
def badR (p : Pic) (s : Sta) (part : Int) : Prop := part < 1 ∨ 100 < part ∨ boxB p s = false ∨ p.high ≤ s.lo ∨ farB s.x = true ∨ farB s.y = true
instance (p : Pic) (s : Sta) (part : Int) : Decidable (badR p s part) := by unfold badR; exact inferInstance
def reachE (p : Pic) (s : Sta) (part : Int) : Int := if picE p ≠ 0 then picE p else if badR p s part then 5 else if allV p s = 0 then 9 else 0
def RePost (p : Pic) (s : Sta) (part : Int) (w : World) (e : Ending) (w' : World) : Prop := ∃ r : Int, e = .returned (.tuple #[.int .i64 r, .int .i64 (reachE p s part)]) ∧ (reachE p s part ≠ 0 → r = 0) ∧ (reachE p s part = 0 → IsReach p s part r) ∧ Below w.heap.size w w'
theorem re_none {p : Pic} {s : Sta} {part E : Int} {w w' : World} (h : reachE p s part = E) (h0 : E ≠ 0) (k : Below w.heap.size w w') : RePost p s part w (.returned (.tuple #[.int .i64 0, .int .i64 E])) w' :=
  ⟨0, by rw [h], fun _ => rfl, fun q => absurd (h.symm.trans q) h0, k⟩
theorem not_bad {p : Pic} {s : Sta} {part : Int} (h : ¬ badR p s part) : ¬ part < 1 ∧ ¬ 100 < part ∧ boxB p s = true ∧ ¬ p.high ≤ s.lo ∧ farB s.x = false ∧ farB s.y = false := by
  unfold badR at h
  refine ⟨fun q => h (.inl q), fun q => h (.inr (.inl q)), ?_, fun q => h (.inr (.inr (.inr (.inl q)))), ?_, ?_⟩
  · cases e : boxB p s with
    | true => rfl
    | false => exact absurd (.inr (.inr (.inl e))) h
  · cases e : farB s.x with
    | false => rfl
    | true => exact absurd (.inr (.inr (.inr (.inr (.inl e))))) h
  · cases e : farB s.y with
    | false => rfl
    | true => exact absurd (.inr (.inr (.inr (.inr (.inr e))))) h
set_option maxRecDepth 100000 in
set_option maxHeartbeats 12800000 in
theorem reachOf_any {w : World} {b o cap : Nat} {ad : Option Addr} {p : Pic} (h : PicAt w b o ad cap p) (hl : p.L.length * 8 ≤ 140737488355328) (s : Sta) (part : Int) :
    Calls Tryz.prog 9 #[.pointer (some ⟨b, o, none⟩), sxV s, .int .i64 part] w (RePost p s part w) := by
  have HPe : HeldR (∀ u, Below w.heap.size w u → Calls Tryz.prog 23 #[.pointer (some ⟨b, o, none⟩)] u (fun e w' => e = .returned (.int .i64 (picE p)) ∧ Below u.heap.size u w')) := hideR (fun u k => (pictureError_any (h.below k) hl).mono (by rintro e w' ⟨rfl, k1⟩; exact ⟨rfl, k1⟩))
  have hrg := picE_range p
  have HP : HeldR (∀ u, Below w.heap.size w u → PicAt u b o ad cap p) := hideR (fun u k => h.below k)
  have HE0 := hideR (nine_at9 (alloc_last w (.cells #[.int .i64 s.le, .int .i64 s.tp, .int .i64 s.ri, .int .i64 s.lo, .int .i64 s.px, .int .i64 s.li, .int .i64 s.x, .int .i64 s.y, .int .i64 s.lt] 26)))
  have HB0 := hideR (below_a w (.cells #[.int .i64 s.le, .int .i64 s.tp, .int .i64 s.ri, .int .i64 s.lo, .int .i64 s.px, .int .i64 s.li, .int .i64 s.x, .int .i64 s.y, .int .i64 s.lt] 26))
  have hs0 : w.heap.size < (w.alloc (.cells #[.int .i64 s.le, .int .i64 s.tp, .int .i64 s.ri, .int .i64 s.lo, .int .i64 s.px, .int .i64 s.li, .int .i64 s.x, .int .i64 s.y, .int .i64 s.lt] 26)).heap.size := by simp
  unfold sxV
  clear h
  by_cases e0 : picE p = 0
  case neg =>
    have hE : reachE p s part = picE p := by unfold reachE; rw [if_pos e0]
    have HF : HeldR (∀ u, Below w.heap.size w u → RePost p s part w (.returned (.tuple #[.int .i64 0, .int .i64 (picE p)])) u) := hideR (fun u k => re_none hE e0 k)
    have hp0 : 0 < picE p := by omega
    generalize picE p = E at *
    clear hE hrg
    go_enter Tryz.func9, Tryz.ntmps9
    go_wp2_with fail
    generalize w.alloc (.cells #[.int .i64 s.le, .int .i64 s.tp, .int .i64 s.ri, .int .i64 s.lo, .int .i64 s.px, .int .i64 s.li, .int .i64 s.x, .int .i64 s.y, .int .i64 s.lt] 26) = W0 at *
    have hpe := unhideR HPe W0 (unhideR HB0)
    clear HPe
    refine hpe.mono ?_
    rintro e w1 ⟨rfl, k1⟩
    have HF2 := hideR (unhideR HF w1 (below_go (unhideR HB0) k1))
    clear HF hpe k1 HE0 HB0 HP
    go_wp2
    go_ret2
    exact unhideR HF2
  case pos =>
  have hok := pic_ok e0
  have HBad : HeldR (badR p s part → ∀ u, Below w.heap.size w u → RePost p s part w (.returned (.tuple #[.int .i64 0, .int .i64 5])) u) := hideR (fun q u k => re_none (by unfold reachE; rw [if_neg (by simpa using e0), if_pos q]) (by decide) k)
  have HNone : HeldR (¬ badR p s part → allV p s = 0 → ∀ u, Below w.heap.size w u → RePost p s part w (.returned (.tuple #[.int .i64 0, .int .i64 9])) u) := hideR (fun q z u k => re_none (by unfold reachE; rw [if_neg (by simpa using e0), if_neg q, if_pos z]) (by decide) k)
  have HFin : HeldR (¬ badR p s part → allV p s ≠ 0 → ∀ r u, IsReach p s part r → Below w.heap.size w u → RePost p s part w (.returned (.tuple #[.int .i64 r, .int .i64 0])) u) := hideR (fun q z r u hr k => by
    have e : reachE p s part = 0 := by unfold reachE; rw [if_neg (by simpa using e0), if_neg q, if_neg z]
    exact ⟨r, by rw [e], fun n => absurd e n, fun _ => hr, k⟩)
  have HOk := hideR hok
  rw [e0] at HPe
  clear hok hrg e0
  go_enter Tryz.func9, Tryz.ntmps9
  go_wp2_with fail
  generalize w.alloc (.cells #[.int .i64 s.le, .int .i64 s.tp, .int .i64 s.ri, .int .i64 s.lo, .int .i64 s.px, .int .i64 s.li, .int .i64 s.x, .int .i64 s.y, .int .i64 s.lt] 26) = W0 at *
  generalize w.heap.size = gs at *
  have hpe := unhideR HPe W0 (unhideR HB0)
  clear HPe
  refine hpe.mono ?_
  rintro e W1 ⟨rfl, k1⟩
  have HS : HeldR (SxAt W1 gs 0 s) := hideR ((unhideR HE0).below k1 hs0)
  have HB1 : HeldR (Below gs w W1) := hideR ((unhideR HB0).trans (k1.mono (Nat.le_of_lt hs0)))
  have hsz : gs < W1.heap.size := Nat.lt_of_lt_of_le hs0 k1.size
  clear hpe HE0 HB0 hs0 k1
  have hf1 := far_any s.x W1
  have hf2 := far_any s.y W1
  obtain ⟨d0, d1, d2, d3, d4, d5, d6, d7, d8⟩ := unhideR HS
  have cw := (unhideR HP W1 (unhideR HB1)).c0
  have ch := (unhideR HP W1 (unhideR HB1)).c1
  go_wp2_with fail
  refine hf1.mono ?_
  rintro e w9 ⟨rfl, rfl⟩
  go_wp2_with fail
  refine hf2.mono ?_
  rintro e W1 ⟨rfl, rfl⟩
  clear hf1 hf2
  go_upto_region 6 with fail
  go_cut [11] from 35 to 65 (fun s11 wx => HeldR (Below gs w wx) ∧ HeldR (gs < wx.heap.size) ∧ HeldR (SxAt wx gs 0 s) ∧ s11 = .bool (boxB p s))
  case' first =>
    by_cases g0 : 0 ≤ s.le
    case' pos =>
      have tg0 : decide (0 ≤ s.le) = true := decide_eq_true g0
      by_cases g1 : s.le ≤ s.ri
      case' pos =>
        have tg1 : decide (s.le ≤ s.ri) = true := decide_eq_true g1
        by_cases g2 : s.ri < p.wide
        case' pos =>
          have tg2 : decide (s.ri < p.wide) = true := decide_eq_true g2
          by_cases g3 : 0 ≤ s.tp
          case' pos =>
            have tg3 : decide (0 ≤ s.tp) = true := decide_eq_true g3
            by_cases g4 : s.tp ≤ s.lo
            case' pos =>
              have tg4 : decide (s.tp ≤ s.lo) = true := decide_eq_true g4
              refine wp_region_lets [(· = .pointer (some ⟨gs, 0, none⟩)), (· = .int .i64 s.le), (· = .bool true), (· = .bool true), (· = .pointer (some ⟨gs, 0, none⟩)), (· = .int .i64 s.le), (· = .pointer (some ⟨gs, 2, none⟩)), (· = .int .i64 s.ri), (· = .bool true), (· = .bool true), (· = .bool true), (· = .pointer (some ⟨gs, 2, none⟩)), (· = .int .i64 s.ri), (· = .pointer (some ⟨b, o, none⟩)), (· = .pointer (some ⟨b, o, none⟩)), (· = .pointer (some ⟨b, o, none⟩)), (· = .int .i64 p.wide), (· = .bool true), (· = .bool true), (· = .bool true), (· = .pointer (some ⟨gs, 1, none⟩)), (· = .int .i64 s.tp), (· = .bool true), (· = .bool true), (· = .bool true), (· = .pointer (some ⟨gs, 1, none⟩)), (· = .int .i64 s.tp), (· = .pointer (some ⟨gs, 3, none⟩)), (· = .int .i64 s.lo), (· = .bool true), (· = .bool true), (· = .bool true)] (by kernel_rfl) (by kernel_rfl) ?_
              refine lexL_step (fun K hK => ⟨by kernel_rfl, ⟨_, rfl⟩, fun n => ?_, fun v hv => ?_⟩)
              · go_simp
                exact lUpon_one
              subst hv
              go_simp
              refine hK _ ?_
              clear hK K
              refine lexL_step (fun K hK => ⟨by kernel_rfl, ⟨_, rfl⟩, fun n => ?_, fun v hv => ?_⟩)
              · go_simp
                exact lUpon_one
              subst hv
              go_simp
              refine hK _ ?_
              clear hK K
              refine lexL_step (fun K hK => ⟨by kernel_rfl, ⟨_, rfl⟩, fun n => ?_, fun v hv => ?_⟩)
              · go_simp
                exact lUpon_one
              subst hv
              go_simp
              refine hK _ ?_
              clear hK K
              refine lexL_step (fun K hK => ⟨by kernel_rfl, ⟨_, rfl⟩, fun n => ?_, fun v hv => ?_⟩)
              · go_simp
                exact lUpon_one
              subst hv
              go_simp
              refine hK _ ?_
              clear hK K
              refine lexL_step (fun K hK => ⟨by kernel_rfl, ⟨_, rfl⟩, fun n => ?_, fun v hv => ?_⟩)
              · go_simp
                exact lUpon_one
              subst hv
              go_simp
              refine hK _ ?_
              clear hK K
              refine lexL_step (fun K hK => ⟨by kernel_rfl, ⟨_, rfl⟩, fun n => ?_, fun v hv => ?_⟩)
              · go_simp
                exact lUpon_one
              subst hv
              go_simp
              refine hK _ ?_
              clear hK K
              refine lexL_step (fun K hK => ⟨by kernel_rfl, ⟨_, rfl⟩, fun n => ?_, fun v hv => ?_⟩)
              · go_simp
                exact lUpon_one
              subst hv
              go_simp
              refine hK _ ?_
              clear hK K
              refine lexL_step (fun K hK => ⟨by kernel_rfl, ⟨_, rfl⟩, fun n => ?_, fun v hv => ?_⟩)
              · go_simp
                exact lUpon_one
              subst hv
              go_simp
              refine hK _ ?_
              clear hK K
              refine lexL_step (fun K hK => ⟨by kernel_rfl, ⟨_, rfl⟩, fun n => ?_, fun v hv => ?_⟩)
              · go_simp
                exact lUpon_one
              subst hv
              go_simp
              refine hK _ ?_
              clear hK K
              refine lexL_step (fun K hK => ⟨by kernel_rfl, ⟨_, rfl⟩, fun n => ?_, fun v hv => ?_⟩)
              · go_simp
                exact lUpon_one
              subst hv
              go_simp
              refine hK _ ?_
              clear hK K
              refine lexL_step (fun K hK => ⟨by kernel_rfl, ⟨_, rfl⟩, fun n => ?_, fun v hv => ?_⟩)
              · go_simp
                exact lUpon_one
              subst hv
              go_simp
              refine hK _ ?_
              clear hK K
              refine lexL_step (fun K hK => ⟨by kernel_rfl, ⟨_, rfl⟩, fun n => ?_, fun v hv => ?_⟩)
              · go_simp
                exact lUpon_one
              subst hv
              go_simp
              refine hK _ ?_
              clear hK K
              refine lexL_step (fun K hK => ⟨by kernel_rfl, ⟨_, rfl⟩, fun n => ?_, fun v hv => ?_⟩)
              · go_simp
                exact lUpon_one
              subst hv
              go_simp
              refine hK _ ?_
              clear hK K
              refine lexL_step (fun K hK => ⟨by kernel_rfl, ⟨_, rfl⟩, fun n => ?_, fun v hv => ?_⟩)
              · go_simp
                exact lUpon_one
              subst hv
              go_simp
              refine hK _ ?_
              clear hK K
              refine lexL_step (fun K hK => ⟨by kernel_rfl, ⟨_, rfl⟩, fun n => ?_, fun v hv => ?_⟩)
              · go_simp
                exact lUpon_one
              subst hv
              go_simp
              refine hK _ ?_
              clear hK K
              refine lexL_step (fun K hK => ⟨by kernel_rfl, ⟨_, rfl⟩, fun n => ?_, fun v hv => ?_⟩)
              · go_simp
                exact lUpon_one
              subst hv
              go_simp
              refine hK _ ?_
              clear hK K
              refine lexL_step (fun K hK => ⟨by kernel_rfl, ⟨_, rfl⟩, fun n => ?_, fun v hv => ?_⟩)
              · go_simp
                exact lUpon_one
              subst hv
              go_simp
              refine hK _ ?_
              clear hK K
              refine lexL_step (fun K hK => ⟨by kernel_rfl, ⟨_, rfl⟩, fun n => ?_, fun v hv => ?_⟩)
              · go_simp
                exact lUpon_one
              subst hv
              go_simp
              refine hK _ ?_
              clear hK K
              refine lexL_step (fun K hK => ⟨by kernel_rfl, ⟨_, rfl⟩, fun n => ?_, fun v hv => ?_⟩)
              · go_simp
                exact lUpon_one
              subst hv
              go_simp
              refine hK _ ?_
              clear hK K
              refine lexL_step (fun K hK => ⟨by kernel_rfl, ⟨_, rfl⟩, fun n => ?_, fun v hv => ?_⟩)
              · go_simp
                exact lUpon_one
              subst hv
              go_simp
              refine hK _ ?_
              clear hK K
              refine lexL_step (fun K hK => ⟨by kernel_rfl, ⟨_, rfl⟩, fun n => ?_, fun v hv => ?_⟩)
              · go_simp
                exact lUpon_one
              subst hv
              go_simp
              refine hK _ ?_
              clear hK K
              refine lexL_step (fun K hK => ⟨by kernel_rfl, ⟨_, rfl⟩, fun n => ?_, fun v hv => ?_⟩)
              · go_simp
                exact lUpon_one
              subst hv
              go_simp
              refine hK _ ?_
              clear hK K
              refine lexL_step (fun K hK => ⟨by kernel_rfl, ⟨_, rfl⟩, fun n => ?_, fun v hv => ?_⟩)
              · go_simp
                exact lUpon_one
              subst hv
              go_simp
              refine hK _ ?_
              clear hK K
              refine lexL_step (fun K hK => ⟨by kernel_rfl, ⟨_, rfl⟩, fun n => ?_, fun v hv => ?_⟩)
              · go_simp
                exact lUpon_one
              subst hv
              go_simp
              refine hK _ ?_
              clear hK K
              refine lexL_step (fun K hK => ⟨by kernel_rfl, ⟨_, rfl⟩, fun n => ?_, fun v hv => ?_⟩)
              · go_simp
                exact lUpon_one
              subst hv
              go_simp
              refine hK _ ?_
              clear hK K
              refine lexL_step (fun K hK => ⟨by kernel_rfl, ⟨_, rfl⟩, fun n => ?_, fun v hv => ?_⟩)
              · go_simp
                exact lUpon_one
              subst hv
              go_simp
              refine hK _ ?_
              clear hK K
              refine lexL_step (fun K hK => ⟨by kernel_rfl, ⟨_, rfl⟩, fun n => ?_, fun v hv => ?_⟩)
              · go_simp
                exact lUpon_one
              subst hv
              go_simp
              refine hK _ ?_
              clear hK K
              refine lexL_step (fun K hK => ⟨by kernel_rfl, ⟨_, rfl⟩, fun n => ?_, fun v hv => ?_⟩)
              · go_simp
                exact lUpon_one
              subst hv
              go_simp
              refine hK _ ?_
              clear hK K
              refine lexL_step (fun K hK => ⟨by kernel_rfl, ⟨_, rfl⟩, fun n => ?_, fun v hv => ?_⟩)
              · go_simp
                exact lUpon_one
              subst hv
              go_simp
              refine hK _ ?_
              clear hK K
              refine lexL_step (fun K hK => ⟨by kernel_rfl, ⟨_, rfl⟩, fun n => ?_, fun v hv => ?_⟩)
              · go_simp
                exact lUpon_one
              subst hv
              go_simp
              refine hK _ ?_
              clear hK K
              refine lexL_step (fun K hK => ⟨by kernel_rfl, ⟨_, rfl⟩, fun n => ?_, fun v hv => ?_⟩)
              · go_simp
                exact lUpon_one
              subst hv
              go_simp
              refine hK _ ?_
              clear hK K
              refine lexL_step (fun K hK => ⟨by kernel_rfl, ⟨_, rfl⟩, fun n => ?_, fun v hv => ?_⟩)
              · go_simp
                exact lUpon_one
              subst hv
              go_simp
              refine hK _ ?_
              clear hK K
              refine lexL_end ?_
              intro n9
              have HB2 : HeldR (Below gs w (W1.drewN n9)) := hideR ((unhideR HB1).trans ((drawn_below W1 n9).mono (Nat.le_of_lt hsz)))
              have HS2 : HeldR (SxAt (W1.drewN n9) gs 0 s) := hideR ((unhideR HS).below (drawn_below W1 n9) hsz)
              have HZ2 : HeldR (gs < (W1.drewN n9).heap.size) := hideR hsz
              go_wp2_with fail
              go_meet
              exact ⟨HB2, HZ2, HS2, by rw [show boxB p s = true from decide_eq_true ⟨g0, g1, g2, g3, g4⟩]⟩
            case' neg =>
              have tg4 : decide (s.tp ≤ s.lo) = false := decide_eq_false g4
              refine wp_region_lets [(· = .pointer (some ⟨gs, 0, none⟩)), (· = .int .i64 s.le), (· = .bool true), (· = .bool true), (· = .pointer (some ⟨gs, 0, none⟩)), (· = .int .i64 s.le), (· = .pointer (some ⟨gs, 2, none⟩)), (· = .int .i64 s.ri), (· = .bool true), (· = .bool true), (· = .bool true), (· = .pointer (some ⟨gs, 2, none⟩)), (· = .int .i64 s.ri), (· = .pointer (some ⟨b, o, none⟩)), (· = .pointer (some ⟨b, o, none⟩)), (· = .pointer (some ⟨b, o, none⟩)), (· = .int .i64 p.wide), (· = .bool true), (· = .bool true), (· = .bool true), (· = .pointer (some ⟨gs, 1, none⟩)), (· = .int .i64 s.tp), (· = .bool true), (· = .bool true), (· = .bool true), (· = .pointer (some ⟨gs, 1, none⟩)), (· = .int .i64 s.tp), (· = .pointer (some ⟨gs, 3, none⟩)), (· = .int .i64 s.lo), (· = .bool false), (· = .bool false), (· = .bool false)] (by kernel_rfl) (by kernel_rfl) ?_
              refine lexL_step (fun K hK => ⟨by kernel_rfl, ⟨_, rfl⟩, fun n => ?_, fun v hv => ?_⟩)
              · go_simp
                exact lUpon_one
              subst hv
              go_simp
              refine hK _ ?_
              clear hK K
              refine lexL_step (fun K hK => ⟨by kernel_rfl, ⟨_, rfl⟩, fun n => ?_, fun v hv => ?_⟩)
              · go_simp
                exact lUpon_one
              subst hv
              go_simp
              refine hK _ ?_
              clear hK K
              refine lexL_step (fun K hK => ⟨by kernel_rfl, ⟨_, rfl⟩, fun n => ?_, fun v hv => ?_⟩)
              · go_simp
                exact lUpon_one
              subst hv
              go_simp
              refine hK _ ?_
              clear hK K
              refine lexL_step (fun K hK => ⟨by kernel_rfl, ⟨_, rfl⟩, fun n => ?_, fun v hv => ?_⟩)
              · go_simp
                exact lUpon_one
              subst hv
              go_simp
              refine hK _ ?_
              clear hK K
              refine lexL_step (fun K hK => ⟨by kernel_rfl, ⟨_, rfl⟩, fun n => ?_, fun v hv => ?_⟩)
              · go_simp
                exact lUpon_one
              subst hv
              go_simp
              refine hK _ ?_
              clear hK K
              refine lexL_step (fun K hK => ⟨by kernel_rfl, ⟨_, rfl⟩, fun n => ?_, fun v hv => ?_⟩)
              · go_simp
                exact lUpon_one
              subst hv
              go_simp
              refine hK _ ?_
              clear hK K
              refine lexL_step (fun K hK => ⟨by kernel_rfl, ⟨_, rfl⟩, fun n => ?_, fun v hv => ?_⟩)
              · go_simp
                exact lUpon_one
              subst hv
              go_simp
              refine hK _ ?_
              clear hK K
              refine lexL_step (fun K hK => ⟨by kernel_rfl, ⟨_, rfl⟩, fun n => ?_, fun v hv => ?_⟩)
              · go_simp
                exact lUpon_one
              subst hv
              go_simp
              refine hK _ ?_
              clear hK K
              refine lexL_step (fun K hK => ⟨by kernel_rfl, ⟨_, rfl⟩, fun n => ?_, fun v hv => ?_⟩)
              · go_simp
                exact lUpon_one
              subst hv
              go_simp
              refine hK _ ?_
              clear hK K
              refine lexL_step (fun K hK => ⟨by kernel_rfl, ⟨_, rfl⟩, fun n => ?_, fun v hv => ?_⟩)
              · go_simp
                exact lUpon_one
              subst hv
              go_simp
              refine hK _ ?_
              clear hK K
              refine lexL_step (fun K hK => ⟨by kernel_rfl, ⟨_, rfl⟩, fun n => ?_, fun v hv => ?_⟩)
              · go_simp
                exact lUpon_one
              subst hv
              go_simp
              refine hK _ ?_
              clear hK K
              refine lexL_step (fun K hK => ⟨by kernel_rfl, ⟨_, rfl⟩, fun n => ?_, fun v hv => ?_⟩)
              · go_simp
                exact lUpon_one
              subst hv
              go_simp
              refine hK _ ?_
              clear hK K
              refine lexL_step (fun K hK => ⟨by kernel_rfl, ⟨_, rfl⟩, fun n => ?_, fun v hv => ?_⟩)
              · go_simp
                exact lUpon_one
              subst hv
              go_simp
              refine hK _ ?_
              clear hK K
              refine lexL_step (fun K hK => ⟨by kernel_rfl, ⟨_, rfl⟩, fun n => ?_, fun v hv => ?_⟩)
              · go_simp
                exact lUpon_one
              subst hv
              go_simp
              refine hK _ ?_
              clear hK K
              refine lexL_step (fun K hK => ⟨by kernel_rfl, ⟨_, rfl⟩, fun n => ?_, fun v hv => ?_⟩)
              · go_simp
                exact lUpon_one
              subst hv
              go_simp
              refine hK _ ?_
              clear hK K
              refine lexL_step (fun K hK => ⟨by kernel_rfl, ⟨_, rfl⟩, fun n => ?_, fun v hv => ?_⟩)
              · go_simp
                exact lUpon_one
              subst hv
              go_simp
              refine hK _ ?_
              clear hK K
              refine lexL_step (fun K hK => ⟨by kernel_rfl, ⟨_, rfl⟩, fun n => ?_, fun v hv => ?_⟩)
              · go_simp
                exact lUpon_one
              subst hv
              go_simp
              refine hK _ ?_
              clear hK K
              refine lexL_step (fun K hK => ⟨by kernel_rfl, ⟨_, rfl⟩, fun n => ?_, fun v hv => ?_⟩)
              · go_simp
                exact lUpon_one
              subst hv
              go_simp
              refine hK _ ?_
              clear hK K
              refine lexL_step (fun K hK => ⟨by kernel_rfl, ⟨_, rfl⟩, fun n => ?_, fun v hv => ?_⟩)
              · go_simp
                exact lUpon_one
              subst hv
              go_simp
              refine hK _ ?_
              clear hK K
              refine lexL_step (fun K hK => ⟨by kernel_rfl, ⟨_, rfl⟩, fun n => ?_, fun v hv => ?_⟩)
              · go_simp
                exact lUpon_one
              subst hv
              go_simp
              refine hK _ ?_
              clear hK K
              refine lexL_step (fun K hK => ⟨by kernel_rfl, ⟨_, rfl⟩, fun n => ?_, fun v hv => ?_⟩)
              · go_simp
                exact lUpon_one
              subst hv
              go_simp
              refine hK _ ?_
              clear hK K
              refine lexL_step (fun K hK => ⟨by kernel_rfl, ⟨_, rfl⟩, fun n => ?_, fun v hv => ?_⟩)
              · go_simp
                exact lUpon_one
              subst hv
              go_simp
              refine hK _ ?_
              clear hK K
              refine lexL_step (fun K hK => ⟨by kernel_rfl, ⟨_, rfl⟩, fun n => ?_, fun v hv => ?_⟩)
              · go_simp
                exact lUpon_one
              subst hv
              go_simp
              refine hK _ ?_
              clear hK K
              refine lexL_step (fun K hK => ⟨by kernel_rfl, ⟨_, rfl⟩, fun n => ?_, fun v hv => ?_⟩)
              · go_simp
                exact lUpon_one
              subst hv
              go_simp
              refine hK _ ?_
              clear hK K
              refine lexL_step (fun K hK => ⟨by kernel_rfl, ⟨_, rfl⟩, fun n => ?_, fun v hv => ?_⟩)
              · go_simp
                exact lUpon_one
              subst hv
              go_simp
              refine hK _ ?_
              clear hK K
              refine lexL_step (fun K hK => ⟨by kernel_rfl, ⟨_, rfl⟩, fun n => ?_, fun v hv => ?_⟩)
              · go_simp
                exact lUpon_one
              subst hv
              go_simp
              refine hK _ ?_
              clear hK K
              refine lexL_step (fun K hK => ⟨by kernel_rfl, ⟨_, rfl⟩, fun n => ?_, fun v hv => ?_⟩)
              · go_simp
                exact lUpon_one
              subst hv
              go_simp
              refine hK _ ?_
              clear hK K
              refine lexL_step (fun K hK => ⟨by kernel_rfl, ⟨_, rfl⟩, fun n => ?_, fun v hv => ?_⟩)
              · go_simp
                exact lUpon_one
              subst hv
              go_simp
              refine hK _ ?_
              clear hK K
              refine lexL_step (fun K hK => ⟨by kernel_rfl, ⟨_, rfl⟩, fun n => ?_, fun v hv => ?_⟩)
              · go_simp
                exact lUpon_one
              subst hv
              go_simp
              refine hK _ ?_
              clear hK K
              refine lexL_step (fun K hK => ⟨by kernel_rfl, ⟨_, rfl⟩, fun n => ?_, fun v hv => ?_⟩)
              · go_simp
                exact lUpon_one
              subst hv
              go_simp
              refine hK _ ?_
              clear hK K
              refine lexL_step (fun K hK => ⟨by kernel_rfl, ⟨_, rfl⟩, fun n => ?_, fun v hv => ?_⟩)
              · go_simp
                exact lUpon_one
              subst hv
              go_simp
              refine hK _ ?_
              clear hK K
              refine lexL_step (fun K hK => ⟨by kernel_rfl, ⟨_, rfl⟩, fun n => ?_, fun v hv => ?_⟩)
              · go_simp
                exact lUpon_one
              subst hv
              go_simp
              refine hK _ ?_
              clear hK K
              refine lexL_end ?_
              intro n9
              have HB2 : HeldR (Below gs w (W1.drewN n9)) := hideR ((unhideR HB1).trans ((drawn_below W1 n9).mono (Nat.le_of_lt hsz)))
              have HS2 : HeldR (SxAt (W1.drewN n9) gs 0 s) := hideR ((unhideR HS).below (drawn_below W1 n9) hsz)
              have HZ2 : HeldR (gs < (W1.drewN n9).heap.size) := hideR hsz
              go_wp2_with fail
              go_meet
              exact ⟨HB2, HZ2, HS2, by rw [show boxB p s = false from decide_eq_false (by omega)]⟩
          case' neg =>
            have tg3 : decide (0 ≤ s.tp) = false := decide_eq_false g3
            refine wp_region_lets [(· = .pointer (some ⟨gs, 0, none⟩)), (· = .int .i64 s.le), (· = .bool true), (· = .bool true), (· = .pointer (some ⟨gs, 0, none⟩)), (· = .int .i64 s.le), (· = .pointer (some ⟨gs, 2, none⟩)), (· = .int .i64 s.ri), (· = .bool true), (· = .bool true), (· = .bool true), (· = .pointer (some ⟨gs, 2, none⟩)), (· = .int .i64 s.ri), (· = .pointer (some ⟨b, o, none⟩)), (· = .pointer (some ⟨b, o, none⟩)), (· = .pointer (some ⟨b, o, none⟩)), (· = .int .i64 p.wide), (· = .bool true), (· = .bool true), (· = .bool true), (· = .pointer (some ⟨gs, 1, none⟩)), (· = .int .i64 s.tp), (· = .bool false), (· = .bool false), (· = .bool false), (· = undef), (· = undef), (· = undef), (· = undef), (· = undef), (· = .bool false), (· = .bool false)] (by kernel_rfl) (by kernel_rfl) ?_
            refine lexL_step (fun K hK => ⟨by kernel_rfl, ⟨_, rfl⟩, fun n => ?_, fun v hv => ?_⟩)
            · go_simp
              exact lUpon_one
            subst hv
            go_simp
            refine hK _ ?_
            clear hK K
            refine lexL_step (fun K hK => ⟨by kernel_rfl, ⟨_, rfl⟩, fun n => ?_, fun v hv => ?_⟩)
            · go_simp
              exact lUpon_one
            subst hv
            go_simp
            refine hK _ ?_
            clear hK K
            refine lexL_step (fun K hK => ⟨by kernel_rfl, ⟨_, rfl⟩, fun n => ?_, fun v hv => ?_⟩)
            · go_simp
              exact lUpon_one
            subst hv
            go_simp
            refine hK _ ?_
            clear hK K
            refine lexL_step (fun K hK => ⟨by kernel_rfl, ⟨_, rfl⟩, fun n => ?_, fun v hv => ?_⟩)
            · go_simp
              exact lUpon_one
            subst hv
            go_simp
            refine hK _ ?_
            clear hK K
            refine lexL_step (fun K hK => ⟨by kernel_rfl, ⟨_, rfl⟩, fun n => ?_, fun v hv => ?_⟩)
            · go_simp
              exact lUpon_one
            subst hv
            go_simp
            refine hK _ ?_
            clear hK K
            refine lexL_step (fun K hK => ⟨by kernel_rfl, ⟨_, rfl⟩, fun n => ?_, fun v hv => ?_⟩)
            · go_simp
              exact lUpon_one
            subst hv
            go_simp
            refine hK _ ?_
            clear hK K
            refine lexL_step (fun K hK => ⟨by kernel_rfl, ⟨_, rfl⟩, fun n => ?_, fun v hv => ?_⟩)
            · go_simp
              exact lUpon_one
            subst hv
            go_simp
            refine hK _ ?_
            clear hK K
            refine lexL_step (fun K hK => ⟨by kernel_rfl, ⟨_, rfl⟩, fun n => ?_, fun v hv => ?_⟩)
            · go_simp
              exact lUpon_one
            subst hv
            go_simp
            refine hK _ ?_
            clear hK K
            refine lexL_step (fun K hK => ⟨by kernel_rfl, ⟨_, rfl⟩, fun n => ?_, fun v hv => ?_⟩)
            · go_simp
              exact lUpon_one
            subst hv
            go_simp
            refine hK _ ?_
            clear hK K
            refine lexL_step (fun K hK => ⟨by kernel_rfl, ⟨_, rfl⟩, fun n => ?_, fun v hv => ?_⟩)
            · go_simp
              exact lUpon_one
            subst hv
            go_simp
            refine hK _ ?_
            clear hK K
            refine lexL_step (fun K hK => ⟨by kernel_rfl, ⟨_, rfl⟩, fun n => ?_, fun v hv => ?_⟩)
            · go_simp
              exact lUpon_one
            subst hv
            go_simp
            refine hK _ ?_
            clear hK K
            refine lexL_step (fun K hK => ⟨by kernel_rfl, ⟨_, rfl⟩, fun n => ?_, fun v hv => ?_⟩)
            · go_simp
              exact lUpon_one
            subst hv
            go_simp
            refine hK _ ?_
            clear hK K
            refine lexL_step (fun K hK => ⟨by kernel_rfl, ⟨_, rfl⟩, fun n => ?_, fun v hv => ?_⟩)
            · go_simp
              exact lUpon_one
            subst hv
            go_simp
            refine hK _ ?_
            clear hK K
            refine lexL_step (fun K hK => ⟨by kernel_rfl, ⟨_, rfl⟩, fun n => ?_, fun v hv => ?_⟩)
            · go_simp
              exact lUpon_one
            subst hv
            go_simp
            refine hK _ ?_
            clear hK K
            refine lexL_step (fun K hK => ⟨by kernel_rfl, ⟨_, rfl⟩, fun n => ?_, fun v hv => ?_⟩)
            · go_simp
              exact lUpon_one
            subst hv
            go_simp
            refine hK _ ?_
            clear hK K
            refine lexL_step (fun K hK => ⟨by kernel_rfl, ⟨_, rfl⟩, fun n => ?_, fun v hv => ?_⟩)
            · go_simp
              exact lUpon_one
            subst hv
            go_simp
            refine hK _ ?_
            clear hK K
            refine lexL_step (fun K hK => ⟨by kernel_rfl, ⟨_, rfl⟩, fun n => ?_, fun v hv => ?_⟩)
            · go_simp
              exact lUpon_one
            subst hv
            go_simp
            refine hK _ ?_
            clear hK K
            refine lexL_step (fun K hK => ⟨by kernel_rfl, ⟨_, rfl⟩, fun n => ?_, fun v hv => ?_⟩)
            · go_simp
              exact lUpon_one
            subst hv
            go_simp
            refine hK _ ?_
            clear hK K
            refine lexL_step (fun K hK => ⟨by kernel_rfl, ⟨_, rfl⟩, fun n => ?_, fun v hv => ?_⟩)
            · go_simp
              exact lUpon_one
            subst hv
            go_simp
            refine hK _ ?_
            clear hK K
            refine lexL_step (fun K hK => ⟨by kernel_rfl, ⟨_, rfl⟩, fun n => ?_, fun v hv => ?_⟩)
            · go_simp
              exact lUpon_one
            subst hv
            go_simp
            refine hK _ ?_
            clear hK K
            refine lexL_step (fun K hK => ⟨by kernel_rfl, ⟨_, rfl⟩, fun n => ?_, fun v hv => ?_⟩)
            · go_simp
              exact lUpon_one
            subst hv
            go_simp
            refine hK _ ?_
            clear hK K
            refine lexL_step (fun K hK => ⟨by kernel_rfl, ⟨_, rfl⟩, fun n => ?_, fun v hv => ?_⟩)
            · go_simp
              exact lUpon_one
            subst hv
            go_simp
            refine hK _ ?_
            clear hK K
            refine lexL_step (fun K hK => ⟨by kernel_rfl, ⟨_, rfl⟩, fun n => ?_, fun v hv => ?_⟩)
            · go_simp
              exact lUpon_one
            subst hv
            go_simp
            refine hK _ ?_
            clear hK K
            refine lexL_step (fun K hK => ⟨by kernel_rfl, ⟨_, rfl⟩, fun n => ?_, fun v hv => ?_⟩)
            · go_simp
              exact lUpon_one
            subst hv
            go_simp
            refine hK _ ?_
            clear hK K
            refine lexL_step (fun K hK => ⟨by kernel_rfl, ⟨_, rfl⟩, fun n => ?_, fun v hv => ?_⟩)
            · go_simp
              exact lUpon_one
            subst hv
            go_simp
            refine hK _ ?_
            clear hK K
            refine lexL_skip (fun K hK => ⟨by kernel_rfl, ?_⟩)
            go_simp
            refine hK _ ?_
            clear hK K
            refine lexL_skip (fun K hK => ⟨by kernel_rfl, ?_⟩)
            go_simp
            refine hK _ ?_
            clear hK K
            refine lexL_skip (fun K hK => ⟨by kernel_rfl, ?_⟩)
            go_simp
            refine hK _ ?_
            clear hK K
            refine lexL_skip (fun K hK => ⟨by kernel_rfl, ?_⟩)
            go_simp
            refine hK _ ?_
            clear hK K
            refine lexL_skip (fun K hK => ⟨by kernel_rfl, ?_⟩)
            go_simp
            refine hK _ ?_
            clear hK K
            refine lexL_step (fun K hK => ⟨by kernel_rfl, ⟨_, rfl⟩, fun n => ?_, fun v hv => ?_⟩)
            · go_simp
              exact lUpon_one
            subst hv
            go_simp
            refine hK _ ?_
            clear hK K
            refine lexL_step (fun K hK => ⟨by kernel_rfl, ⟨_, rfl⟩, fun n => ?_, fun v hv => ?_⟩)
            · go_simp
              exact lUpon_one
            subst hv
            go_simp
            refine hK _ ?_
            clear hK K
            refine lexL_end ?_
            intro n9
            have HB2 : HeldR (Below gs w (W1.drewN n9)) := hideR ((unhideR HB1).trans ((drawn_below W1 n9).mono (Nat.le_of_lt hsz)))
            have HS2 : HeldR (SxAt (W1.drewN n9) gs 0 s) := hideR ((unhideR HS).below (drawn_below W1 n9) hsz)
            have HZ2 : HeldR (gs < (W1.drewN n9).heap.size) := hideR hsz
            go_wp2_with fail
            go_meet
            exact ⟨HB2, HZ2, HS2, by rw [show boxB p s = false from decide_eq_false (by omega)]⟩
        case' neg =>
          have tg2 : decide (s.ri < p.wide) = false := decide_eq_false g2
          refine wp_region_lets [(· = .pointer (some ⟨gs, 0, none⟩)), (· = .int .i64 s.le), (· = .bool true), (· = .bool true), (· = .pointer (some ⟨gs, 0, none⟩)), (· = .int .i64 s.le), (· = .pointer (some ⟨gs, 2, none⟩)), (· = .int .i64 s.ri), (· = .bool true), (· = .bool true), (· = .bool true), (· = .pointer (some ⟨gs, 2, none⟩)), (· = .int .i64 s.ri), (· = .pointer (some ⟨b, o, none⟩)), (· = .pointer (some ⟨b, o, none⟩)), (· = .pointer (some ⟨b, o, none⟩)), (· = .int .i64 p.wide), (· = .bool false), (· = .bool false), (· = .bool false), (· = undef), (· = undef), (· = undef), (· = .bool false), (· = .bool false), (· = undef), (· = undef), (· = undef), (· = undef), (· = undef), (· = .bool false), (· = .bool false)] (by kernel_rfl) (by kernel_rfl) ?_
          refine lexL_step (fun K hK => ⟨by kernel_rfl, ⟨_, rfl⟩, fun n => ?_, fun v hv => ?_⟩)
          · go_simp
            exact lUpon_one
          subst hv
          go_simp
          refine hK _ ?_
          clear hK K
          refine lexL_step (fun K hK => ⟨by kernel_rfl, ⟨_, rfl⟩, fun n => ?_, fun v hv => ?_⟩)
          · go_simp
            exact lUpon_one
          subst hv
          go_simp
          refine hK _ ?_
          clear hK K
          refine lexL_step (fun K hK => ⟨by kernel_rfl, ⟨_, rfl⟩, fun n => ?_, fun v hv => ?_⟩)
          · go_simp
            exact lUpon_one
          subst hv
          go_simp
          refine hK _ ?_
          clear hK K
          refine lexL_step (fun K hK => ⟨by kernel_rfl, ⟨_, rfl⟩, fun n => ?_, fun v hv => ?_⟩)
          · go_simp
            exact lUpon_one
          subst hv
          go_simp
          refine hK _ ?_
          clear hK K
          refine lexL_step (fun K hK => ⟨by kernel_rfl, ⟨_, rfl⟩, fun n => ?_, fun v hv => ?_⟩)
          · go_simp
            exact lUpon_one
          subst hv
          go_simp
          refine hK _ ?_
          clear hK K
          refine lexL_step (fun K hK => ⟨by kernel_rfl, ⟨_, rfl⟩, fun n => ?_, fun v hv => ?_⟩)
          · go_simp
            exact lUpon_one
          subst hv
          go_simp
          refine hK _ ?_
          clear hK K
          refine lexL_step (fun K hK => ⟨by kernel_rfl, ⟨_, rfl⟩, fun n => ?_, fun v hv => ?_⟩)
          · go_simp
            exact lUpon_one
          subst hv
          go_simp
          refine hK _ ?_
          clear hK K
          refine lexL_step (fun K hK => ⟨by kernel_rfl, ⟨_, rfl⟩, fun n => ?_, fun v hv => ?_⟩)
          · go_simp
            exact lUpon_one
          subst hv
          go_simp
          refine hK _ ?_
          clear hK K
          refine lexL_step (fun K hK => ⟨by kernel_rfl, ⟨_, rfl⟩, fun n => ?_, fun v hv => ?_⟩)
          · go_simp
            exact lUpon_one
          subst hv
          go_simp
          refine hK _ ?_
          clear hK K
          refine lexL_step (fun K hK => ⟨by kernel_rfl, ⟨_, rfl⟩, fun n => ?_, fun v hv => ?_⟩)
          · go_simp
            exact lUpon_one
          subst hv
          go_simp
          refine hK _ ?_
          clear hK K
          refine lexL_step (fun K hK => ⟨by kernel_rfl, ⟨_, rfl⟩, fun n => ?_, fun v hv => ?_⟩)
          · go_simp
            exact lUpon_one
          subst hv
          go_simp
          refine hK _ ?_
          clear hK K
          refine lexL_step (fun K hK => ⟨by kernel_rfl, ⟨_, rfl⟩, fun n => ?_, fun v hv => ?_⟩)
          · go_simp
            exact lUpon_one
          subst hv
          go_simp
          refine hK _ ?_
          clear hK K
          refine lexL_step (fun K hK => ⟨by kernel_rfl, ⟨_, rfl⟩, fun n => ?_, fun v hv => ?_⟩)
          · go_simp
            exact lUpon_one
          subst hv
          go_simp
          refine hK _ ?_
          clear hK K
          refine lexL_step (fun K hK => ⟨by kernel_rfl, ⟨_, rfl⟩, fun n => ?_, fun v hv => ?_⟩)
          · go_simp
            exact lUpon_one
          subst hv
          go_simp
          refine hK _ ?_
          clear hK K
          refine lexL_step (fun K hK => ⟨by kernel_rfl, ⟨_, rfl⟩, fun n => ?_, fun v hv => ?_⟩)
          · go_simp
            exact lUpon_one
          subst hv
          go_simp
          refine hK _ ?_
          clear hK K
          refine lexL_step (fun K hK => ⟨by kernel_rfl, ⟨_, rfl⟩, fun n => ?_, fun v hv => ?_⟩)
          · go_simp
            exact lUpon_one
          subst hv
          go_simp
          refine hK _ ?_
          clear hK K
          refine lexL_step (fun K hK => ⟨by kernel_rfl, ⟨_, rfl⟩, fun n => ?_, fun v hv => ?_⟩)
          · go_simp
            exact lUpon_one
          subst hv
          go_simp
          refine hK _ ?_
          clear hK K
          refine lexL_step (fun K hK => ⟨by kernel_rfl, ⟨_, rfl⟩, fun n => ?_, fun v hv => ?_⟩)
          · go_simp
            exact lUpon_one
          subst hv
          go_simp
          refine hK _ ?_
          clear hK K
          refine lexL_step (fun K hK => ⟨by kernel_rfl, ⟨_, rfl⟩, fun n => ?_, fun v hv => ?_⟩)
          · go_simp
            exact lUpon_one
          subst hv
          go_simp
          refine hK _ ?_
          clear hK K
          refine lexL_step (fun K hK => ⟨by kernel_rfl, ⟨_, rfl⟩, fun n => ?_, fun v hv => ?_⟩)
          · go_simp
            exact lUpon_one
          subst hv
          go_simp
          refine hK _ ?_
          clear hK K
          refine lexL_skip (fun K hK => ⟨by kernel_rfl, ?_⟩)
          go_simp
          refine hK _ ?_
          clear hK K
          refine lexL_skip (fun K hK => ⟨by kernel_rfl, ?_⟩)
          go_simp
          refine hK _ ?_
          clear hK K
          refine lexL_skip (fun K hK => ⟨by kernel_rfl, ?_⟩)
          go_simp
          refine hK _ ?_
          clear hK K
          refine lexL_step (fun K hK => ⟨by kernel_rfl, ⟨_, rfl⟩, fun n => ?_, fun v hv => ?_⟩)
          · go_simp
            exact lUpon_one
          subst hv
          go_simp
          refine hK _ ?_
          clear hK K
          refine lexL_step (fun K hK => ⟨by kernel_rfl, ⟨_, rfl⟩, fun n => ?_, fun v hv => ?_⟩)
          · go_simp
            exact lUpon_one
          subst hv
          go_simp
          refine hK _ ?_
          clear hK K
          refine lexL_skip (fun K hK => ⟨by kernel_rfl, ?_⟩)
          go_simp
          refine hK _ ?_
          clear hK K
          refine lexL_skip (fun K hK => ⟨by kernel_rfl, ?_⟩)
          go_simp
          refine hK _ ?_
          clear hK K
          refine lexL_skip (fun K hK => ⟨by kernel_rfl, ?_⟩)
          go_simp
          refine hK _ ?_
          clear hK K
          refine lexL_skip (fun K hK => ⟨by kernel_rfl, ?_⟩)
          go_simp
          refine hK _ ?_
          clear hK K
          refine lexL_skip (fun K hK => ⟨by kernel_rfl, ?_⟩)
          go_simp
          refine hK _ ?_
          clear hK K
          refine lexL_step (fun K hK => ⟨by kernel_rfl, ⟨_, rfl⟩, fun n => ?_, fun v hv => ?_⟩)
          · go_simp
            exact lUpon_one
          subst hv
          go_simp
          refine hK _ ?_
          clear hK K
          refine lexL_step (fun K hK => ⟨by kernel_rfl, ⟨_, rfl⟩, fun n => ?_, fun v hv => ?_⟩)
          · go_simp
            exact lUpon_one
          subst hv
          go_simp
          refine hK _ ?_
          clear hK K
          refine lexL_end ?_
          intro n9
          have HB2 : HeldR (Below gs w (W1.drewN n9)) := hideR ((unhideR HB1).trans ((drawn_below W1 n9).mono (Nat.le_of_lt hsz)))
          have HS2 : HeldR (SxAt (W1.drewN n9) gs 0 s) := hideR ((unhideR HS).below (drawn_below W1 n9) hsz)
          have HZ2 : HeldR (gs < (W1.drewN n9).heap.size) := hideR hsz
          go_wp2_with fail
          go_meet
          exact ⟨HB2, HZ2, HS2, by rw [show boxB p s = false from decide_eq_false (by omega)]⟩
      case' neg =>
        have tg1 : decide (s.le ≤ s.ri) = false := decide_eq_false g1
        refine wp_region_lets [(· = .pointer (some ⟨gs, 0, none⟩)), (· = .int .i64 s.le), (· = .bool true), (· = .bool true), (· = .pointer (some ⟨gs, 0, none⟩)), (· = .int .i64 s.le), (· = .pointer (some ⟨gs, 2, none⟩)), (· = .int .i64 s.ri), (· = .bool false), (· = .bool false), (· = .bool false), (· = undef), (· = undef), (· = undef), (· = undef), (· = undef), (· = undef), (· = undef), (· = .bool false), (· = .bool false), (· = undef), (· = undef), (· = undef), (· = .bool false), (· = .bool false), (· = undef), (· = undef), (· = undef), (· = undef), (· = undef), (· = .bool false), (· = .bool false)] (by kernel_rfl) (by kernel_rfl) ?_
        refine lexL_step (fun K hK => ⟨by kernel_rfl, ⟨_, rfl⟩, fun n => ?_, fun v hv => ?_⟩)
        · go_simp
          exact lUpon_one
        subst hv
        go_simp
        refine hK _ ?_
        clear hK K
        refine lexL_step (fun K hK => ⟨by kernel_rfl, ⟨_, rfl⟩, fun n => ?_, fun v hv => ?_⟩)
        · go_simp
          exact lUpon_one
        subst hv
        go_simp
        refine hK _ ?_
        clear hK K
        refine lexL_step (fun K hK => ⟨by kernel_rfl, ⟨_, rfl⟩, fun n => ?_, fun v hv => ?_⟩)
        · go_simp
          exact lUpon_one
        subst hv
        go_simp
        refine hK _ ?_
        clear hK K
        refine lexL_step (fun K hK => ⟨by kernel_rfl, ⟨_, rfl⟩, fun n => ?_, fun v hv => ?_⟩)
        · go_simp
          exact lUpon_one
        subst hv
        go_simp
        refine hK _ ?_
        clear hK K
        refine lexL_step (fun K hK => ⟨by kernel_rfl, ⟨_, rfl⟩, fun n => ?_, fun v hv => ?_⟩)
        · go_simp
          exact lUpon_one
        subst hv
        go_simp
        refine hK _ ?_
        clear hK K
        refine lexL_step (fun K hK => ⟨by kernel_rfl, ⟨_, rfl⟩, fun n => ?_, fun v hv => ?_⟩)
        · go_simp
          exact lUpon_one
        subst hv
        go_simp
        refine hK _ ?_
        clear hK K
        refine lexL_step (fun K hK => ⟨by kernel_rfl, ⟨_, rfl⟩, fun n => ?_, fun v hv => ?_⟩)
        · go_simp
          exact lUpon_one
        subst hv
        go_simp
        refine hK _ ?_
        clear hK K
        refine lexL_step (fun K hK => ⟨by kernel_rfl, ⟨_, rfl⟩, fun n => ?_, fun v hv => ?_⟩)
        · go_simp
          exact lUpon_one
        subst hv
        go_simp
        refine hK _ ?_
        clear hK K
        refine lexL_step (fun K hK => ⟨by kernel_rfl, ⟨_, rfl⟩, fun n => ?_, fun v hv => ?_⟩)
        · go_simp
          exact lUpon_one
        subst hv
        go_simp
        refine hK _ ?_
        clear hK K
        refine lexL_step (fun K hK => ⟨by kernel_rfl, ⟨_, rfl⟩, fun n => ?_, fun v hv => ?_⟩)
        · go_simp
          exact lUpon_one
        subst hv
        go_simp
        refine hK _ ?_
        clear hK K
        refine lexL_step (fun K hK => ⟨by kernel_rfl, ⟨_, rfl⟩, fun n => ?_, fun v hv => ?_⟩)
        · go_simp
          exact lUpon_one
        subst hv
        go_simp
        refine hK _ ?_
        clear hK K
        refine lexL_skip (fun K hK => ⟨by kernel_rfl, ?_⟩)
        go_simp
        refine hK _ ?_
        clear hK K
        refine lexL_skip (fun K hK => ⟨by kernel_rfl, ?_⟩)
        go_simp
        refine hK _ ?_
        clear hK K
        refine lexL_skip (fun K hK => ⟨by kernel_rfl, ?_⟩)
        go_simp
        refine hK _ ?_
        clear hK K
        refine lexL_skip (fun K hK => ⟨by kernel_rfl, ?_⟩)
        go_simp
        refine hK _ ?_
        clear hK K
        refine lexL_skip (fun K hK => ⟨by kernel_rfl, ?_⟩)
        go_simp
        refine hK _ ?_
        clear hK K
        refine lexL_skip (fun K hK => ⟨by kernel_rfl, ?_⟩)
        go_simp
        refine hK _ ?_
        clear hK K
        refine lexL_skip (fun K hK => ⟨by kernel_rfl, ?_⟩)
        go_simp
        refine hK _ ?_
        clear hK K
        refine lexL_step (fun K hK => ⟨by kernel_rfl, ⟨_, rfl⟩, fun n => ?_, fun v hv => ?_⟩)
        · go_simp
          exact lUpon_one
        subst hv
        go_simp
        refine hK _ ?_
        clear hK K
        refine lexL_step (fun K hK => ⟨by kernel_rfl, ⟨_, rfl⟩, fun n => ?_, fun v hv => ?_⟩)
        · go_simp
          exact lUpon_one
        subst hv
        go_simp
        refine hK _ ?_
        clear hK K
        refine lexL_skip (fun K hK => ⟨by kernel_rfl, ?_⟩)
        go_simp
        refine hK _ ?_
        clear hK K
        refine lexL_skip (fun K hK => ⟨by kernel_rfl, ?_⟩)
        go_simp
        refine hK _ ?_
        clear hK K
        refine lexL_skip (fun K hK => ⟨by kernel_rfl, ?_⟩)
        go_simp
        refine hK _ ?_
        clear hK K
        refine lexL_step (fun K hK => ⟨by kernel_rfl, ⟨_, rfl⟩, fun n => ?_, fun v hv => ?_⟩)
        · go_simp
          exact lUpon_one
        subst hv
        go_simp
        refine hK _ ?_
        clear hK K
        refine lexL_step (fun K hK => ⟨by kernel_rfl, ⟨_, rfl⟩, fun n => ?_, fun v hv => ?_⟩)
        · go_simp
          exact lUpon_one
        subst hv
        go_simp
        refine hK _ ?_
        clear hK K
        refine lexL_skip (fun K hK => ⟨by kernel_rfl, ?_⟩)
        go_simp
        refine hK _ ?_
        clear hK K
        refine lexL_skip (fun K hK => ⟨by kernel_rfl, ?_⟩)
        go_simp
        refine hK _ ?_
        clear hK K
        refine lexL_skip (fun K hK => ⟨by kernel_rfl, ?_⟩)
        go_simp
        refine hK _ ?_
        clear hK K
        refine lexL_skip (fun K hK => ⟨by kernel_rfl, ?_⟩)
        go_simp
        refine hK _ ?_
        clear hK K
        refine lexL_skip (fun K hK => ⟨by kernel_rfl, ?_⟩)
        go_simp
        refine hK _ ?_
        clear hK K
        refine lexL_step (fun K hK => ⟨by kernel_rfl, ⟨_, rfl⟩, fun n => ?_, fun v hv => ?_⟩)
        · go_simp
          exact lUpon_one
        subst hv
        go_simp
        refine hK _ ?_
        clear hK K
        refine lexL_step (fun K hK => ⟨by kernel_rfl, ⟨_, rfl⟩, fun n => ?_, fun v hv => ?_⟩)
        · go_simp
          exact lUpon_one
        subst hv
        go_simp
        refine hK _ ?_
        clear hK K
        refine lexL_end ?_
        intro n9
        have HB2 : HeldR (Below gs w (W1.drewN n9)) := hideR ((unhideR HB1).trans ((drawn_below W1 n9).mono (Nat.le_of_lt hsz)))
        have HS2 : HeldR (SxAt (W1.drewN n9) gs 0 s) := hideR ((unhideR HS).below (drawn_below W1 n9) hsz)
        have HZ2 : HeldR (gs < (W1.drewN n9).heap.size) := hideR hsz
        go_wp2_with fail
        go_meet
        exact ⟨HB2, HZ2, HS2, by rw [show boxB p s = false from decide_eq_false (by omega)]⟩
    case' neg =>
      have tg0 : decide (0 ≤ s.le) = false := decide_eq_false g0
      refine wp_region_lets [(· = .pointer (some ⟨gs, 0, none⟩)), (· = .int .i64 s.le), (· = .bool false), (· = .bool false), (· = undef), (· = undef), (· = undef), (· = undef), (· = undef), (· = .bool false), (· = .bool false), (· = undef), (· = undef), (· = undef), (· = undef), (· = undef), (· = undef), (· = undef), (· = .bool false), (· = .bool false), (· = undef), (· = undef), (· = undef), (· = .bool false), (· = .bool false), (· = undef), (· = undef), (· = undef), (· = undef), (· = undef), (· = .bool false), (· = .bool false)] (by kernel_rfl) (by kernel_rfl) ?_
      refine lexL_step (fun K hK => ⟨by kernel_rfl, ⟨_, rfl⟩, fun n => ?_, fun v hv => ?_⟩)
      · go_simp
        exact lUpon_one
      subst hv
      go_simp
      refine hK _ ?_
      clear hK K
      refine lexL_step (fun K hK => ⟨by kernel_rfl, ⟨_, rfl⟩, fun n => ?_, fun v hv => ?_⟩)
      · go_simp
        exact lUpon_one
      subst hv
      go_simp
      refine hK _ ?_
      clear hK K
      refine lexL_step (fun K hK => ⟨by kernel_rfl, ⟨_, rfl⟩, fun n => ?_, fun v hv => ?_⟩)
      · go_simp
        exact lUpon_one
      subst hv
      go_simp
      refine hK _ ?_
      clear hK K
      refine lexL_step (fun K hK => ⟨by kernel_rfl, ⟨_, rfl⟩, fun n => ?_, fun v hv => ?_⟩)
      · go_simp
        exact lUpon_one
      subst hv
      go_simp
      refine hK _ ?_
      clear hK K
      refine lexL_skip (fun K hK => ⟨by kernel_rfl, ?_⟩)
      go_simp
      refine hK _ ?_
      clear hK K
      refine lexL_skip (fun K hK => ⟨by kernel_rfl, ?_⟩)
      go_simp
      refine hK _ ?_
      clear hK K
      refine lexL_skip (fun K hK => ⟨by kernel_rfl, ?_⟩)
      go_simp
      refine hK _ ?_
      clear hK K
      refine lexL_skip (fun K hK => ⟨by kernel_rfl, ?_⟩)
      go_simp
      refine hK _ ?_
      clear hK K
      refine lexL_skip (fun K hK => ⟨by kernel_rfl, ?_⟩)
      go_simp
      refine hK _ ?_
      clear hK K
      refine lexL_step (fun K hK => ⟨by kernel_rfl, ⟨_, rfl⟩, fun n => ?_, fun v hv => ?_⟩)
      · go_simp
        exact lUpon_one
      subst hv
      go_simp
      refine hK _ ?_
      clear hK K
      refine lexL_step (fun K hK => ⟨by kernel_rfl, ⟨_, rfl⟩, fun n => ?_, fun v hv => ?_⟩)
      · go_simp
        exact lUpon_one
      subst hv
      go_simp
      refine hK _ ?_
      clear hK K
      refine lexL_skip (fun K hK => ⟨by kernel_rfl, ?_⟩)
      go_simp
      refine hK _ ?_
      clear hK K
      refine lexL_skip (fun K hK => ⟨by kernel_rfl, ?_⟩)
      go_simp
      refine hK _ ?_
      clear hK K
      refine lexL_skip (fun K hK => ⟨by kernel_rfl, ?_⟩)
      go_simp
      refine hK _ ?_
      clear hK K
      refine lexL_skip (fun K hK => ⟨by kernel_rfl, ?_⟩)
      go_simp
      refine hK _ ?_
      clear hK K
      refine lexL_skip (fun K hK => ⟨by kernel_rfl, ?_⟩)
      go_simp
      refine hK _ ?_
      clear hK K
      refine lexL_skip (fun K hK => ⟨by kernel_rfl, ?_⟩)
      go_simp
      refine hK _ ?_
      clear hK K
      refine lexL_skip (fun K hK => ⟨by kernel_rfl, ?_⟩)
      go_simp
      refine hK _ ?_
      clear hK K
      refine lexL_step (fun K hK => ⟨by kernel_rfl, ⟨_, rfl⟩, fun n => ?_, fun v hv => ?_⟩)
      · go_simp
        exact lUpon_one
      subst hv
      go_simp
      refine hK _ ?_
      clear hK K
      refine lexL_step (fun K hK => ⟨by kernel_rfl, ⟨_, rfl⟩, fun n => ?_, fun v hv => ?_⟩)
      · go_simp
        exact lUpon_one
      subst hv
      go_simp
      refine hK _ ?_
      clear hK K
      refine lexL_skip (fun K hK => ⟨by kernel_rfl, ?_⟩)
      go_simp
      refine hK _ ?_
      clear hK K
      refine lexL_skip (fun K hK => ⟨by kernel_rfl, ?_⟩)
      go_simp
      refine hK _ ?_
      clear hK K
      refine lexL_skip (fun K hK => ⟨by kernel_rfl, ?_⟩)
      go_simp
      refine hK _ ?_
      clear hK K
      refine lexL_step (fun K hK => ⟨by kernel_rfl, ⟨_, rfl⟩, fun n => ?_, fun v hv => ?_⟩)
      · go_simp
        exact lUpon_one
      subst hv
      go_simp
      refine hK _ ?_
      clear hK K
      refine lexL_step (fun K hK => ⟨by kernel_rfl, ⟨_, rfl⟩, fun n => ?_, fun v hv => ?_⟩)
      · go_simp
        exact lUpon_one
      subst hv
      go_simp
      refine hK _ ?_
      clear hK K
      refine lexL_skip (fun K hK => ⟨by kernel_rfl, ?_⟩)
      go_simp
      refine hK _ ?_
      clear hK K
      refine lexL_skip (fun K hK => ⟨by kernel_rfl, ?_⟩)
      go_simp
      refine hK _ ?_
      clear hK K
      refine lexL_skip (fun K hK => ⟨by kernel_rfl, ?_⟩)
      go_simp
      refine hK _ ?_
      clear hK K
      refine lexL_skip (fun K hK => ⟨by kernel_rfl, ?_⟩)
      go_simp
      refine hK _ ?_
      clear hK K
      refine lexL_skip (fun K hK => ⟨by kernel_rfl, ?_⟩)
      go_simp
      refine hK _ ?_
      clear hK K
      refine lexL_step (fun K hK => ⟨by kernel_rfl, ⟨_, rfl⟩, fun n => ?_, fun v hv => ?_⟩)
      · go_simp
        exact lUpon_one
      subst hv
      go_simp
      refine hK _ ?_
      clear hK K
      refine lexL_step (fun K hK => ⟨by kernel_rfl, ⟨_, rfl⟩, fun n => ?_, fun v hv => ?_⟩)
      · go_simp
        exact lUpon_one
      subst hv
      go_simp
      refine hK _ ?_
      clear hK K
      refine lexL_end ?_
      intro n9
      have HB2 : HeldR (Below gs w (W1.drewN n9)) := hideR ((unhideR HB1).trans ((drawn_below W1 n9).mono (Nat.le_of_lt hsz)))
      have HS2 : HeldR (SxAt (W1.drewN n9) gs 0 s) := hideR ((unhideR HS).below (drawn_below W1 n9) hsz)
      have HZ2 : HeldR (gs < (W1.drewN n9).heap.size) := hideR hsz
      go_wp2_with fail
      go_meet
      exact ⟨HB2, HZ2, HS2, by rw [show boxB p s = false from decide_eq_false (by omega)]⟩
  obtain ⟨HB2, HZ2, HS2, rfl⟩ := hcut
  clear d0 d1 d2 d3 d4 d5 d6 d7 d8 cw ch HS HB1 hsz
  obtain ⟨d0, d1, d2, d3, d4, d5, d6, d7, d8⟩ := unhideR HS2
  have cw := (unhideR HP wc (unhideR HB2)).c0
  have ch := (unhideR HP wc (unhideR HB2)).c1
  obtain ⟨bx, hbx⟩ : ∃ bx, boxB p s = bx := ⟨_, rfl⟩
  obtain ⟨fx, hfx⟩ : ∃ fx, farB s.x = fx := ⟨_, rfl⟩
  obtain ⟨fy, hfy⟩ : ∃ fy, farB s.y = fy := ⟨_, rfl⟩
  rw [hbx, hfx, hfy]
  have Hbx := hideR hbx
  have Hfx := hideR hfx
  have Hfy := hideR hfy
  clear hbx hfx hfy
  go_upto_region 7 with fail
  go_cut [90] from 66 to 89 (fun s90 wx => HeldR (Below gs w wx) ∧ HeldR (gs < wx.heap.size) ∧ HeldR (SxAt wx gs 0 s) ∧ s90 = .bool (decide (badR p s part)))
  case' first =>
    by_cases g0 : part < 1
    case' pos =>
      have tg0 : decide (part < 1) = true := decide_eq_true g0
      have HBd : HeldR (badR p s part) := hideR (.inl g0)
      refine wp_region_lets [(· = .int .i64 part), (· = .bool true), (· = .bool true), (· = undef), (· = undef), (· = .bool true), (· = .bool true), (· = undef), (· = undef), (· = .bool true), (· = .bool true), (· = undef), (· = undef), (· = undef), (· = undef), (· = undef), (· = undef), (· = undef), (· = .bool true), (· = .bool true), (· = undef), (· = .bool true), (· = .bool true), (· = undef), (· = .bool true)] (by kernel_rfl) (by kernel_rfl) ?_
      refine lexL_step (fun K hK => ⟨by kernel_rfl, ⟨_, rfl⟩, fun n => ?_, fun v hv => ?_⟩)
      · go_simp
        exact lUpon_one
      subst hv
      go_simp
      refine hK _ ?_
      clear hK K
      refine lexL_step (fun K hK => ⟨by kernel_rfl, ⟨_, rfl⟩, fun n => ?_, fun v hv => ?_⟩)
      · go_simp
        exact lUpon_one
      subst hv
      go_simp
      refine hK _ ?_
      clear hK K
      refine lexL_step (fun K hK => ⟨by kernel_rfl, ⟨_, rfl⟩, fun n => ?_, fun v hv => ?_⟩)
      · go_simp
        exact lUpon_one
      subst hv
      go_simp
      refine hK _ ?_
      clear hK K
      refine lexL_skip (fun K hK => ⟨by kernel_rfl, ?_⟩)
      go_simp
      refine hK _ ?_
      clear hK K
      refine lexL_skip (fun K hK => ⟨by kernel_rfl, ?_⟩)
      go_simp
      refine hK _ ?_
      clear hK K
      refine lexL_step (fun K hK => ⟨by kernel_rfl, ⟨_, rfl⟩, fun n => ?_, fun v hv => ?_⟩)
      · go_simp
        exact lUpon_one
      subst hv
      go_simp
      refine hK _ ?_
      clear hK K
      refine lexL_step (fun K hK => ⟨by kernel_rfl, ⟨_, rfl⟩, fun n => ?_, fun v hv => ?_⟩)
      · go_simp
        exact lUpon_one
      subst hv
      go_simp
      refine hK _ ?_
      clear hK K
      refine lexL_skip (fun K hK => ⟨by kernel_rfl, ?_⟩)
      go_simp
      refine hK _ ?_
      clear hK K
      refine lexL_skip (fun K hK => ⟨by kernel_rfl, ?_⟩)
      go_simp
      refine hK _ ?_
      clear hK K
      refine lexL_step (fun K hK => ⟨by kernel_rfl, ⟨_, rfl⟩, fun n => ?_, fun v hv => ?_⟩)
      · go_simp
        exact lUpon_one
      subst hv
      go_simp
      refine hK _ ?_
      clear hK K
      refine lexL_step (fun K hK => ⟨by kernel_rfl, ⟨_, rfl⟩, fun n => ?_, fun v hv => ?_⟩)
      · go_simp
        exact lUpon_one
      subst hv
      go_simp
      refine hK _ ?_
      clear hK K
      refine lexL_skip (fun K hK => ⟨by kernel_rfl, ?_⟩)
      go_simp
      refine hK _ ?_
      clear hK K
      refine lexL_skip (fun K hK => ⟨by kernel_rfl, ?_⟩)
      go_simp
      refine hK _ ?_
      clear hK K
      refine lexL_skip (fun K hK => ⟨by kernel_rfl, ?_⟩)
      go_simp
      refine hK _ ?_
      clear hK K
      refine lexL_skip (fun K hK => ⟨by kernel_rfl, ?_⟩)
      go_simp
      refine hK _ ?_
      clear hK K
      refine lexL_skip (fun K hK => ⟨by kernel_rfl, ?_⟩)
      go_simp
      refine hK _ ?_
      clear hK K
      refine lexL_skip (fun K hK => ⟨by kernel_rfl, ?_⟩)
      go_simp
      refine hK _ ?_
      clear hK K
      refine lexL_skip (fun K hK => ⟨by kernel_rfl, ?_⟩)
      go_simp
      refine hK _ ?_
      clear hK K
      refine lexL_step (fun K hK => ⟨by kernel_rfl, ⟨_, rfl⟩, fun n => ?_, fun v hv => ?_⟩)
      · go_simp
        exact lUpon_one
      subst hv
      go_simp
      refine hK _ ?_
      clear hK K
      refine lexL_step (fun K hK => ⟨by kernel_rfl, ⟨_, rfl⟩, fun n => ?_, fun v hv => ?_⟩)
      · go_simp
        exact lUpon_one
      subst hv
      go_simp
      refine hK _ ?_
      clear hK K
      refine lexL_skip (fun K hK => ⟨by kernel_rfl, ?_⟩)
      go_simp
      refine hK _ ?_
      clear hK K
      refine lexL_step (fun K hK => ⟨by kernel_rfl, ⟨_, rfl⟩, fun n => ?_, fun v hv => ?_⟩)
      · go_simp
        exact lUpon_one
      subst hv
      go_simp
      refine hK _ ?_
      clear hK K
      refine lexL_step (fun K hK => ⟨by kernel_rfl, ⟨_, rfl⟩, fun n => ?_, fun v hv => ?_⟩)
      · go_simp
        exact lUpon_one
      subst hv
      go_simp
      refine hK _ ?_
      clear hK K
      refine lexL_skip (fun K hK => ⟨by kernel_rfl, ?_⟩)
      go_simp
      refine hK _ ?_
      clear hK K
      refine lexL_step (fun K hK => ⟨by kernel_rfl, ⟨_, rfl⟩, fun n => ?_, fun v hv => ?_⟩)
      · go_simp
        exact lUpon_one
      subst hv
      go_simp
      refine hK _ ?_
      clear hK K
      refine lexL_end ?_
      intro n9
      have HB3 : HeldR (Below gs w (wc.drewN n9)) := hideR ((unhideR HB2).trans ((drawn_below wc n9).mono (Nat.le_of_lt (unhideR HZ2))))
      have HS3 : HeldR (SxAt (wc.drewN n9) gs 0 s) := hideR ((unhideR HS2).below (drawn_below wc n9) (unhideR HZ2))
      have HZ3 : HeldR (gs < (wc.drewN n9).heap.size) := hideR (unhideR HZ2)
      go_wp2_with fail
      go_meet
      exact ⟨HB3, HZ3, HS3, by rw [show decide (badR p s part) = true from decide_eq_true (unhideR HBd)]⟩
    case' neg =>
      have tg0 : decide (part < 1) = false := decide_eq_false g0
      by_cases g1 : 100 < part
      case' pos =>
        have tg1 : decide (100 < part) = true := decide_eq_true g1
        have HBd : HeldR (badR p s part) := hideR (.inr (.inl g1))
        refine wp_region_lets [(· = .int .i64 part), (· = .bool false), (· = .bool false), (· = .int .i64 part), (· = .bool true), (· = .bool true), (· = .bool true), (· = undef), (· = undef), (· = .bool true), (· = .bool true), (· = undef), (· = undef), (· = undef), (· = undef), (· = undef), (· = undef), (· = undef), (· = .bool true), (· = .bool true), (· = undef), (· = .bool true), (· = .bool true), (· = undef), (· = .bool true)] (by kernel_rfl) (by kernel_rfl) ?_
        refine lexL_step (fun K hK => ⟨by kernel_rfl, ⟨_, rfl⟩, fun n => ?_, fun v hv => ?_⟩)
        · go_simp
          exact lUpon_one
        subst hv
        go_simp
        refine hK _ ?_
        clear hK K
        refine lexL_step (fun K hK => ⟨by kernel_rfl, ⟨_, rfl⟩, fun n => ?_, fun v hv => ?_⟩)
        · go_simp
          exact lUpon_one
        subst hv
        go_simp
        refine hK _ ?_
        clear hK K
        refine lexL_step (fun K hK => ⟨by kernel_rfl, ⟨_, rfl⟩, fun n => ?_, fun v hv => ?_⟩)
        · go_simp
          exact lUpon_one
        subst hv
        go_simp
        refine hK _ ?_
        clear hK K
        refine lexL_step (fun K hK => ⟨by kernel_rfl, ⟨_, rfl⟩, fun n => ?_, fun v hv => ?_⟩)
        · go_simp
          exact lUpon_one
        subst hv
        go_simp
        refine hK _ ?_
        clear hK K
        refine lexL_step (fun K hK => ⟨by kernel_rfl, ⟨_, rfl⟩, fun n => ?_, fun v hv => ?_⟩)
        · go_simp
          exact lUpon_one
        subst hv
        go_simp
        refine hK _ ?_
        clear hK K
        refine lexL_step (fun K hK => ⟨by kernel_rfl, ⟨_, rfl⟩, fun n => ?_, fun v hv => ?_⟩)
        · go_simp
          exact lUpon_one
        subst hv
        go_simp
        refine hK _ ?_
        clear hK K
        refine lexL_step (fun K hK => ⟨by kernel_rfl, ⟨_, rfl⟩, fun n => ?_, fun v hv => ?_⟩)
        · go_simp
          exact lUpon_one
        subst hv
        go_simp
        refine hK _ ?_
        clear hK K
        refine lexL_skip (fun K hK => ⟨by kernel_rfl, ?_⟩)
        go_simp
        refine hK _ ?_
        clear hK K
        refine lexL_skip (fun K hK => ⟨by kernel_rfl, ?_⟩)
        go_simp
        refine hK _ ?_
        clear hK K
        refine lexL_step (fun K hK => ⟨by kernel_rfl, ⟨_, rfl⟩, fun n => ?_, fun v hv => ?_⟩)
        · go_simp
          exact lUpon_one
        subst hv
        go_simp
        refine hK _ ?_
        clear hK K
        refine lexL_step (fun K hK => ⟨by kernel_rfl, ⟨_, rfl⟩, fun n => ?_, fun v hv => ?_⟩)
        · go_simp
          exact lUpon_one
        subst hv
        go_simp
        refine hK _ ?_
        clear hK K
        refine lexL_skip (fun K hK => ⟨by kernel_rfl, ?_⟩)
        go_simp
        refine hK _ ?_
        clear hK K
        refine lexL_skip (fun K hK => ⟨by kernel_rfl, ?_⟩)
        go_simp
        refine hK _ ?_
        clear hK K
        refine lexL_skip (fun K hK => ⟨by kernel_rfl, ?_⟩)
        go_simp
        refine hK _ ?_
        clear hK K
        refine lexL_skip (fun K hK => ⟨by kernel_rfl, ?_⟩)
        go_simp
        refine hK _ ?_
        clear hK K
        refine lexL_skip (fun K hK => ⟨by kernel_rfl, ?_⟩)
        go_simp
        refine hK _ ?_
        clear hK K
        refine lexL_skip (fun K hK => ⟨by kernel_rfl, ?_⟩)
        go_simp
        refine hK _ ?_
        clear hK K
        refine lexL_skip (fun K hK => ⟨by kernel_rfl, ?_⟩)
        go_simp
        refine hK _ ?_
        clear hK K
        refine lexL_step (fun K hK => ⟨by kernel_rfl, ⟨_, rfl⟩, fun n => ?_, fun v hv => ?_⟩)
        · go_simp
          exact lUpon_one
        subst hv
        go_simp
        refine hK _ ?_
        clear hK K
        refine lexL_step (fun K hK => ⟨by kernel_rfl, ⟨_, rfl⟩, fun n => ?_, fun v hv => ?_⟩)
        · go_simp
          exact lUpon_one
        subst hv
        go_simp
        refine hK _ ?_
        clear hK K
        refine lexL_skip (fun K hK => ⟨by kernel_rfl, ?_⟩)
        go_simp
        refine hK _ ?_
        clear hK K
        refine lexL_step (fun K hK => ⟨by kernel_rfl, ⟨_, rfl⟩, fun n => ?_, fun v hv => ?_⟩)
        · go_simp
          exact lUpon_one
        subst hv
        go_simp
        refine hK _ ?_
        clear hK K
        refine lexL_step (fun K hK => ⟨by kernel_rfl, ⟨_, rfl⟩, fun n => ?_, fun v hv => ?_⟩)
        · go_simp
          exact lUpon_one
        subst hv
        go_simp
        refine hK _ ?_
        clear hK K
        refine lexL_skip (fun K hK => ⟨by kernel_rfl, ?_⟩)
        go_simp
        refine hK _ ?_
        clear hK K
        refine lexL_step (fun K hK => ⟨by kernel_rfl, ⟨_, rfl⟩, fun n => ?_, fun v hv => ?_⟩)
        · go_simp
          exact lUpon_one
        subst hv
        go_simp
        refine hK _ ?_
        clear hK K
        refine lexL_end ?_
        intro n9
        have HB3 : HeldR (Below gs w (wc.drewN n9)) := hideR ((unhideR HB2).trans ((drawn_below wc n9).mono (Nat.le_of_lt (unhideR HZ2))))
        have HS3 : HeldR (SxAt (wc.drewN n9) gs 0 s) := hideR ((unhideR HS2).below (drawn_below wc n9) (unhideR HZ2))
        have HZ3 : HeldR (gs < (wc.drewN n9).heap.size) := hideR (unhideR HZ2)
        go_wp2_with fail
        go_meet
        exact ⟨HB3, HZ3, HS3, by rw [show decide (badR p s part) = true from decide_eq_true (unhideR HBd)]⟩
      case' neg =>
        have tg1 : decide (100 < part) = false := decide_eq_false g1
        cases bx
        case' false =>
          have HBd : HeldR (badR p s part) := hideR (.inr (.inr (.inl (unhideR Hbx))))
          refine wp_region_lets [(· = .int .i64 part), (· = .bool false), (· = .bool false), (· = .int .i64 part), (· = .bool false), (· = .bool false), (· = .bool false), (· = .bool false), (· = .bool true), (· = .bool true), (· = .bool true), (· = undef), (· = undef), (· = undef), (· = undef), (· = undef), (· = undef), (· = undef), (· = .bool true), (· = .bool true), (· = undef), (· = .bool true), (· = .bool true), (· = undef), (· = .bool true)] (by kernel_rfl) (by kernel_rfl) ?_
          refine lexL_step (fun K hK => ⟨by kernel_rfl, ⟨_, rfl⟩, fun n => ?_, fun v hv => ?_⟩)
          · go_simp
            exact lUpon_one
          subst hv
          go_simp
          refine hK _ ?_
          clear hK K
          refine lexL_step (fun K hK => ⟨by kernel_rfl, ⟨_, rfl⟩, fun n => ?_, fun v hv => ?_⟩)
          · go_simp
            exact lUpon_one
          subst hv
          go_simp
          refine hK _ ?_
          clear hK K
          refine lexL_step (fun K hK => ⟨by kernel_rfl, ⟨_, rfl⟩, fun n => ?_, fun v hv => ?_⟩)
          · go_simp
            exact lUpon_one
          subst hv
          go_simp
          refine hK _ ?_
          clear hK K
          refine lexL_step (fun K hK => ⟨by kernel_rfl, ⟨_, rfl⟩, fun n => ?_, fun v hv => ?_⟩)
          · go_simp
            exact lUpon_one
          subst hv
          go_simp
          refine hK _ ?_
          clear hK K
          refine lexL_step (fun K hK => ⟨by kernel_rfl, ⟨_, rfl⟩, fun n => ?_, fun v hv => ?_⟩)
          · go_simp
            exact lUpon_one
          subst hv
          go_simp
          refine hK _ ?_
          clear hK K
          refine lexL_step (fun K hK => ⟨by kernel_rfl, ⟨_, rfl⟩, fun n => ?_, fun v hv => ?_⟩)
          · go_simp
            exact lUpon_one
          subst hv
          go_simp
          refine hK _ ?_
          clear hK K
          refine lexL_step (fun K hK => ⟨by kernel_rfl, ⟨_, rfl⟩, fun n => ?_, fun v hv => ?_⟩)
          · go_simp
            exact lUpon_one
          subst hv
          go_simp
          refine hK _ ?_
          clear hK K
          refine lexL_step (fun K hK => ⟨by kernel_rfl, ⟨_, rfl⟩, fun n => ?_, fun v hv => ?_⟩)
          · go_simp
            exact lUpon_one
          subst hv
          go_simp
          refine hK _ ?_
          clear hK K
          refine lexL_step (fun K hK => ⟨by kernel_rfl, ⟨_, rfl⟩, fun n => ?_, fun v hv => ?_⟩)
          · go_simp
            exact lUpon_one
          subst hv
          go_simp
          refine hK _ ?_
          clear hK K
          refine lexL_step (fun K hK => ⟨by kernel_rfl, ⟨_, rfl⟩, fun n => ?_, fun v hv => ?_⟩)
          · go_simp
            exact lUpon_one
          subst hv
          go_simp
          refine hK _ ?_
          clear hK K
          refine lexL_step (fun K hK => ⟨by kernel_rfl, ⟨_, rfl⟩, fun n => ?_, fun v hv => ?_⟩)
          · go_simp
            exact lUpon_one
          subst hv
          go_simp
          refine hK _ ?_
          clear hK K
          refine lexL_skip (fun K hK => ⟨by kernel_rfl, ?_⟩)
          go_simp
          refine hK _ ?_
          clear hK K
          refine lexL_skip (fun K hK => ⟨by kernel_rfl, ?_⟩)
          go_simp
          refine hK _ ?_
          clear hK K
          refine lexL_skip (fun K hK => ⟨by kernel_rfl, ?_⟩)
          go_simp
          refine hK _ ?_
          clear hK K
          refine lexL_skip (fun K hK => ⟨by kernel_rfl, ?_⟩)
          go_simp
          refine hK _ ?_
          clear hK K
          refine lexL_skip (fun K hK => ⟨by kernel_rfl, ?_⟩)
          go_simp
          refine hK _ ?_
          clear hK K
          refine lexL_skip (fun K hK => ⟨by kernel_rfl, ?_⟩)
          go_simp
          refine hK _ ?_
          clear hK K
          refine lexL_skip (fun K hK => ⟨by kernel_rfl, ?_⟩)
          go_simp
          refine hK _ ?_
          clear hK K
          refine lexL_step (fun K hK => ⟨by kernel_rfl, ⟨_, rfl⟩, fun n => ?_, fun v hv => ?_⟩)
          · go_simp
            exact lUpon_one
          subst hv
          go_simp
          refine hK _ ?_
          clear hK K
          refine lexL_step (fun K hK => ⟨by kernel_rfl, ⟨_, rfl⟩, fun n => ?_, fun v hv => ?_⟩)
          · go_simp
            exact lUpon_one
          subst hv
          go_simp
          refine hK _ ?_
          clear hK K
          refine lexL_skip (fun K hK => ⟨by kernel_rfl, ?_⟩)
          go_simp
          refine hK _ ?_
          clear hK K
          refine lexL_step (fun K hK => ⟨by kernel_rfl, ⟨_, rfl⟩, fun n => ?_, fun v hv => ?_⟩)
          · go_simp
            exact lUpon_one
          subst hv
          go_simp
          refine hK _ ?_
          clear hK K
          refine lexL_step (fun K hK => ⟨by kernel_rfl, ⟨_, rfl⟩, fun n => ?_, fun v hv => ?_⟩)
          · go_simp
            exact lUpon_one
          subst hv
          go_simp
          refine hK _ ?_
          clear hK K
          refine lexL_skip (fun K hK => ⟨by kernel_rfl, ?_⟩)
          go_simp
          refine hK _ ?_
          clear hK K
          refine lexL_step (fun K hK => ⟨by kernel_rfl, ⟨_, rfl⟩, fun n => ?_, fun v hv => ?_⟩)
          · go_simp
            exact lUpon_one
          subst hv
          go_simp
          refine hK _ ?_
          clear hK K
          refine lexL_end ?_
          intro n9
          have HB3 : HeldR (Below gs w (wc.drewN n9)) := hideR ((unhideR HB2).trans ((drawn_below wc n9).mono (Nat.le_of_lt (unhideR HZ2))))
          have HS3 : HeldR (SxAt (wc.drewN n9) gs 0 s) := hideR ((unhideR HS2).below (drawn_below wc n9) (unhideR HZ2))
          have HZ3 : HeldR (gs < (wc.drewN n9).heap.size) := hideR (unhideR HZ2)
          go_wp2_with fail
          go_meet
          exact ⟨HB3, HZ3, HS3, by rw [show decide (badR p s part) = true from decide_eq_true (unhideR HBd)]⟩
        case' true =>
          by_cases g3 : p.high ≤ s.lo
          case' pos =>
            have tg3 : decide (p.high ≤ s.lo) = true := decide_eq_true g3
            have HBd : HeldR (badR p s part) := hideR (.inr (.inr (.inr (.inl g3))))
            refine wp_region_lets [(· = .int .i64 part), (· = .bool false), (· = .bool false), (· = .int .i64 part), (· = .bool false), (· = .bool false), (· = .bool false), (· = .bool true), (· = .bool false), (· = .bool false), (· = .bool false), (· = .pointer (some ⟨gs, 3, none⟩)), (· = .int .i64 s.lo), (· = .pointer (some ⟨b, o, none⟩)), (· = .pointer (some ⟨b, o, none⟩)), (· = .pointer (some ⟨b, o + 1, none⟩)), (· = .int .i64 p.high), (· = .bool true), (· = .bool true), (· = .bool true), (· = undef), (· = .bool true), (· = .bool true), (· = undef), (· = .bool true)] (by kernel_rfl) (by kernel_rfl) ?_
            refine lexL_step (fun K hK => ⟨by kernel_rfl, ⟨_, rfl⟩, fun n => ?_, fun v hv => ?_⟩)
            · go_simp
              exact lUpon_one
            subst hv
            go_simp
            refine hK _ ?_
            clear hK K
            refine lexL_step (fun K hK => ⟨by kernel_rfl, ⟨_, rfl⟩, fun n => ?_, fun v hv => ?_⟩)
            · go_simp
              exact lUpon_one
            subst hv
            go_simp
            refine hK _ ?_
            clear hK K
            refine lexL_step (fun K hK => ⟨by kernel_rfl, ⟨_, rfl⟩, fun n => ?_, fun v hv => ?_⟩)
            · go_simp
              exact lUpon_one
            subst hv
            go_simp
            refine hK _ ?_
            clear hK K
            refine lexL_step (fun K hK => ⟨by kernel_rfl, ⟨_, rfl⟩, fun n => ?_, fun v hv => ?_⟩)
            · go_simp
              exact lUpon_one
            subst hv
            go_simp
            refine hK _ ?_
            clear hK K
            refine lexL_step (fun K hK => ⟨by kernel_rfl, ⟨_, rfl⟩, fun n => ?_, fun v hv => ?_⟩)
            · go_simp
              exact lUpon_one
            subst hv
            go_simp
            refine hK _ ?_
            clear hK K
            refine lexL_step (fun K hK => ⟨by kernel_rfl, ⟨_, rfl⟩, fun n => ?_, fun v hv => ?_⟩)
            · go_simp
              exact lUpon_one
            subst hv
            go_simp
            refine hK _ ?_
            clear hK K
            refine lexL_step (fun K hK => ⟨by kernel_rfl, ⟨_, rfl⟩, fun n => ?_, fun v hv => ?_⟩)
            · go_simp
              exact lUpon_one
            subst hv
            go_simp
            refine hK _ ?_
            clear hK K
            refine lexL_step (fun K hK => ⟨by kernel_rfl, ⟨_, rfl⟩, fun n => ?_, fun v hv => ?_⟩)
            · go_simp
              exact lUpon_one
            subst hv
            go_simp
            refine hK _ ?_
            clear hK K
            refine lexL_step (fun K hK => ⟨by kernel_rfl, ⟨_, rfl⟩, fun n => ?_, fun v hv => ?_⟩)
            · go_simp
              exact lUpon_one
            subst hv
            go_simp
            refine hK _ ?_
            clear hK K
            refine lexL_step (fun K hK => ⟨by kernel_rfl, ⟨_, rfl⟩, fun n => ?_, fun v hv => ?_⟩)
            · go_simp
              exact lUpon_one
            subst hv
            go_simp
            refine hK _ ?_
            clear hK K
            refine lexL_step (fun K hK => ⟨by kernel_rfl, ⟨_, rfl⟩, fun n => ?_, fun v hv => ?_⟩)
            · go_simp
              exact lUpon_one
            subst hv
            go_simp
            refine hK _ ?_
            clear hK K
            refine lexL_step (fun K hK => ⟨by kernel_rfl, ⟨_, rfl⟩, fun n => ?_, fun v hv => ?_⟩)
            · go_simp
              exact lUpon_one
            subst hv
            go_simp
            refine hK _ ?_
            clear hK K
            refine lexL_step (fun K hK => ⟨by kernel_rfl, ⟨_, rfl⟩, fun n => ?_, fun v hv => ?_⟩)
            · go_simp
              exact lUpon_one
            subst hv
            go_simp
            refine hK _ ?_
            clear hK K
            refine lexL_step (fun K hK => ⟨by kernel_rfl, ⟨_, rfl⟩, fun n => ?_, fun v hv => ?_⟩)
            · go_simp
              exact lUpon_one
            subst hv
            go_simp
            refine hK _ ?_
            clear hK K
            refine lexL_step (fun K hK => ⟨by kernel_rfl, ⟨_, rfl⟩, fun n => ?_, fun v hv => ?_⟩)
            · go_simp
              exact lUpon_one
            subst hv
            go_simp
            refine hK _ ?_
            clear hK K
            refine lexL_step (fun K hK => ⟨by kernel_rfl, ⟨_, rfl⟩, fun n => ?_, fun v hv => ?_⟩)
            · go_simp
              exact lUpon_one
            subst hv
            go_simp
            refine hK _ ?_
            clear hK K
            refine lexL_step (fun K hK => ⟨by kernel_rfl, ⟨_, rfl⟩, fun n => ?_, fun v hv => ?_⟩)
            · go_simp
              exact lUpon_one
            subst hv
            go_simp
            refine hK _ ?_
            clear hK K
            refine lexL_step (fun K hK => ⟨by kernel_rfl, ⟨_, rfl⟩, fun n => ?_, fun v hv => ?_⟩)
            · go_simp
              exact lUpon_one
            subst hv
            go_simp
            refine hK _ ?_
            clear hK K
            refine lexL_step (fun K hK => ⟨by kernel_rfl, ⟨_, rfl⟩, fun n => ?_, fun v hv => ?_⟩)
            · go_simp
              exact lUpon_one
            subst hv
            go_simp
            refine hK _ ?_
            clear hK K
            refine lexL_step (fun K hK => ⟨by kernel_rfl, ⟨_, rfl⟩, fun n => ?_, fun v hv => ?_⟩)
            · go_simp
              exact lUpon_one
            subst hv
            go_simp
            refine hK _ ?_
            clear hK K
            refine lexL_skip (fun K hK => ⟨by kernel_rfl, ?_⟩)
            go_simp
            refine hK _ ?_
            clear hK K
            refine lexL_step (fun K hK => ⟨by kernel_rfl, ⟨_, rfl⟩, fun n => ?_, fun v hv => ?_⟩)
            · go_simp
              exact lUpon_one
            subst hv
            go_simp
            refine hK _ ?_
            clear hK K
            refine lexL_step (fun K hK => ⟨by kernel_rfl, ⟨_, rfl⟩, fun n => ?_, fun v hv => ?_⟩)
            · go_simp
              exact lUpon_one
            subst hv
            go_simp
            refine hK _ ?_
            clear hK K
            refine lexL_skip (fun K hK => ⟨by kernel_rfl, ?_⟩)
            go_simp
            refine hK _ ?_
            clear hK K
            refine lexL_step (fun K hK => ⟨by kernel_rfl, ⟨_, rfl⟩, fun n => ?_, fun v hv => ?_⟩)
            · go_simp
              exact lUpon_one
            subst hv
            go_simp
            refine hK _ ?_
            clear hK K
            refine lexL_end ?_
            intro n9
            have HB3 : HeldR (Below gs w (wc.drewN n9)) := hideR ((unhideR HB2).trans ((drawn_below wc n9).mono (Nat.le_of_lt (unhideR HZ2))))
            have HS3 : HeldR (SxAt (wc.drewN n9) gs 0 s) := hideR ((unhideR HS2).below (drawn_below wc n9) (unhideR HZ2))
            have HZ3 : HeldR (gs < (wc.drewN n9).heap.size) := hideR (unhideR HZ2)
            go_wp2_with fail
            go_meet
            exact ⟨HB3, HZ3, HS3, by rw [show decide (badR p s part) = true from decide_eq_true (unhideR HBd)]⟩
          case' neg =>
            have tg3 : decide (p.high ≤ s.lo) = false := decide_eq_false g3
            cases fx
            case' true =>
              have HBd : HeldR (badR p s part) := hideR (.inr (.inr (.inr (.inr (.inl (unhideR Hfx))))))
              refine wp_region_lets [(· = .int .i64 part), (· = .bool false), (· = .bool false), (· = .int .i64 part), (· = .bool false), (· = .bool false), (· = .bool false), (· = .bool true), (· = .bool false), (· = .bool false), (· = .bool false), (· = .pointer (some ⟨gs, 3, none⟩)), (· = .int .i64 s.lo), (· = .pointer (some ⟨b, o, none⟩)), (· = .pointer (some ⟨b, o, none⟩)), (· = .pointer (some ⟨b, o + 1, none⟩)), (· = .int .i64 p.high), (· = .bool false), (· = .bool false), (· = .bool false), (· = .bool true), (· = .bool true), (· = .bool true), (· = undef), (· = .bool true)] (by kernel_rfl) (by kernel_rfl) ?_
              refine lexL_step (fun K hK => ⟨by kernel_rfl, ⟨_, rfl⟩, fun n => ?_, fun v hv => ?_⟩)
              · go_simp
                exact lUpon_one
              subst hv
              go_simp
              refine hK _ ?_
              clear hK K
              refine lexL_step (fun K hK => ⟨by kernel_rfl, ⟨_, rfl⟩, fun n => ?_, fun v hv => ?_⟩)
              · go_simp
                exact lUpon_one
              subst hv
              go_simp
              refine hK _ ?_
              clear hK K
              refine lexL_step (fun K hK => ⟨by kernel_rfl, ⟨_, rfl⟩, fun n => ?_, fun v hv => ?_⟩)
              · go_simp
                exact lUpon_one
              subst hv
              go_simp
              refine hK _ ?_
              clear hK K
              refine lexL_step (fun K hK => ⟨by kernel_rfl, ⟨_, rfl⟩, fun n => ?_, fun v hv => ?_⟩)
              · go_simp
                exact lUpon_one
              subst hv
              go_simp
              refine hK _ ?_
              clear hK K
              refine lexL_step (fun K hK => ⟨by kernel_rfl, ⟨_, rfl⟩, fun n => ?_, fun v hv => ?_⟩)
              · go_simp
                exact lUpon_one
              subst hv
              go_simp
              refine hK _ ?_
              clear hK K
              refine lexL_step (fun K hK => ⟨by kernel_rfl, ⟨_, rfl⟩, fun n => ?_, fun v hv => ?_⟩)
              · go_simp
                exact lUpon_one
              subst hv
              go_simp
              refine hK _ ?_
              clear hK K
              refine lexL_step (fun K hK => ⟨by kernel_rfl, ⟨_, rfl⟩, fun n => ?_, fun v hv => ?_⟩)
              · go_simp
                exact lUpon_one
              subst hv
              go_simp
              refine hK _ ?_
              clear hK K
              refine lexL_step (fun K hK => ⟨by kernel_rfl, ⟨_, rfl⟩, fun n => ?_, fun v hv => ?_⟩)
              · go_simp
                exact lUpon_one
              subst hv
              go_simp
              refine hK _ ?_
              clear hK K
              refine lexL_step (fun K hK => ⟨by kernel_rfl, ⟨_, rfl⟩, fun n => ?_, fun v hv => ?_⟩)
              · go_simp
                exact lUpon_one
              subst hv
              go_simp
              refine hK _ ?_
              clear hK K
              refine lexL_step (fun K hK => ⟨by kernel_rfl, ⟨_, rfl⟩, fun n => ?_, fun v hv => ?_⟩)
              · go_simp
                exact lUpon_one
              subst hv
              go_simp
              refine hK _ ?_
              clear hK K
              refine lexL_step (fun K hK => ⟨by kernel_rfl, ⟨_, rfl⟩, fun n => ?_, fun v hv => ?_⟩)
              · go_simp
                exact lUpon_one
              subst hv
              go_simp
              refine hK _ ?_
              clear hK K
              refine lexL_step (fun K hK => ⟨by kernel_rfl, ⟨_, rfl⟩, fun n => ?_, fun v hv => ?_⟩)
              · go_simp
                exact lUpon_one
              subst hv
              go_simp
              refine hK _ ?_
              clear hK K
              refine lexL_step (fun K hK => ⟨by kernel_rfl, ⟨_, rfl⟩, fun n => ?_, fun v hv => ?_⟩)
              · go_simp
                exact lUpon_one
              subst hv
              go_simp
              refine hK _ ?_
              clear hK K
              refine lexL_step (fun K hK => ⟨by kernel_rfl, ⟨_, rfl⟩, fun n => ?_, fun v hv => ?_⟩)
              · go_simp
                exact lUpon_one
              subst hv
              go_simp
              refine hK _ ?_
              clear hK K
              refine lexL_step (fun K hK => ⟨by kernel_rfl, ⟨_, rfl⟩, fun n => ?_, fun v hv => ?_⟩)
              · go_simp
                exact lUpon_one
              subst hv
              go_simp
              refine hK _ ?_
              clear hK K
              refine lexL_step (fun K hK => ⟨by kernel_rfl, ⟨_, rfl⟩, fun n => ?_, fun v hv => ?_⟩)
              · go_simp
                exact lUpon_one
              subst hv
              go_simp
              refine hK _ ?_
              clear hK K
              refine lexL_step (fun K hK => ⟨by kernel_rfl, ⟨_, rfl⟩, fun n => ?_, fun v hv => ?_⟩)
              · go_simp
                exact lUpon_one
              subst hv
              go_simp
              refine hK _ ?_
              clear hK K
              refine lexL_step (fun K hK => ⟨by kernel_rfl, ⟨_, rfl⟩, fun n => ?_, fun v hv => ?_⟩)
              · go_simp
                exact lUpon_one
              subst hv
              go_simp
              refine hK _ ?_
              clear hK K
              refine lexL_step (fun K hK => ⟨by kernel_rfl, ⟨_, rfl⟩, fun n => ?_, fun v hv => ?_⟩)
              · go_simp
                exact lUpon_one
              subst hv
              go_simp
              refine hK _ ?_
              clear hK K
              refine lexL_step (fun K hK => ⟨by kernel_rfl, ⟨_, rfl⟩, fun n => ?_, fun v hv => ?_⟩)
              · go_simp
                exact lUpon_one
              subst hv
              go_simp
              refine hK _ ?_
              clear hK K
              refine lexL_step (fun K hK => ⟨by kernel_rfl, ⟨_, rfl⟩, fun n => ?_, fun v hv => ?_⟩)
              · go_simp
                exact lUpon_one
              subst hv
              go_simp
              refine hK _ ?_
              clear hK K
              refine lexL_step (fun K hK => ⟨by kernel_rfl, ⟨_, rfl⟩, fun n => ?_, fun v hv => ?_⟩)
              · go_simp
                exact lUpon_one
              subst hv
              go_simp
              refine hK _ ?_
              clear hK K
              refine lexL_step (fun K hK => ⟨by kernel_rfl, ⟨_, rfl⟩, fun n => ?_, fun v hv => ?_⟩)
              · go_simp
                exact lUpon_one
              subst hv
              go_simp
              refine hK _ ?_
              clear hK K
              refine lexL_skip (fun K hK => ⟨by kernel_rfl, ?_⟩)
              go_simp
              refine hK _ ?_
              clear hK K
              refine lexL_step (fun K hK => ⟨by kernel_rfl, ⟨_, rfl⟩, fun n => ?_, fun v hv => ?_⟩)
              · go_simp
                exact lUpon_one
              subst hv
              go_simp
              refine hK _ ?_
              clear hK K
              refine lexL_end ?_
              intro n9
              have HB3 : HeldR (Below gs w (wc.drewN n9)) := hideR ((unhideR HB2).trans ((drawn_below wc n9).mono (Nat.le_of_lt (unhideR HZ2))))
              have HS3 : HeldR (SxAt (wc.drewN n9) gs 0 s) := hideR ((unhideR HS2).below (drawn_below wc n9) (unhideR HZ2))
              have HZ3 : HeldR (gs < (wc.drewN n9).heap.size) := hideR (unhideR HZ2)
              go_wp2_with fail
              go_meet
              exact ⟨HB3, HZ3, HS3, by rw [show decide (badR p s part) = true from decide_eq_true (unhideR HBd)]⟩
            case' false =>
              cases fy
              case' true =>
                have HBd : HeldR (badR p s part) := hideR (.inr (.inr (.inr (.inr (.inr (unhideR Hfy))))))
                refine wp_region_lets [(· = .int .i64 part), (· = .bool false), (· = .bool false), (· = .int .i64 part), (· = .bool false), (· = .bool false), (· = .bool false), (· = .bool true), (· = .bool false), (· = .bool false), (· = .bool false), (· = .pointer (some ⟨gs, 3, none⟩)), (· = .int .i64 s.lo), (· = .pointer (some ⟨b, o, none⟩)), (· = .pointer (some ⟨b, o, none⟩)), (· = .pointer (some ⟨b, o + 1, none⟩)), (· = .int .i64 p.high), (· = .bool false), (· = .bool false), (· = .bool false), (· = .bool false), (· = .bool false), (· = .bool false), (· = .bool true), (· = .bool true)] (by kernel_rfl) (by kernel_rfl) ?_
                refine lexL_step (fun K hK => ⟨by kernel_rfl, ⟨_, rfl⟩, fun n => ?_, fun v hv => ?_⟩)
                · go_simp
                  exact lUpon_one
                subst hv
                go_simp
                refine hK _ ?_
                clear hK K
                refine lexL_step (fun K hK => ⟨by kernel_rfl, ⟨_, rfl⟩, fun n => ?_, fun v hv => ?_⟩)
                · go_simp
                  exact lUpon_one
                subst hv
                go_simp
                refine hK _ ?_
                clear hK K
                refine lexL_step (fun K hK => ⟨by kernel_rfl, ⟨_, rfl⟩, fun n => ?_, fun v hv => ?_⟩)
                · go_simp
                  exact lUpon_one
                subst hv
                go_simp
                refine hK _ ?_
                clear hK K
                refine lexL_step (fun K hK => ⟨by kernel_rfl, ⟨_, rfl⟩, fun n => ?_, fun v hv => ?_⟩)
                · go_simp
                  exact lUpon_one
                subst hv
                go_simp
                refine hK _ ?_
                clear hK K
                refine lexL_step (fun K hK => ⟨by kernel_rfl, ⟨_, rfl⟩, fun n => ?_, fun v hv => ?_⟩)
                · go_simp
                  exact lUpon_one
                subst hv
                go_simp
                refine hK _ ?_
                clear hK K
                refine lexL_step (fun K hK => ⟨by kernel_rfl, ⟨_, rfl⟩, fun n => ?_, fun v hv => ?_⟩)
                · go_simp
                  exact lUpon_one
                subst hv
                go_simp
                refine hK _ ?_
                clear hK K
                refine lexL_step (fun K hK => ⟨by kernel_rfl, ⟨_, rfl⟩, fun n => ?_, fun v hv => ?_⟩)
                · go_simp
                  exact lUpon_one
                subst hv
                go_simp
                refine hK _ ?_
                clear hK K
                refine lexL_step (fun K hK => ⟨by kernel_rfl, ⟨_, rfl⟩, fun n => ?_, fun v hv => ?_⟩)
                · go_simp
                  exact lUpon_one
                subst hv
                go_simp
                refine hK _ ?_
                clear hK K
                refine lexL_step (fun K hK => ⟨by kernel_rfl, ⟨_, rfl⟩, fun n => ?_, fun v hv => ?_⟩)
                · go_simp
                  exact lUpon_one
                subst hv
                go_simp
                refine hK _ ?_
                clear hK K
                refine lexL_step (fun K hK => ⟨by kernel_rfl, ⟨_, rfl⟩, fun n => ?_, fun v hv => ?_⟩)
                · go_simp
                  exact lUpon_one
                subst hv
                go_simp
                refine hK _ ?_
                clear hK K
                refine lexL_step (fun K hK => ⟨by kernel_rfl, ⟨_, rfl⟩, fun n => ?_, fun v hv => ?_⟩)
                · go_simp
                  exact lUpon_one
                subst hv
                go_simp
                refine hK _ ?_
                clear hK K
                refine lexL_step (fun K hK => ⟨by kernel_rfl, ⟨_, rfl⟩, fun n => ?_, fun v hv => ?_⟩)
                · go_simp
                  exact lUpon_one
                subst hv
                go_simp
                refine hK _ ?_
                clear hK K
                refine lexL_step (fun K hK => ⟨by kernel_rfl, ⟨_, rfl⟩, fun n => ?_, fun v hv => ?_⟩)
                · go_simp
                  exact lUpon_one
                subst hv
                go_simp
                refine hK _ ?_
                clear hK K
                refine lexL_step (fun K hK => ⟨by kernel_rfl, ⟨_, rfl⟩, fun n => ?_, fun v hv => ?_⟩)
                · go_simp
                  exact lUpon_one
                subst hv
                go_simp
                refine hK _ ?_
                clear hK K
                refine lexL_step (fun K hK => ⟨by kernel_rfl, ⟨_, rfl⟩, fun n => ?_, fun v hv => ?_⟩)
                · go_simp
                  exact lUpon_one
                subst hv
                go_simp
                refine hK _ ?_
                clear hK K
                refine lexL_step (fun K hK => ⟨by kernel_rfl, ⟨_, rfl⟩, fun n => ?_, fun v hv => ?_⟩)
                · go_simp
                  exact lUpon_one
                subst hv
                go_simp
                refine hK _ ?_
                clear hK K
                refine lexL_step (fun K hK => ⟨by kernel_rfl, ⟨_, rfl⟩, fun n => ?_, fun v hv => ?_⟩)
                · go_simp
                  exact lUpon_one
                subst hv
                go_simp
                refine hK _ ?_
                clear hK K
                refine lexL_step (fun K hK => ⟨by kernel_rfl, ⟨_, rfl⟩, fun n => ?_, fun v hv => ?_⟩)
                · go_simp
                  exact lUpon_one
                subst hv
                go_simp
                refine hK _ ?_
                clear hK K
                refine lexL_step (fun K hK => ⟨by kernel_rfl, ⟨_, rfl⟩, fun n => ?_, fun v hv => ?_⟩)
                · go_simp
                  exact lUpon_one
                subst hv
                go_simp
                refine hK _ ?_
                clear hK K
                refine lexL_step (fun K hK => ⟨by kernel_rfl, ⟨_, rfl⟩, fun n => ?_, fun v hv => ?_⟩)
                · go_simp
                  exact lUpon_one
                subst hv
                go_simp
                refine hK _ ?_
                clear hK K
                refine lexL_step (fun K hK => ⟨by kernel_rfl, ⟨_, rfl⟩, fun n => ?_, fun v hv => ?_⟩)
                · go_simp
                  exact lUpon_one
                subst hv
                go_simp
                refine hK _ ?_
                clear hK K
                refine lexL_step (fun K hK => ⟨by kernel_rfl, ⟨_, rfl⟩, fun n => ?_, fun v hv => ?_⟩)
                · go_simp
                  exact lUpon_one
                subst hv
                go_simp
                refine hK _ ?_
                clear hK K
                refine lexL_step (fun K hK => ⟨by kernel_rfl, ⟨_, rfl⟩, fun n => ?_, fun v hv => ?_⟩)
                · go_simp
                  exact lUpon_one
                subst hv
                go_simp
                refine hK _ ?_
                clear hK K
                refine lexL_step (fun K hK => ⟨by kernel_rfl, ⟨_, rfl⟩, fun n => ?_, fun v hv => ?_⟩)
                · go_simp
                  exact lUpon_one
                subst hv
                go_simp
                refine hK _ ?_
                clear hK K
                refine lexL_step (fun K hK => ⟨by kernel_rfl, ⟨_, rfl⟩, fun n => ?_, fun v hv => ?_⟩)
                · go_simp
                  exact lUpon_one
                subst hv
                go_simp
                refine hK _ ?_
                clear hK K
                refine lexL_end ?_
                intro n9
                have HB3 : HeldR (Below gs w (wc.drewN n9)) := hideR ((unhideR HB2).trans ((drawn_below wc n9).mono (Nat.le_of_lt (unhideR HZ2))))
                have HS3 : HeldR (SxAt (wc.drewN n9) gs 0 s) := hideR ((unhideR HS2).below (drawn_below wc n9) (unhideR HZ2))
                have HZ3 : HeldR (gs < (wc.drewN n9).heap.size) := hideR (unhideR HZ2)
                go_wp2_with fail
                go_meet
                exact ⟨HB3, HZ3, HS3, by rw [show decide (badR p s part) = true from decide_eq_true (unhideR HBd)]⟩
              case' false =>
                have HBd0 : HeldR (¬ (part < 1 ∨ 100 < part ∨ p.high ≤ s.lo)) := hideR (by omega)
                have HBd1 : HeldR (badR p s part → part < 1 ∨ 100 < part ∨ p.high ≤ s.lo) := hideR (fun q => by
                  rcases q with q | q | q | q | q | q
                  · exact .inl q
                  · exact .inr (.inl q)
                  · rw [unhideR Hbx] at q; cases q
                  · exact .inr (.inr q)
                  · rw [unhideR Hfx] at q; cases q
                  · rw [unhideR Hfy] at q; cases q)
                refine wp_region_lets [(· = .int .i64 part), (· = .bool false), (· = .bool false), (· = .int .i64 part), (· = .bool false), (· = .bool false), (· = .bool false), (· = .bool true), (· = .bool false), (· = .bool false), (· = .bool false), (· = .pointer (some ⟨gs, 3, none⟩)), (· = .int .i64 s.lo), (· = .pointer (some ⟨b, o, none⟩)), (· = .pointer (some ⟨b, o, none⟩)), (· = .pointer (some ⟨b, o + 1, none⟩)), (· = .int .i64 p.high), (· = .bool false), (· = .bool false), (· = .bool false), (· = .bool false), (· = .bool false), (· = .bool false), (· = .bool false), (· = .bool false)] (by kernel_rfl) (by kernel_rfl) ?_
                refine lexL_step (fun K hK => ⟨by kernel_rfl, ⟨_, rfl⟩, fun n => ?_, fun v hv => ?_⟩)
                · go_simp
                  exact lUpon_one
                subst hv
                go_simp
                refine hK _ ?_
                clear hK K
                refine lexL_step (fun K hK => ⟨by kernel_rfl, ⟨_, rfl⟩, fun n => ?_, fun v hv => ?_⟩)
                · go_simp
                  exact lUpon_one
                subst hv
                go_simp
                refine hK _ ?_
                clear hK K
                refine lexL_step (fun K hK => ⟨by kernel_rfl, ⟨_, rfl⟩, fun n => ?_, fun v hv => ?_⟩)
                · go_simp
                  exact lUpon_one
                subst hv
                go_simp
                refine hK _ ?_
                clear hK K
                refine lexL_step (fun K hK => ⟨by kernel_rfl, ⟨_, rfl⟩, fun n => ?_, fun v hv => ?_⟩)
                · go_simp
                  exact lUpon_one
                subst hv
                go_simp
                refine hK _ ?_
                clear hK K
                refine lexL_step (fun K hK => ⟨by kernel_rfl, ⟨_, rfl⟩, fun n => ?_, fun v hv => ?_⟩)
                · go_simp
                  exact lUpon_one
                subst hv
                go_simp
                refine hK _ ?_
                clear hK K
                refine lexL_step (fun K hK => ⟨by kernel_rfl, ⟨_, rfl⟩, fun n => ?_, fun v hv => ?_⟩)
                · go_simp
                  exact lUpon_one
                subst hv
                go_simp
                refine hK _ ?_
                clear hK K
                refine lexL_step (fun K hK => ⟨by kernel_rfl, ⟨_, rfl⟩, fun n => ?_, fun v hv => ?_⟩)
                · go_simp
                  exact lUpon_one
                subst hv
                go_simp
                refine hK _ ?_
                clear hK K
                refine lexL_step (fun K hK => ⟨by kernel_rfl, ⟨_, rfl⟩, fun n => ?_, fun v hv => ?_⟩)
                · go_simp
                  exact lUpon_one
                subst hv
                go_simp
                refine hK _ ?_
                clear hK K
                refine lexL_step (fun K hK => ⟨by kernel_rfl, ⟨_, rfl⟩, fun n => ?_, fun v hv => ?_⟩)
                · go_simp
                  exact lUpon_one
                subst hv
                go_simp
                refine hK _ ?_
                clear hK K
                refine lexL_step (fun K hK => ⟨by kernel_rfl, ⟨_, rfl⟩, fun n => ?_, fun v hv => ?_⟩)
                · go_simp
                  exact lUpon_one
                subst hv
                go_simp
                refine hK _ ?_
                clear hK K
                refine lexL_step (fun K hK => ⟨by kernel_rfl, ⟨_, rfl⟩, fun n => ?_, fun v hv => ?_⟩)
                · go_simp
                  exact lUpon_one
                subst hv
                go_simp
                refine hK _ ?_
                clear hK K
                refine lexL_step (fun K hK => ⟨by kernel_rfl, ⟨_, rfl⟩, fun n => ?_, fun v hv => ?_⟩)
                · go_simp
                  exact lUpon_one
                subst hv
                go_simp
                refine hK _ ?_
                clear hK K
                refine lexL_step (fun K hK => ⟨by kernel_rfl, ⟨_, rfl⟩, fun n => ?_, fun v hv => ?_⟩)
                · go_simp
                  exact lUpon_one
                subst hv
                go_simp
                refine hK _ ?_
                clear hK K
                refine lexL_step (fun K hK => ⟨by kernel_rfl, ⟨_, rfl⟩, fun n => ?_, fun v hv => ?_⟩)
                · go_simp
                  exact lUpon_one
                subst hv
                go_simp
                refine hK _ ?_
                clear hK K
                refine lexL_step (fun K hK => ⟨by kernel_rfl, ⟨_, rfl⟩, fun n => ?_, fun v hv => ?_⟩)
                · go_simp
                  exact lUpon_one
                subst hv
                go_simp
                refine hK _ ?_
                clear hK K
                refine lexL_step (fun K hK => ⟨by kernel_rfl, ⟨_, rfl⟩, fun n => ?_, fun v hv => ?_⟩)
                · go_simp
                  exact lUpon_one
                subst hv
                go_simp
                refine hK _ ?_
                clear hK K
                refine lexL_step (fun K hK => ⟨by kernel_rfl, ⟨_, rfl⟩, fun n => ?_, fun v hv => ?_⟩)
                · go_simp
                  exact lUpon_one
                subst hv
                go_simp
                refine hK _ ?_
                clear hK K
                refine lexL_step (fun K hK => ⟨by kernel_rfl, ⟨_, rfl⟩, fun n => ?_, fun v hv => ?_⟩)
                · go_simp
                  exact lUpon_one
                subst hv
                go_simp
                refine hK _ ?_
                clear hK K
                refine lexL_step (fun K hK => ⟨by kernel_rfl, ⟨_, rfl⟩, fun n => ?_, fun v hv => ?_⟩)
                · go_simp
                  exact lUpon_one
                subst hv
                go_simp
                refine hK _ ?_
                clear hK K
                refine lexL_step (fun K hK => ⟨by kernel_rfl, ⟨_, rfl⟩, fun n => ?_, fun v hv => ?_⟩)
                · go_simp
                  exact lUpon_one
                subst hv
                go_simp
                refine hK _ ?_
                clear hK K
                refine lexL_step (fun K hK => ⟨by kernel_rfl, ⟨_, rfl⟩, fun n => ?_, fun v hv => ?_⟩)
                · go_simp
                  exact lUpon_one
                subst hv
                go_simp
                refine hK _ ?_
                clear hK K
                refine lexL_step (fun K hK => ⟨by kernel_rfl, ⟨_, rfl⟩, fun n => ?_, fun v hv => ?_⟩)
                · go_simp
                  exact lUpon_one
                subst hv
                go_simp
                refine hK _ ?_
                clear hK K
                refine lexL_step (fun K hK => ⟨by kernel_rfl, ⟨_, rfl⟩, fun n => ?_, fun v hv => ?_⟩)
                · go_simp
                  exact lUpon_one
                subst hv
                go_simp
                refine hK _ ?_
                clear hK K
                refine lexL_step (fun K hK => ⟨by kernel_rfl, ⟨_, rfl⟩, fun n => ?_, fun v hv => ?_⟩)
                · go_simp
                  exact lUpon_one
                subst hv
                go_simp
                refine hK _ ?_
                clear hK K
                refine lexL_step (fun K hK => ⟨by kernel_rfl, ⟨_, rfl⟩, fun n => ?_, fun v hv => ?_⟩)
                · go_simp
                  exact lUpon_one
                subst hv
                go_simp
                refine hK _ ?_
                clear hK K
                refine lexL_end ?_
                intro n9
                have HB3 : HeldR (Below gs w (wc.drewN n9)) := hideR ((unhideR HB2).trans ((drawn_below wc n9).mono (Nat.le_of_lt (unhideR HZ2))))
                have HS3 : HeldR (SxAt (wc.drewN n9) gs 0 s) := hideR ((unhideR HS2).below (drawn_below wc n9) (unhideR HZ2))
                have HZ3 : HeldR (gs < (wc.drewN n9).heap.size) := hideR (unhideR HZ2)
                go_wp2_with fail
                go_meet
                exact ⟨HB3, HZ3, HS3, by rw [show decide (badR p s part) = false from decide_eq_false (fun q => unhideR HBd0 (unhideR HBd1 q))]⟩
  obtain ⟨HB3, HZ3, HS3, rfl⟩ := hcut
  clear d0 d1 d2 d3 d4 d5 d6 d7 d8 cw ch HS2 HB2 HZ2
  by_cases hbad : badR p s part
  case pos =>
    have tb : decide (badR p s part) = true := decide_eq_true hbad
    rw [tb]
    have HF := hideR (unhideR HBad hbad wc (unhideR HB3))
    clear HBad HNone HFin HB3 HS3 HZ3 HP
    go_wp2
    go_ret2
    exact unhideR HF
  case neg =>
  have tb : decide (badR p s part) = false := decide_eq_false hbad
  rw [tb]
  obtain ⟨n1, n2, n3, n4, n5, n6⟩ := not_bad hbad
  have hbox := of_decide_eq_true n3
  have q1 := (unhideR HOk).w1
  have q2 := (unhideR HOk).w2
  have q3 := (unhideR HOk).h1
  have q4 := (unhideR HOk).h2
  obtain ⟨W, hW⟩ : ∃ W : Nat, p.wide = (W : Nat) := ⟨p.wide.toNat, by omega⟩
  obtain ⟨E, hE⟩ : ∃ E : Nat, s.le = (E : Nat) := ⟨s.le.toNat, by omega⟩
  obtain ⟨T, hT⟩ : ∃ T : Nat, s.tp = (T : Nat) := ⟨s.tp.toNat, by omega⟩
  obtain ⟨NW, hNW⟩ : ∃ NW, nW s = NW := ⟨_, rfl⟩
  obtain ⟨NH, hNH⟩ : ∃ NH, nH s = NH := ⟨_, rfl⟩
  have hNWi : (NW : Int) = s.ri - (E : Int) + 1 := by rw [← hNW]; unfold nW; omega
  have hNHi : (NH : Int) = s.lo - (T : Int) + 1 := by rw [← hNH]; unfold nH; omega
  have HCt : HeldR (∀ c a, c < NW → a < NH → (T + a) * W + (E + c) < p.L.length ∧ cntV p s c a = p.L.getD ((T + a) * W + (E + c)) 0 ∧ 0 ≤ cntV p s c a ∧ cntV p s c a ≤ 65535) := hideR (fun c a hc ha => by
    have e : cntV p s c a = p.L.getD ((T + a) * W + (E + c)) 0 := by
      unfold cntV
      rw [hT, hE, hW, Int.toNat_natCast, Int.toNat_natCast, Int.toNat_natCast]
    have hi : (T + a) * W + (E + c) < p.L.length := by
      have h1 := (unhideR HOk).len
      obtain ⟨H, hH⟩ : ∃ H : Nat, p.high = (H : Nat) := ⟨p.high.toNat, by omega⟩
      rw [hW, hH, ← Int.natCast_mul] at h1
      have h2 := Int.ofNat.inj h1
      rw [h2, Nat.mul_comm W H]
      have h3 := Nat.mul_le_mul_right W (show T + a + 1 ≤ H by omega)
      rw [Nat.succ_mul] at h3
      omega
    have h4 := (unhideR HOk).each _ hi
    rw [e]
    exact ⟨hi, rfl, h4.1, h4.2⟩)
  have hNW0 : 0 < NW := by omega
  have hNH0 : 0 < NH := by omega
  have hNWb : NW ≤ 256 := by omega
  have hNHb : NH ≤ 256 := by omega
  obtain ⟨bl, ol, e, _, _⟩ := (unhideR HP wc (unhideR HB3)).row.at_ _ (unhideR HCt 0 0 hNW0 hNH0).1
  subst e
  have HRd : HeldR (∀ u, Below gs w u → ∀ c a, c < NW → a < NH → u.cell? ⟨bl, ol + ((T + a) * W + (E + c)), none⟩ = some (.int .i64 (cntV p s c a))) := hideR (fun u k c a hc ha => by
    have q := unhideR HCt c a hc ha
    obtain ⟨b', o', e', _, h'⟩ := (unhideR HP u k).row.at_ _ q.1
    cases e'
    rw [q.2.1]
    exact h')
  have HPc : HeldR (∀ u, Below gs w u → u.cell? ⟨b, o, none⟩ = some (.int .i64 (W : Nat)) ∧ u.cell? ⟨b, o + 2, none⟩ = some (.slice (some ⟨bl, ol, none⟩) p.L.length cap)) := hideR (fun u k => by
    have q := unhideR HP u k
    rw [← hW]
    exact ⟨q.c0, q.c2⟩)
  obtain ⟨len, hlen⟩ : ∃ len, p.L.length = len := ⟨_, rfl⟩
  rw [hlen] at HPc
  have HIx : HeldR (∀ c a, c < NW → a < NH → (T + a) * W + (E + c) < len) := hideR (fun c a hc ha => by rw [← hlen]; exact (unhideR HCt c a hc ha).1)
  have HCb : HeldR (∀ c a, c < NW → a < NH → 0 ≤ cntV p s c a ∧ cntV p s c a ≤ 65535) := hideR (fun c a hc ha => (unhideR HCt c a hc ha).2.2)
  have HRw : HeldR (∀ a m, a < NH → m ≤ NW → 0 ≤ sumN (fun u => cntV p s u a) m ∧ sumN (fun u => cntV p s u a) m ≤ 16776960) := hideR (fun a m ha hm => by
    have := sumN_range (B := 65535) (f := fun u => cntV p s u a) (n := m) (fun i hi => unhideR HCb i a (by omega) ha)
    omega)
  have HAl : HeldR (∀ m, m ≤ NH → 0 ≤ sumN (fun v => sumN (fun u => cntV p s u v) NW) m ∧ sumN (fun v => sumN (fun u => cntV p s u v) NW) m ≤ 4294901760) := hideR (fun m hm => by
    have := sumN_range (B := 16776960) (f := fun v => sumN (fun u => cntV p s u v) NW) (n := m) (fun i hi => unhideR HRw i NW (by omega) (Nat.le_refl _))
    omega)
  have HAll : HeldR (allV p s = sumN (fun v => sumN (fun u => cntV p s u v) NW) NH) := hideR (by unfold allV; rw [hNW, hNH])
  have HE := hideR hE
  have HT := hideR hT
  have HNW := hideR hNW
  have HNH := hideR hNH
  have hEb : E + NW ≤ W := by omega
  have hTb : T + NH ≤ 256 := by omega
  have hWb : W ≤ 256 := by omega
  have hri : s.ri = (E : Int) + (NW : Int) - 1 := by omega
  have hlo : s.lo = (T : Int) + (NH : Int) - 1 := by omega
  have Hri := hideR hri
  have Hlo := hideR hlo
  have HSx : HeldR (∀ u, SxAt u gs 0 s → u.cell? ⟨gs, 0, none⟩ = some (.int .i64 (E : Nat)) ∧ u.cell? ⟨gs, 1, none⟩ = some (.int .i64 (T : Nat)) ∧ u.cell? ⟨gs, 2, none⟩ = some (.int .i64 ((E : Int) + (NW : Int) - 1)) ∧ u.cell? ⟨gs, 3, none⟩ = some (.int .i64 ((T : Int) + (NH : Int) - 1)) ∧ u.cell? ⟨gs, 6, none⟩ = some (.int .i64 s.x) ∧ u.cell? ⟨gs, 7, none⟩ = some (.int .i64 s.y) ∧ u.cell? ⟨gs, 8, none⟩ = some (.int .i64 s.lt)) := hideR (fun u h => by
    rw [← hri, ← hlo, ← hE, ← hT]
    exact ⟨h.c0, h.c1, h.c2, h.c3, h.c6, h.c7, h.c8⟩)
  clear hE hT hNW hNH hW hlen hbox n3 n4 q1 q2 q3 q4 HOk hNWi hNHi hri hlo HBad HP HCt tb
  obtain ⟨d0, d1, d2, d3, d6, d7, d8⟩ := unhideR HSx wc (unhideR HS3)
  go_wp2_with fail
  clear d0 d1 d2 d3 d6 d7 d8
  go_loopw [12, 13] (fun av yv wl => ∃ a : Nat, a ≤ NH ∧ yv = .int .i64 ((T + a : Nat) : Int) ∧ av = .int .i64 (sumN (fun v => sumN (fun u => cntV p s u v) NW) a) ∧ HeldR (Below gs w wl) ∧ HeldR (gs < wl.heap.size) ∧ HeldR (SxAt wl gs 0 s)) (fun _ yv _ => 100000 - (intOf yv).toNat)
  case atStart => exact ⟨0, by omega, rfl, rfl, HB3, HZ3, HS3⟩
  case round =>
    clear HB3 HZ3 HS3
    obtain ⟨a, haN, rfl, rfl, HB, HZ, HS⟩ := hrel
    obtain ⟨d0, d1, d2, d3, d6, d7, d8⟩ := unhideR HSx wr (unhideR HS)
    obtain ⟨Y, hY⟩ : ∃ Y, T + a = Y := ⟨_, rfl⟩
    rw [hY]
    obtain ⟨A0, hA0⟩ : ∃ A0, sumN (fun v => sumN (fun u => cntV p s u v) NW) a = A0 := ⟨_, rfl⟩
    have hAb := unhideR HAl a haN
    rw [hA0] at hAb ⊢
    have HA0 := hideR hA0
    have HY := hideR hY
    by_cases ha : a < NH
    · have ty : decide ((Y : Int) ≤ (T : Int) + (NH : Int) - 1) = true := decide_eq_true (by omega)
      have hyl : (Y : Int) ≤ (T : Int) + (NH : Int) - 1 := by omega
      have hYb : Y ≤ 256 := by omega
      have wY : IntKind.i64.wrap ((Y : Int) + 1) = (Y : Int) + 1 := iwrap (by omega) (by omega)
      have HS0 : HeldR (A0 = A0 + sumN (fun u => cntV p s u a) 0) := hideR (by unfold sumN; omega)
      clear hA0 hY
      go_wp2_with fail
      clear d0 d1 d2 d3 d6 d7 d8
      go_loopw [12, 14] (fun av xv wl => ∃ (c : Nat) (A : Int), c ≤ NW ∧ xv = .int .i64 ((E + c : Nat) : Int) ∧ av = .int .i64 A ∧ HeldR (A = A0 + sumN (fun u => cntV p s u a) c) ∧ HeldR (Below gs w wl) ∧ HeldR (gs < wl.heap.size) ∧ HeldR (SxAt wl gs 0 s)) (fun _ xv _ => 100000 - (intOf xv).toNat)
      case atStart => exact ⟨0, A0, by omega, rfl, rfl, HS0, HB, HZ, HS⟩
      case round =>
        clear HB HZ HS HS0
        obtain ⟨c, A, hcN, rfl, rfl, HAe, HB, HZ, HS⟩ := hrel
        obtain ⟨d0, d1, d2, d3, d6, d7, d8⟩ := unhideR HSx wr (unhideR HS)
        obtain ⟨X, hX⟩ : ∃ X, E + c = X := ⟨_, rfl⟩
        rw [hX]
        by_cases hc : c < NW
        · have tx : decide ((X : Int) ≤ (E : Int) + (NW : Int) - 1) = true := decide_eq_true (by omega)
          have hxl : (X : Int) ≤ (E : Int) + (NW : Int) - 1 := by omega
          have hXb : X ≤ 256 := by omega
          have wX : IntKind.i64.wrap ((X : Int) + 1) = (X : Int) + 1 := iwrap (by omega) (by omega)
          have hsb := unhideR HRw a c ha hcN
          have hAr : 0 ≤ A ∧ A ≤ 4400000000 := by rw [unhideR HAe]; omega
          have hcb := unhideR HCb c a hc ha
          have HA2 : HeldR (A + cntV p s c a = A0 + sumN (fun u => cntV p s u a) (c + 1)) := hideR (by
            have := unhideR HAe
            show _ = A0 + (sumN (fun u => cntV p s u a) c + cntV p s c a)
            omega)
          have xr := unhideR HRd wr (unhideR HB) c a hc ha
          have hix := unhideR HIx c a hc ha
          rw [unhideR HY, hX] at xr hix
          obtain ⟨cw, cr⟩ := unhideR HPc wr (unhideR HB)
          generalize cntV p s c a = cn at *
          obtain ⟨YW, hYW⟩ : ∃ YW, Y * W = YW := ⟨_, rfl⟩
          have hYWb : YW ≤ 65536 := by rw [← hYW]; exact Nat.le_trans (Nat.mul_le_mul hYb hWb) (by decide)
          have wYW : IntKind.i64.wrap ((Y : Int) * (W : Int)) = (YW : Nat) := by rw [← Int.natCast_mul, hYW]; exact iwrap (by omega) (by omega)
          rw [hYW] at xr hix
          obtain ⟨IX, hIX⟩ : ∃ IX, YW + X = IX := ⟨_, rfl⟩
          have wIX : IntKind.i64.wrap ((YW : Int) + (X : Int)) = (IX : Nat) := by rw [← hIX]; exact iwrap (by omega) (by omega)
          rw [hIX] at xr hix
          have hixi : (IX : Int) < (len : Int) := by omega
          have wA : IntKind.i64.wrap (A + cn) = A + cn := iwrap (by omega) (by omega)
          have HX2 : HeldR (E + (c + 1) = X + 1) := hideR (by omega)
          clear hX hYW hIX hsb HAe
          go_wp2_with fail
          refine wp_region_lets [(· = .int .i64 A), (· = .pointer (some ⟨b, o, none⟩)), (· = .pointer (some ⟨b, o, none⟩)), (· = .pointer (some ⟨b, o + 2, none⟩)), (· = .slice (some ⟨bl, ol, none⟩) len cap), (· = .int .i64 (Y : Nat)), (· = .pointer (some ⟨b, o, none⟩)), (· = .pointer (some ⟨b, o, none⟩)), (· = .pointer (some ⟨b, o, none⟩)), (· = .int .i64 (W : Nat)), (· = .int .i64 (YW : Nat)), (· = .int .i64 (X : Nat)), (· = .int .i64 (IX : Nat)), (· = .pointer (some ⟨bl, ol + IX, none⟩)), (· = .int .i64 cn), (· = .int .i64 (A + cn)), (· = .int .i64 (A + cn))] (by kernel_rfl) (by kernel_rfl) ?_
          refine lexL_step (fun K hK => ⟨by kernel_rfl, ⟨_, rfl⟩, fun n => ?_, fun v hv => ?_⟩)
          · go_simp
            exact lUpon_one
          subst hv
          go_simp
          refine hK _ ?_
          clear hK K
          refine lexL_step (fun K hK => ⟨by kernel_rfl, ⟨_, rfl⟩, fun n => ?_, fun v hv => ?_⟩)
          · go_simp
            exact lUpon_one
          subst hv
          go_simp
          refine hK _ ?_
          clear hK K
          refine lexL_step (fun K hK => ⟨by kernel_rfl, ⟨_, rfl⟩, fun n => ?_, fun v hv => ?_⟩)
          · go_simp
            exact lUpon_one
          subst hv
          go_simp
          refine hK _ ?_
          clear hK K
          refine lexL_step (fun K hK => ⟨by kernel_rfl, ⟨_, rfl⟩, fun n => ?_, fun v hv => ?_⟩)
          · go_simp
            exact lUpon_one
          subst hv
          go_simp
          refine hK _ ?_
          clear hK K
          refine lexL_step (fun K hK => ⟨by kernel_rfl, ⟨_, rfl⟩, fun n => ?_, fun v hv => ?_⟩)
          · go_simp
            exact lUpon_one
          subst hv
          go_simp
          refine hK _ ?_
          clear hK K
          refine lexL_step (fun K hK => ⟨by kernel_rfl, ⟨_, rfl⟩, fun n => ?_, fun v hv => ?_⟩)
          · go_simp
            exact lUpon_one
          subst hv
          go_simp
          refine hK _ ?_
          clear hK K
          refine lexL_step (fun K hK => ⟨by kernel_rfl, ⟨_, rfl⟩, fun n => ?_, fun v hv => ?_⟩)
          · go_simp
            exact lUpon_one
          subst hv
          go_simp
          refine hK _ ?_
          clear hK K
          refine lexL_step (fun K hK => ⟨by kernel_rfl, ⟨_, rfl⟩, fun n => ?_, fun v hv => ?_⟩)
          · go_simp
            exact lUpon_one
          subst hv
          go_simp
          refine hK _ ?_
          clear hK K
          refine lexL_step (fun K hK => ⟨by kernel_rfl, ⟨_, rfl⟩, fun n => ?_, fun v hv => ?_⟩)
          · go_simp
            exact lUpon_one
          subst hv
          go_simp
          refine hK _ ?_
          clear hK K
          refine lexL_step (fun K hK => ⟨by kernel_rfl, ⟨_, rfl⟩, fun n => ?_, fun v hv => ?_⟩)
          · go_simp
            exact lUpon_one
          subst hv
          go_simp
          refine hK _ ?_
          clear hK K
          refine lexL_step (fun K hK => ⟨by kernel_rfl, ⟨_, rfl⟩, fun n => ?_, fun v hv => ?_⟩)
          · go_simp
            exact lUpon_one
          subst hv
          go_simp
          refine hK _ ?_
          clear hK K
          refine lexL_step (fun K hK => ⟨by kernel_rfl, ⟨_, rfl⟩, fun n => ?_, fun v hv => ?_⟩)
          · go_simp
            exact lUpon_one
          subst hv
          go_simp
          refine hK _ ?_
          clear hK K
          refine lexL_step (fun K hK => ⟨by kernel_rfl, ⟨_, rfl⟩, fun n => ?_, fun v hv => ?_⟩)
          · go_simp
            exact lUpon_one
          subst hv
          go_simp
          refine hK _ ?_
          clear hK K
          refine lexL_step (fun K hK => ⟨by kernel_rfl, ⟨_, rfl⟩, fun n => ?_, fun v hv => ?_⟩)
          · go_simp
            exact lUpon_one
          subst hv
          go_simp
          refine hK _ ?_
          clear hK K
          refine lexL_step (fun K hK => ⟨by kernel_rfl, ⟨_, rfl⟩, fun n => ?_, fun v hv => ?_⟩)
          · go_simp
            exact lUpon_one
          subst hv
          go_simp
          refine hK _ ?_
          clear hK K
          refine lexL_step (fun K hK => ⟨by kernel_rfl, ⟨_, rfl⟩, fun n => ?_, fun v hv => ?_⟩)
          · go_simp
            exact lUpon_one
          subst hv
          go_simp
          refine hK _ ?_
          clear hK K
          refine lexL_step (fun K hK => ⟨by kernel_rfl, ⟨_, rfl⟩, fun n => ?_, fun v hv => ?_⟩)
          · go_simp
            exact lUpon_one
          subst hv
          go_simp
          refine hK _ ?_
          clear hK K
          refine lexL_end ?_
          intro n9
          have HB2 : HeldR (Below gs w (wr.drewN n9)) := hideR ((unhideR HB).trans ((drawn_below wr n9).mono (Nat.le_of_lt (unhideR HZ))))
          have HS2 : HeldR (SxAt (wr.drewN n9) gs 0 s) := hideR ((unhideR HS).below (drawn_below wr n9) (unhideR HZ))
          have HZ2 : HeldR (gs < (wr.drewN n9).heap.size) := hideR (unhideR HZ)
          clear HB HS HZ d0 d1 d2 d3 d6 d7 d8 xr cw cr
          generalize wr.drewN n9 = W5 at *
          go_wp2
          exact ⟨⟨c + 1, A + cn, by omega, by rw [unhideR HX2]; go_num, rfl, HA2, HB2, HZ2, HS2⟩, by simp [intOf]; omega⟩
        · obtain rfl : c = NW := by omega
          have tx : decide ((X : Int) ≤ (E : Int) + (c : Int) - 1) = false := decide_eq_false (by omega)
          have hxl : ¬ (X : Int) ≤ (E : Int) + (c : Int) - 1 := by omega
          have HA2 : HeldR (A = sumN (fun v => sumN (fun u => cntV p s u v) c) (a + 1)) := hideR (by
            rw [unhideR HAe, ← unhideR HA0]
            rfl)
          have HY2 : HeldR (T + (a + 1) = Y + 1) := hideR (by have := unhideR HY; omega)
          clear hX HAe
          go_wp2
          exact ⟨⟨a + 1, by omega, by rw [unhideR HY2]; go_num, by rw [unhideR HA2], HB, HZ, HS⟩, by simp [intOf]; omega⟩
    · obtain rfl : NH = a := by omega
      have ty : decide ((Y : Int) ≤ (T : Int) + (NH : Int) - 1) = false := decide_eq_false (by omega)
      have hyl : ¬ (Y : Int) ≤ (T : Int) + (NH : Int) - 1 := by omega
      have HAv : HeldR (allV p s = A0) := hideR ((unhideR HAll).trans hA0)
      clear hA0 hY HY HA0
      by_cases hz : A0 = 0
      · have tz : decide (A0 = 0) = true := decide_eq_true hz
        have HF := hideR (unhideR HNone hbad (by rw [unhideR HAv]; exact hz) wr (unhideR HB))
        subst hz
        clear HNone HFin HB HS HZ
        go_wp2
        go_ret2
        exact unhideR HF
      · have tz : decide (A0 = 0) = false := decide_eq_false hz
        obtain ⟨PA, hPA⟩ : ∃ PA, part * A0 = PA := ⟨_, rfl⟩
        have hPAb : 0 ≤ PA ∧ PA ≤ 100 * A0 := by
          rw [← hPA]
          exact ⟨Int.mul_nonneg (by omega) hAb.1, Int.mul_le_mul_of_nonneg_right (by omega) hAb.1⟩
        have wPA : IntKind.i64.wrap (part * A0) = PA := by rw [hPA]; exact iwrap (by omega) (by omega)
        have HPA : HeldR (part * allV p s = PA) := hideR (by rw [unhideR HAv]; exact hPA)
        have HDv : HeldR (∀ (c a X Y : Nat), E + c = X → T + a = Y → distV s (X : Int) (Y : Int) = dV s c a) := hideR (fun c a X Y hx hy => by
          unfold dV
          rw [unhideR HE, unhideR HT, ← hx, ← hy]
          rfl)
        have HIb : HeldR (∀ r c a, c < NW → a < NH → 0 ≤ inV p s r c a ∧ inV p s r c a ≤ 65535) := hideR (fun r c a hc ha => by
          have := unhideR HCb c a hc ha
          unfold inV
          split
          · exact this
          · omega)
        have HRi : HeldR (∀ r a m, a < NH → m ≤ NW → 0 ≤ sumN (fun u => inV p s r u a) m ∧ sumN (fun u => inV p s r u a) m ≤ 16776960) := hideR (fun r a m ha hm => by
          have := sumN_range (B := 65535) (f := fun u => inV p s r u a) (n := m) (fun i hi => unhideR HIb r i a (by omega) ha)
          omega)
        have HAi : HeldR (∀ r m, m ≤ NH → 0 ≤ sumN (fun v => sumN (fun u => inV p s r u v) NW) m ∧ sumN (fun v => sumN (fun u => inV p s r u v) NW) m ≤ 4294901760) := hideR (fun r m hm => by
          have := sumN_range (B := 16776960) (f := fun v => sumN (fun u => inV p s r u v) NW) (n := m) (fun i hi => unhideR HRi r i NW (by omega) (Nat.le_refl _))
          omega)
        have HRb0 := hideR (rbest0 p s part)
        clear hPA HNone
        go_wp2_with fail
        clear d0 d1 d2 d3 d6 d7 d8
        go_loopw [15, 16] (fun bv yv wl => ∃ (a : Nat) (best : Int), a ≤ NH ∧ yv = .int .i64 ((T + a : Nat) : Int) ∧ bv = .int .i64 best ∧ HeldR (RBest p s part a 0 best) ∧ HeldR (Below gs w wl) ∧ HeldR (gs < wl.heap.size) ∧ HeldR (SxAt wl gs 0 s)) (fun _ yv _ => 100000 - (intOf yv).toNat)
        case atStart => exact ⟨0, -1, by omega, rfl, rfl, HRb0, HB, HZ, HS⟩
        case round =>
          clear HB HZ HS HRb0 ty hyl
          obtain ⟨a, best, haN, rfl, rfl, HR, HB, HZ, HS⟩ := hrel
          obtain ⟨d0, d1, d2, d3, d6, d7, d8⟩ := unhideR HSx wr (unhideR HS)
          obtain ⟨Y, hY⟩ : ∃ Y, T + a = Y := ⟨_, rfl⟩
          rw [hY]
          have HY := hideR hY
          by_cases ha : a < NH
          · have ty : decide ((Y : Int) ≤ (T : Int) + (NH : Int) - 1) = true := decide_eq_true (by omega)
            have hyl : (Y : Int) ≤ (T : Int) + (NH : Int) - 1 := by omega
            have hYb : Y ≤ 256 := by omega
            have wY : IntKind.i64.wrap ((Y : Int) + 1) = (Y : Int) + 1 := iwrap (by omega) (by omega)
            clear hY
            go_wp2_with fail
            clear d0 d1 d2 d3 d6 d7 d8
            go_loopw [15, 17] (fun bv xv wl => ∃ (c : Nat) (best : Int), c ≤ NW ∧ xv = .int .i64 ((E + c : Nat) : Int) ∧ bv = .int .i64 best ∧ HeldR (RBest p s part a c best) ∧ HeldR (Below gs w wl) ∧ HeldR (gs < wl.heap.size) ∧ HeldR (SxAt wl gs 0 s)) (fun _ xv _ => 100000 - (intOf xv).toNat)
            case atStart => exact ⟨0, best, by omega, rfl, rfl, HR, HB, HZ, HS⟩
            case round =>
              clear HB HZ HS HR
              obtain ⟨c, best, hcN, rfl, rfl, HR, HB, HZ, HS⟩ := hrel
              obtain ⟨d0, d1, d2, d3, d6, d7, d8⟩ := unhideR HSx wr (unhideR HS)
              obtain ⟨X, hX⟩ : ∃ X, E + c = X := ⟨_, rfl⟩
              rw [hX]
              by_cases hc : c < NW
              · have tx : decide ((X : Int) ≤ (E : Int) + (NW : Int) - 1) = true := decide_eq_true (by omega)
                have hxl : (X : Int) ≤ (E : Int) + (NW : Int) - 1 := by omega
                have hXb : X ≤ 256 := by omega
                have wX : IntKind.i64.wrap ((X : Int) + 1) = (X : Int) + 1 := iwrap (by omega) (by omega)
                have hmd := middle_any s (X : Int) (Y : Int) wr (by omega) (by omega) (by omega) (by omega) n5 n6
                rw [unhideR HDv c a X Y hX (unhideR HY)] at hmd
                have HXc : HeldR (E + (c + 1) = X + 1) := hideR (by omega)
                clear hX
                go_wp2_with fail
                refine hmd.mono ?_
                rintro e w2 ⟨rfl, k2⟩
                replace HB := hideR ((unhideR HB).trans (k2.mono (Nat.le_of_lt (unhideR HZ))))
                replace HS := hideR ((unhideR HS).below k2 (unhideR HZ))
                replace HZ := hideR (Nat.lt_of_lt_of_le (unhideR HZ) k2.size)
                clear hmd k2 d0 d1 d2 d3 d6 d7 d8
                obtain ⟨r, hr⟩ : ∃ r, dV s c a = r := ⟨_, rfl⟩
                rw [hr]
                have HDr := hideR hr
                clear hr
                by_cases hb0 : 0 ≤ best
                · have tb0 : decide (0 ≤ best) = true := decide_eq_true hb0
                  by_cases hb1 : best ≤ r
                  · have tb1 : decide (best ≤ r) = true := decide_eq_true hb1
                    have HR2 : HeldR (RBest p s part a (c + 1) best) := hideR ((unhideR HR).skip (.inl (by rw [unhideR HDr]; exact ⟨hb0, hb1⟩)))
                    clear HR
                    go_wp2
                    exact ⟨⟨c + 1, best, by omega, by rw [unhideR HXc]; go_num, rfl, HR2, HB, HZ, HS⟩, by simp [intOf]; omega⟩
                  · have tb1 : decide (best ≤ r) = false := decide_eq_false hb1
                    have HS0 : HeldR ((0 : Int) = sumN (fun v => sumN (fun u => inV p s r u v) NW) 0) := hideR rfl
                    obtain ⟨d0, d1, d2, d3, d6, d7, d8⟩ := unhideR HSx w2 (unhideR HS)
                    go_wp2_with fail
                    clear d0 d1 d2 d3 d6 d7 d8
                    go_loopw [19, 20] (fun sv yv wl => ∃ (m : Nat) (S : Int), m ≤ NH ∧ yv = .int .i64 ((T + m : Nat) : Int) ∧ sv = .int .i64 S ∧ HeldR (S = sumN (fun v => sumN (fun u => inV p s r u v) NW) m) ∧ HeldR (Below gs w wl) ∧ HeldR (gs < wl.heap.size) ∧ HeldR (SxAt wl gs 0 s)) (fun _ yv _ => 100000 - (intOf yv).toNat)
                    case atStart => exact ⟨0, 0, by omega, rfl, rfl, HS0, HB, HZ, HS⟩
                    case round =>
                      clear HB HZ HS HS0
                      obtain ⟨m, S, hmN, rfl, rfl, HSe, HB, HZ, HS⟩ := hrel
                      obtain ⟨d0, d1, d2, d3, d6, d7, d8⟩ := unhideR HSx wr (unhideR HS)
                      obtain ⟨V, hV⟩ : ∃ V, T + m = V := ⟨_, rfl⟩
                      rw [hV]
                      have hSb : 0 ≤ S ∧ S ≤ 4294901760 := by rw [unhideR HSe]; exact unhideR HAi r m hmN
                      have HV := hideR hV
                      by_cases hm : m < NH
                      · have ty : decide ((V : Int) ≤ (T : Int) + (NH : Int) - 1) = true := decide_eq_true (by omega)
                        have hyl : (V : Int) ≤ (T : Int) + (NH : Int) - 1 := by omega
                        have hVb : V ≤ 256 := by omega
                        have wV : IntKind.i64.wrap ((V : Int) + 1) = (V : Int) + 1 := iwrap (by omega) (by omega)
                        have HS0 : HeldR (S = S + sumN (fun u => inV p s r u m) 0) := hideR (by unfold sumN; omega)
                        clear hV
                        go_wp2_with fail
                        clear d0 d1 d2 d3 d6 d7 d8
                        go_loopw [19, 21] (fun sv xv wl => ∃ (j : Nat) (Q : Int), j ≤ NW ∧ xv = .int .i64 ((E + j : Nat) : Int) ∧ sv = .int .i64 Q ∧ HeldR (Q = S + sumN (fun u => inV p s r u m) j) ∧ HeldR (Below gs w wl) ∧ HeldR (gs < wl.heap.size) ∧ HeldR (SxAt wl gs 0 s)) (fun _ xv _ => 100000 - (intOf xv).toNat)
                        case atStart => exact ⟨0, S, by omega, rfl, rfl, HS0, HB, HZ, HS⟩
                        case round =>
                          clear HB HZ HS HS0
                          obtain ⟨j, Q, hjN, rfl, rfl, HQe, HB, HZ, HS⟩ := hrel
                          obtain ⟨d0, d1, d2, d3, d6, d7, d8⟩ := unhideR HSx wr (unhideR HS)
                          obtain ⟨U, hU⟩ : ∃ U, E + j = U := ⟨_, rfl⟩
                          rw [hU]
                          by_cases hj : j < NW
                          · have tx : decide ((U : Int) ≤ (E : Int) + (NW : Int) - 1) = true := decide_eq_true (by omega)
                            have hxl : (U : Int) ≤ (E : Int) + (NW : Int) - 1 := by omega
                            have hUb : U ≤ 256 := by omega
                            have wU : IntKind.i64.wrap ((U : Int) + 1) = (U : Int) + 1 := iwrap (by omega) (by omega)
                            have hmd := middle_any s (U : Int) (V : Int) wr (by omega) (by omega) (by omega) (by omega) n5 n6
                            have hdd : distV s (U : Int) (V : Int) = dV s j m := unhideR HDv j m U V hU (unhideR HV)
                            rw [hdd] at hmd
                            have HX2 : HeldR (E + (j + 1) = U + 1) := hideR (by omega)
                            have hQb : 0 ≤ Q ∧ Q ≤ 4400000000 := by
                              rw [unhideR HQe]
                              have := unhideR HRi r m j hm hjN
                              omega
                            have hcb := unhideR HCb j m hj hm
                            have HIn : HeldR (inV p s r j m = if dV s j m ≤ r then cntV p s j m else 0) := hideR rfl
                            have HIs : HeldR (∀ z, z = inV p s r j m → Q + z = S + sumN (fun u => inV p s r u m) (j + 1)) := hideR (fun z hz => by
                              have := unhideR HQe
                              show _ = S + (sumN (fun u => inV p s r u m) j + inV p s r j m)
                              omega)
                            have HRu : HeldR (∀ u, Below gs w u → u.cell? ⟨bl, ol + (V * W + U), none⟩ = some (.int .i64 (cntV p s j m))) := hideR (fun u k => by
                              have := unhideR HRd u k j m hj hm
                              rw [unhideR HV, hU] at this
                              exact this)
                            have hix := unhideR HIx j m hj hm
                            rw [unhideR HV, hU] at hix
                            clear hdd hU HQe
                            go_wp2_with fail
                            refine hmd.mono ?_
                            rintro e w3 ⟨rfl, k3⟩
                            replace HB := hideR ((unhideR HB).trans (k3.mono (Nat.le_of_lt (unhideR HZ))))
                            replace HS := hideR ((unhideR HS).below k3 (unhideR HZ))
                            replace HZ := hideR (Nat.lt_of_lt_of_le (unhideR HZ) k3.size)
                            clear hmd k3 d0 d1 d2 d3 d6 d7 d8
                            generalize dV s j m = d at *
                            generalize cntV p s j m = cn at *
                            by_cases hd : d ≤ r
                            · have td : decide (d ≤ r) = true := decide_eq_true hd
                              have HQ2 := hideR (unhideR HIs cn (by rw [unhideR HIn, if_pos hd]))
                              have xr := unhideR HRu w3 (unhideR HB)
                              obtain ⟨cw, cr⟩ := unhideR HPc w3 (unhideR HB)
                              obtain ⟨YW, hYW⟩ : ∃ YW, V * W = YW := ⟨_, rfl⟩
                              have hYWb : YW ≤ 65536 := by rw [← hYW]; exact Nat.le_trans (Nat.mul_le_mul hVb hWb) (by decide)
                              have wYW : IntKind.i64.wrap ((V : Int) * (W : Int)) = (YW : Nat) := by rw [← Int.natCast_mul, hYW]; exact iwrap (by omega) (by omega)
                              rw [hYW] at xr hix
                              obtain ⟨IX, hIX⟩ : ∃ IX, YW + U = IX := ⟨_, rfl⟩
                              have wIX : IntKind.i64.wrap ((YW : Int) + (U : Int)) = (IX : Nat) := by rw [← hIX]; exact iwrap (by omega) (by omega)
                              rw [hIX] at xr hix
                              have hixi : (IX : Int) < (len : Int) := by omega
                              have wQ : IntKind.i64.wrap (Q + cn) = Q + cn := iwrap (by omega) (by omega)
                              clear hYW hIX HIs HIn HRu
                              go_wp2_with fail
                              refine wp_region_lets [(· = .int .i64 Q), (· = .pointer (some ⟨b, o, none⟩)), (· = .pointer (some ⟨b, o, none⟩)), (· = .pointer (some ⟨b, o + 2, none⟩)), (· = .slice (some ⟨bl, ol, none⟩) len cap), (· = .int .i64 (V : Nat)), (· = .pointer (some ⟨b, o, none⟩)), (· = .pointer (some ⟨b, o, none⟩)), (· = .pointer (some ⟨b, o, none⟩)), (· = .int .i64 (W : Nat)), (· = .int .i64 (YW : Nat)), (· = .int .i64 (U : Nat)), (· = .int .i64 (IX : Nat)), (· = .pointer (some ⟨bl, ol + IX, none⟩)), (· = .int .i64 cn), (· = .int .i64 (Q + cn)), (· = .int .i64 (Q + cn))] (by kernel_rfl) (by kernel_rfl) ?_
                              refine lexL_step (fun K hK => ⟨by kernel_rfl, ⟨_, rfl⟩, fun n => ?_, fun v hv => ?_⟩)
                              · go_simp
                                exact lUpon_one
                              subst hv
                              go_simp
                              refine hK _ ?_
                              clear hK K
                              refine lexL_step (fun K hK => ⟨by kernel_rfl, ⟨_, rfl⟩, fun n => ?_, fun v hv => ?_⟩)
                              · go_simp
                                exact lUpon_one
                              subst hv
                              go_simp
                              refine hK _ ?_
                              clear hK K
                              refine lexL_step (fun K hK => ⟨by kernel_rfl, ⟨_, rfl⟩, fun n => ?_, fun v hv => ?_⟩)
                              · go_simp
                                exact lUpon_one
                              subst hv
                              go_simp
                              refine hK _ ?_
                              clear hK K
                              refine lexL_step (fun K hK => ⟨by kernel_rfl, ⟨_, rfl⟩, fun n => ?_, fun v hv => ?_⟩)
                              · go_simp
                                exact lUpon_one
                              subst hv
                              go_simp
                              refine hK _ ?_
                              clear hK K
                              refine lexL_step (fun K hK => ⟨by kernel_rfl, ⟨_, rfl⟩, fun n => ?_, fun v hv => ?_⟩)
                              · go_simp
                                exact lUpon_one
                              subst hv
                              go_simp
                              refine hK _ ?_
                              clear hK K
                              refine lexL_step (fun K hK => ⟨by kernel_rfl, ⟨_, rfl⟩, fun n => ?_, fun v hv => ?_⟩)
                              · go_simp
                                exact lUpon_one
                              subst hv
                              go_simp
                              refine hK _ ?_
                              clear hK K
                              refine lexL_step (fun K hK => ⟨by kernel_rfl, ⟨_, rfl⟩, fun n => ?_, fun v hv => ?_⟩)
                              · go_simp
                                exact lUpon_one
                              subst hv
                              go_simp
                              refine hK _ ?_
                              clear hK K
                              refine lexL_step (fun K hK => ⟨by kernel_rfl, ⟨_, rfl⟩, fun n => ?_, fun v hv => ?_⟩)
                              · go_simp
                                exact lUpon_one
                              subst hv
                              go_simp
                              refine hK _ ?_
                              clear hK K
                              refine lexL_step (fun K hK => ⟨by kernel_rfl, ⟨_, rfl⟩, fun n => ?_, fun v hv => ?_⟩)
                              · go_simp
                                exact lUpon_one
                              subst hv
                              go_simp
                              refine hK _ ?_
                              clear hK K
                              refine lexL_step (fun K hK => ⟨by kernel_rfl, ⟨_, rfl⟩, fun n => ?_, fun v hv => ?_⟩)
                              · go_simp
                                exact lUpon_one
                              subst hv
                              go_simp
                              refine hK _ ?_
                              clear hK K
                              refine lexL_step (fun K hK => ⟨by kernel_rfl, ⟨_, rfl⟩, fun n => ?_, fun v hv => ?_⟩)
                              · go_simp
                                exact lUpon_one
                              subst hv
                              go_simp
                              refine hK _ ?_
                              clear hK K
                              refine lexL_step (fun K hK => ⟨by kernel_rfl, ⟨_, rfl⟩, fun n => ?_, fun v hv => ?_⟩)
                              · go_simp
                                exact lUpon_one
                              subst hv
                              go_simp
                              refine hK _ ?_
                              clear hK K
                              refine lexL_step (fun K hK => ⟨by kernel_rfl, ⟨_, rfl⟩, fun n => ?_, fun v hv => ?_⟩)
                              · go_simp
                                exact lUpon_one
                              subst hv
                              go_simp
                              refine hK _ ?_
                              clear hK K
                              refine lexL_step (fun K hK => ⟨by kernel_rfl, ⟨_, rfl⟩, fun n => ?_, fun v hv => ?_⟩)
                              · go_simp
                                exact lUpon_one
                              subst hv
                              go_simp
                              refine hK _ ?_
                              clear hK K
                              refine lexL_step (fun K hK => ⟨by kernel_rfl, ⟨_, rfl⟩, fun n => ?_, fun v hv => ?_⟩)
                              · go_simp
                                exact lUpon_one
                              subst hv
                              go_simp
                              refine hK _ ?_
                              clear hK K
                              refine lexL_step (fun K hK => ⟨by kernel_rfl, ⟨_, rfl⟩, fun n => ?_, fun v hv => ?_⟩)
                              · go_simp
                                exact lUpon_one
                              subst hv
                              go_simp
                              refine hK _ ?_
                              clear hK K
                              refine lexL_step (fun K hK => ⟨by kernel_rfl, ⟨_, rfl⟩, fun n => ?_, fun v hv => ?_⟩)
                              · go_simp
                                exact lUpon_one
                              subst hv
                              go_simp
                              refine hK _ ?_
                              clear hK K
                              refine lexL_end ?_
                              intro n9
                              have HB2 : HeldR (Below gs w (w3.drewN n9)) := hideR ((unhideR HB).trans ((drawn_below w3 n9).mono (Nat.le_of_lt (unhideR HZ))))
                              have HS2 : HeldR (SxAt (w3.drewN n9) gs 0 s) := hideR ((unhideR HS).below (drawn_below w3 n9) (unhideR HZ))
                              have HZ2 : HeldR (gs < (w3.drewN n9).heap.size) := hideR (unhideR HZ)
                              clear HB HS HZ xr cw cr
                              generalize w3.drewN n9 = W5 at *
                              go_wp2
                              exact ⟨⟨j + 1, Q + cn, by omega, by rw [unhideR HX2]; go_num, rfl, HQ2, HB2, HZ2, HS2⟩, by simp [intOf]; omega⟩
                            · have td : decide (d ≤ r) = false := decide_eq_false hd
                              have HQ2 : HeldR (Q = S + sumN (fun u => inV p s r u m) (j + 1)) := hideR (by
                                have := unhideR HIs 0 (by rw [unhideR HIn, if_neg hd])
                                omega)
                              clear HIs HIn HRu hix
                              go_wp2
                              exact ⟨⟨j + 1, Q, by omega, by rw [unhideR HX2]; go_num, rfl, HQ2, HB, HZ, HS⟩, by simp [intOf]; omega⟩
                          · have hjj : j = NW := by omega
                            have tx : decide ((U : Int) ≤ (E : Int) + (NW : Int) - 1) = false := decide_eq_false (by omega)
                            have hxl : ¬ (U : Int) ≤ (E : Int) + (NW : Int) - 1 := by omega
                            have HS2 : HeldR (Q = sumN (fun v => sumN (fun u => inV p s r u v) NW) (m + 1)) := hideR (by
                              rw [unhideR HQe, hjj, unhideR HSe]
                              rfl)
                            have HV2 : HeldR (T + (m + 1) = V + 1) := hideR (by have := unhideR HV; omega)
                            clear hU HQe hjj
                            go_wp2
                            exact ⟨⟨m + 1, Q, by omega, by rw [unhideR HV2]; go_num, rfl, HS2, HB, HZ, HS⟩, by simp [intOf]; omega⟩
                      · have hmm : m = NH := by omega
                        have ty : decide ((V : Int) ≤ (T : Int) + (NH : Int) - 1) = false := decide_eq_false (by omega)
                        have hyl : ¬ (V : Int) ≤ (T : Int) + (NH : Int) - 1 := by omega
                        have HOkk : HeldR (okR p s part r ↔ PA ≤ 100 * S) := hideR (by
                          unfold okR
                          rw [unhideR HPA, unhideR HSe, hmm]
                          unfold sumV2
                          rw [unhideR HNW, unhideR HNH])
                        have w1S : IntKind.i64.wrap (100 * S) = 100 * S := iwrap (by omega) (by omega)
                        clear hV hmm HSe
                        by_cases hok : PA ≤ 100 * S
                        · have tk : decide (PA ≤ 100 * S) = true := decide_eq_true hok
                          have HR2 : HeldR (RBest p s part a (c + 1) r) := hideR (by
                            have := (unhideR HR).take (by rw [unhideR HNW]; exact hc) (by rw [unhideR HNH]; exact ha) (by rw [unhideR HDr]; omega) (by rw [unhideR HDr]; exact (unhideR HOkk).2 hok)
                            rw [unhideR HDr] at this
                            exact this)
                          clear HOkk HR
                          go_wp2
                          exact ⟨⟨c + 1, r, by omega, by rw [unhideR HXc]; go_num, rfl, HR2, HB, HZ, HS⟩, by simp [intOf]; omega⟩
                        · have tk : decide (PA ≤ 100 * S) = false := decide_eq_false hok
                          have HR2 : HeldR (RBest p s part a (c + 1) best) := hideR ((unhideR HR).skip (.inr (by rw [unhideR HDr]; exact fun q => hok ((unhideR HOkk).1 q))))
                          clear HOkk HR
                          go_wp2
                          exact ⟨⟨c + 1, best, by omega, by rw [unhideR HXc]; go_num, rfl, HR2, HB, HZ, HS⟩, by simp [intOf]; omega⟩
                · have tb0 : decide (0 ≤ best) = false := decide_eq_false hb0
                  have HS0 : HeldR ((0 : Int) = sumN (fun v => sumN (fun u => inV p s r u v) NW) 0) := hideR rfl
                  obtain ⟨d0, d1, d2, d3, d6, d7, d8⟩ := unhideR HSx w2 (unhideR HS)
                  go_wp2_with fail
                  clear d0 d1 d2 d3 d6 d7 d8
                  go_loopw [19, 20] (fun sv yv wl => ∃ (m : Nat) (S : Int), m ≤ NH ∧ yv = .int .i64 ((T + m : Nat) : Int) ∧ sv = .int .i64 S ∧ HeldR (S = sumN (fun v => sumN (fun u => inV p s r u v) NW) m) ∧ HeldR (Below gs w wl) ∧ HeldR (gs < wl.heap.size) ∧ HeldR (SxAt wl gs 0 s)) (fun _ yv _ => 100000 - (intOf yv).toNat)
                  case atStart => exact ⟨0, 0, by omega, rfl, rfl, HS0, HB, HZ, HS⟩
                  case round =>
                    clear HB HZ HS HS0
                    obtain ⟨m, S, hmN, rfl, rfl, HSe, HB, HZ, HS⟩ := hrel
                    obtain ⟨d0, d1, d2, d3, d6, d7, d8⟩ := unhideR HSx wr (unhideR HS)
                    obtain ⟨V, hV⟩ : ∃ V, T + m = V := ⟨_, rfl⟩
                    rw [hV]
                    have hSb : 0 ≤ S ∧ S ≤ 4294901760 := by rw [unhideR HSe]; exact unhideR HAi r m hmN
                    have HV := hideR hV
                    by_cases hm : m < NH
                    · have ty : decide ((V : Int) ≤ (T : Int) + (NH : Int) - 1) = true := decide_eq_true (by omega)
                      have hyl : (V : Int) ≤ (T : Int) + (NH : Int) - 1 := by omega
                      have hVb : V ≤ 256 := by omega
                      have wV : IntKind.i64.wrap ((V : Int) + 1) = (V : Int) + 1 := iwrap (by omega) (by omega)
                      have HS0 : HeldR (S = S + sumN (fun u => inV p s r u m) 0) := hideR (by unfold sumN; omega)
                      clear hV
                      go_wp2_with fail
                      clear d0 d1 d2 d3 d6 d7 d8
                      go_loopw [19, 21] (fun sv xv wl => ∃ (j : Nat) (Q : Int), j ≤ NW ∧ xv = .int .i64 ((E + j : Nat) : Int) ∧ sv = .int .i64 Q ∧ HeldR (Q = S + sumN (fun u => inV p s r u m) j) ∧ HeldR (Below gs w wl) ∧ HeldR (gs < wl.heap.size) ∧ HeldR (SxAt wl gs 0 s)) (fun _ xv _ => 100000 - (intOf xv).toNat)
                      case atStart => exact ⟨0, S, by omega, rfl, rfl, HS0, HB, HZ, HS⟩
                      case round =>
                        clear HB HZ HS HS0
                        obtain ⟨j, Q, hjN, rfl, rfl, HQe, HB, HZ, HS⟩ := hrel
                        obtain ⟨d0, d1, d2, d3, d6, d7, d8⟩ := unhideR HSx wr (unhideR HS)
                        obtain ⟨U, hU⟩ : ∃ U, E + j = U := ⟨_, rfl⟩
                        rw [hU]
                        by_cases hj : j < NW
                        · have tx : decide ((U : Int) ≤ (E : Int) + (NW : Int) - 1) = true := decide_eq_true (by omega)
                          have hxl : (U : Int) ≤ (E : Int) + (NW : Int) - 1 := by omega
                          have hUb : U ≤ 256 := by omega
                          have wU : IntKind.i64.wrap ((U : Int) + 1) = (U : Int) + 1 := iwrap (by omega) (by omega)
                          have hmd := middle_any s (U : Int) (V : Int) wr (by omega) (by omega) (by omega) (by omega) n5 n6
                          have hdd : distV s (U : Int) (V : Int) = dV s j m := unhideR HDv j m U V hU (unhideR HV)
                          rw [hdd] at hmd
                          have HX2 : HeldR (E + (j + 1) = U + 1) := hideR (by omega)
                          have hQb : 0 ≤ Q ∧ Q ≤ 4400000000 := by
                            rw [unhideR HQe]
                            have := unhideR HRi r m j hm hjN
                            omega
                          have hcb := unhideR HCb j m hj hm
                          have HIn : HeldR (inV p s r j m = if dV s j m ≤ r then cntV p s j m else 0) := hideR rfl
                          have HIs : HeldR (∀ z, z = inV p s r j m → Q + z = S + sumN (fun u => inV p s r u m) (j + 1)) := hideR (fun z hz => by
                            have := unhideR HQe
                            show _ = S + (sumN (fun u => inV p s r u m) j + inV p s r j m)
                            omega)
                          have HRu : HeldR (∀ u, Below gs w u → u.cell? ⟨bl, ol + (V * W + U), none⟩ = some (.int .i64 (cntV p s j m))) := hideR (fun u k => by
                            have := unhideR HRd u k j m hj hm
                            rw [unhideR HV, hU] at this
                            exact this)
                          have hix := unhideR HIx j m hj hm
                          rw [unhideR HV, hU] at hix
                          clear hdd hU HQe
                          go_wp2_with fail
                          refine hmd.mono ?_
                          rintro e w3 ⟨rfl, k3⟩
                          replace HB := hideR ((unhideR HB).trans (k3.mono (Nat.le_of_lt (unhideR HZ))))
                          replace HS := hideR ((unhideR HS).below k3 (unhideR HZ))
                          replace HZ := hideR (Nat.lt_of_lt_of_le (unhideR HZ) k3.size)
                          clear hmd k3 d0 d1 d2 d3 d6 d7 d8
                          generalize dV s j m = d at *
                          generalize cntV p s j m = cn at *
                          by_cases hd : d ≤ r
                          · have td : decide (d ≤ r) = true := decide_eq_true hd
                            have HQ2 := hideR (unhideR HIs cn (by rw [unhideR HIn, if_pos hd]))
                            have xr := unhideR HRu w3 (unhideR HB)
                            obtain ⟨cw, cr⟩ := unhideR HPc w3 (unhideR HB)
                            obtain ⟨YW, hYW⟩ : ∃ YW, V * W = YW := ⟨_, rfl⟩
                            have hYWb : YW ≤ 65536 := by rw [← hYW]; exact Nat.le_trans (Nat.mul_le_mul hVb hWb) (by decide)
                            have wYW : IntKind.i64.wrap ((V : Int) * (W : Int)) = (YW : Nat) := by rw [← Int.natCast_mul, hYW]; exact iwrap (by omega) (by omega)
                            rw [hYW] at xr hix
                            obtain ⟨IX, hIX⟩ : ∃ IX, YW + U = IX := ⟨_, rfl⟩
                            have wIX : IntKind.i64.wrap ((YW : Int) + (U : Int)) = (IX : Nat) := by rw [← hIX]; exact iwrap (by omega) (by omega)
                            rw [hIX] at xr hix
                            have hixi : (IX : Int) < (len : Int) := by omega
                            have wQ : IntKind.i64.wrap (Q + cn) = Q + cn := iwrap (by omega) (by omega)
                            clear hYW hIX HIs HIn HRu
                            go_wp2_with fail
                            refine wp_region_lets [(· = .int .i64 Q), (· = .pointer (some ⟨b, o, none⟩)), (· = .pointer (some ⟨b, o, none⟩)), (· = .pointer (some ⟨b, o + 2, none⟩)), (· = .slice (some ⟨bl, ol, none⟩) len cap), (· = .int .i64 (V : Nat)), (· = .pointer (some ⟨b, o, none⟩)), (· = .pointer (some ⟨b, o, none⟩)), (· = .pointer (some ⟨b, o, none⟩)), (· = .int .i64 (W : Nat)), (· = .int .i64 (YW : Nat)), (· = .int .i64 (U : Nat)), (· = .int .i64 (IX : Nat)), (· = .pointer (some ⟨bl, ol + IX, none⟩)), (· = .int .i64 cn), (· = .int .i64 (Q + cn)), (· = .int .i64 (Q + cn))] (by kernel_rfl) (by kernel_rfl) ?_
                            refine lexL_step (fun K hK => ⟨by kernel_rfl, ⟨_, rfl⟩, fun n => ?_, fun v hv => ?_⟩)
                            · go_simp
                              exact lUpon_one
                            subst hv
                            go_simp
                            refine hK _ ?_
                            clear hK K
                            refine lexL_step (fun K hK => ⟨by kernel_rfl, ⟨_, rfl⟩, fun n => ?_, fun v hv => ?_⟩)
                            · go_simp
                              exact lUpon_one
                            subst hv
                            go_simp
                            refine hK _ ?_
                            clear hK K
                            refine lexL_step (fun K hK => ⟨by kernel_rfl, ⟨_, rfl⟩, fun n => ?_, fun v hv => ?_⟩)
                            · go_simp
                              exact lUpon_one
                            subst hv
                            go_simp
                            refine hK _ ?_
                            clear hK K
                            refine lexL_step (fun K hK => ⟨by kernel_rfl, ⟨_, rfl⟩, fun n => ?_, fun v hv => ?_⟩)
                            · go_simp
                              exact lUpon_one
                            subst hv
                            go_simp
                            refine hK _ ?_
                            clear hK K
                            refine lexL_step (fun K hK => ⟨by kernel_rfl, ⟨_, rfl⟩, fun n => ?_, fun v hv => ?_⟩)
                            · go_simp
                              exact lUpon_one
                            subst hv
                            go_simp
                            refine hK _ ?_
                            clear hK K
                            refine lexL_step (fun K hK => ⟨by kernel_rfl, ⟨_, rfl⟩, fun n => ?_, fun v hv => ?_⟩)
                            · go_simp
                              exact lUpon_one
                            subst hv
                            go_simp
                            refine hK _ ?_
                            clear hK K
                            refine lexL_step (fun K hK => ⟨by kernel_rfl, ⟨_, rfl⟩, fun n => ?_, fun v hv => ?_⟩)
                            · go_simp
                              exact lUpon_one
                            subst hv
                            go_simp
                            refine hK _ ?_
                            clear hK K
                            refine lexL_step (fun K hK => ⟨by kernel_rfl, ⟨_, rfl⟩, fun n => ?_, fun v hv => ?_⟩)
                            · go_simp
                              exact lUpon_one
                            subst hv
                            go_simp
                            refine hK _ ?_
                            clear hK K
                            refine lexL_step (fun K hK => ⟨by kernel_rfl, ⟨_, rfl⟩, fun n => ?_, fun v hv => ?_⟩)
                            · go_simp
                              exact lUpon_one
                            subst hv
                            go_simp
                            refine hK _ ?_
                            clear hK K
                            refine lexL_step (fun K hK => ⟨by kernel_rfl, ⟨_, rfl⟩, fun n => ?_, fun v hv => ?_⟩)
                            · go_simp
                              exact lUpon_one
                            subst hv
                            go_simp
                            refine hK _ ?_
                            clear hK K
                            refine lexL_step (fun K hK => ⟨by kernel_rfl, ⟨_, rfl⟩, fun n => ?_, fun v hv => ?_⟩)
                            · go_simp
                              exact lUpon_one
                            subst hv
                            go_simp
                            refine hK _ ?_
                            clear hK K
                            refine lexL_step (fun K hK => ⟨by kernel_rfl, ⟨_, rfl⟩, fun n => ?_, fun v hv => ?_⟩)
                            · go_simp
                              exact lUpon_one
                            subst hv
                            go_simp
                            refine hK _ ?_
                            clear hK K
                            refine lexL_step (fun K hK => ⟨by kernel_rfl, ⟨_, rfl⟩, fun n => ?_, fun v hv => ?_⟩)
                            · go_simp
                              exact lUpon_one
                            subst hv
                            go_simp
                            refine hK _ ?_
                            clear hK K
                            refine lexL_step (fun K hK => ⟨by kernel_rfl, ⟨_, rfl⟩, fun n => ?_, fun v hv => ?_⟩)
                            · go_simp
                              exact lUpon_one
                            subst hv
                            go_simp
                            refine hK _ ?_
                            clear hK K
                            refine lexL_step (fun K hK => ⟨by kernel_rfl, ⟨_, rfl⟩, fun n => ?_, fun v hv => ?_⟩)
                            · go_simp
                              exact lUpon_one
                            subst hv
                            go_simp
                            refine hK _ ?_
                            clear hK K
                            refine lexL_step (fun K hK => ⟨by kernel_rfl, ⟨_, rfl⟩, fun n => ?_, fun v hv => ?_⟩)
                            · go_simp
                              exact lUpon_one
                            subst hv
                            go_simp
                            refine hK _ ?_
                            clear hK K
                            refine lexL_step (fun K hK => ⟨by kernel_rfl, ⟨_, rfl⟩, fun n => ?_, fun v hv => ?_⟩)
                            · go_simp
                              exact lUpon_one
                            subst hv
                            go_simp
                            refine hK _ ?_
                            clear hK K
                            refine lexL_end ?_
                            intro n9
                            have HB2 : HeldR (Below gs w (w3.drewN n9)) := hideR ((unhideR HB).trans ((drawn_below w3 n9).mono (Nat.le_of_lt (unhideR HZ))))
                            have HS2 : HeldR (SxAt (w3.drewN n9) gs 0 s) := hideR ((unhideR HS).below (drawn_below w3 n9) (unhideR HZ))
                            have HZ2 : HeldR (gs < (w3.drewN n9).heap.size) := hideR (unhideR HZ)
                            clear HB HS HZ xr cw cr
                            generalize w3.drewN n9 = W5 at *
                            go_wp2
                            exact ⟨⟨j + 1, Q + cn, by omega, by rw [unhideR HX2]; go_num, rfl, HQ2, HB2, HZ2, HS2⟩, by simp [intOf]; omega⟩
                          · have td : decide (d ≤ r) = false := decide_eq_false hd
                            have HQ2 : HeldR (Q = S + sumN (fun u => inV p s r u m) (j + 1)) := hideR (by
                              have := unhideR HIs 0 (by rw [unhideR HIn, if_neg hd])
                              omega)
                            clear HIs HIn HRu hix
                            go_wp2
                            exact ⟨⟨j + 1, Q, by omega, by rw [unhideR HX2]; go_num, rfl, HQ2, HB, HZ, HS⟩, by simp [intOf]; omega⟩
                        · have hjj : j = NW := by omega
                          have tx : decide ((U : Int) ≤ (E : Int) + (NW : Int) - 1) = false := decide_eq_false (by omega)
                          have hxl : ¬ (U : Int) ≤ (E : Int) + (NW : Int) - 1 := by omega
                          have HS2 : HeldR (Q = sumN (fun v => sumN (fun u => inV p s r u v) NW) (m + 1)) := hideR (by
                            rw [unhideR HQe, hjj, unhideR HSe]
                            rfl)
                          have HV2 : HeldR (T + (m + 1) = V + 1) := hideR (by have := unhideR HV; omega)
                          clear hU HQe hjj
                          go_wp2
                          exact ⟨⟨m + 1, Q, by omega, by rw [unhideR HV2]; go_num, rfl, HS2, HB, HZ, HS⟩, by simp [intOf]; omega⟩
                    · have hmm : m = NH := by omega
                      have ty : decide ((V : Int) ≤ (T : Int) + (NH : Int) - 1) = false := decide_eq_false (by omega)
                      have hyl : ¬ (V : Int) ≤ (T : Int) + (NH : Int) - 1 := by omega
                      have HOkk : HeldR (okR p s part r ↔ PA ≤ 100 * S) := hideR (by
                        unfold okR
                        rw [unhideR HPA, unhideR HSe, hmm]
                        unfold sumV2
                        rw [unhideR HNW, unhideR HNH])
                      have w1S : IntKind.i64.wrap (100 * S) = 100 * S := iwrap (by omega) (by omega)
                      clear hV hmm HSe
                      by_cases hok : PA ≤ 100 * S
                      · have tk : decide (PA ≤ 100 * S) = true := decide_eq_true hok
                        have HR2 : HeldR (RBest p s part a (c + 1) r) := hideR (by
                          have := (unhideR HR).take (by rw [unhideR HNW]; exact hc) (by rw [unhideR HNH]; exact ha) (by rw [unhideR HDr]; omega) (by rw [unhideR HDr]; exact (unhideR HOkk).2 hok)
                          rw [unhideR HDr] at this
                          exact this)
                        clear HOkk HR
                        go_wp2
                        exact ⟨⟨c + 1, r, by omega, by rw [unhideR HXc]; go_num, rfl, HR2, HB, HZ, HS⟩, by simp [intOf]; omega⟩
                      · have tk : decide (PA ≤ 100 * S) = false := decide_eq_false hok
                        have HR2 : HeldR (RBest p s part a (c + 1) best) := hideR ((unhideR HR).skip (.inr (by rw [unhideR HDr]; exact fun q => hok ((unhideR HOkk).1 q))))
                        clear HOkk HR
                        go_wp2
                        exact ⟨⟨c + 1, best, by omega, by rw [unhideR HXc]; go_num, rfl, HR2, HB, HZ, HS⟩, by simp [intOf]; omega⟩
              · have hcc : c = NW := by omega
                have tx : decide ((X : Int) ≤ (E : Int) + (NW : Int) - 1) = false := decide_eq_false (by omega)
                have hxl : ¬ (X : Int) ≤ (E : Int) + (NW : Int) - 1 := by omega
                have HR2 : HeldR (RBest p s part (a + 1) 0 best) := hideR (by
                  have := unhideR HR
                  rw [hcc, ← unhideR HNW] at this
                  exact this.row)
                have HY2 : HeldR (T + (a + 1) = Y + 1) := hideR (by have := unhideR HY; omega)
                clear hX HR hcc
                go_wp2
                exact ⟨⟨a + 1, best, by omega, by rw [unhideR HY2]; go_num, rfl, HR2, HB, HZ, HS⟩, by simp [intOf]; omega⟩
          · have haa : a = NH := by omega
            have ty : decide ((Y : Int) ≤ (T : Int) + (NH : Int) - 1) = false := decide_eq_false (by omega)
            have hyl : ¬ (Y : Int) ≤ (T : Int) + (NH : Int) - 1 := by omega
            have HI : HeldR (IsReach p s part best) := hideR (by
              have := unhideR HR
              rw [haa, ← unhideR HNH] at this
              exact this.done (by rw [unhideR HNW]; exact hNW0) (by rw [unhideR HNH]; exact hNH0) (by rw [unhideR HAv]; exact hAb.1) (by omega))
            have HF := hideR (unhideR HFin hbad (by rw [unhideR HAv]; exact hz) best wr (unhideR HI) (unhideR HB))
            clear hY HR haa HI HFin HB HS HZ
            go_wp2
            go_ret2
            exact unhideR HF
end Go.Proofs.YtmgnobeaacjdjajGreatDoor
