/-
  The law EventWindows: its walk, out of the program's Events and Windows by their contracts.
-/
import Derived.Test.YtlhjmmcimhceeahDoorEvWd
namespace Go.Proofs.YtlhjmmcimhceeahDoor
open Go Go.RowKit

set_option maxRecDepth 100000 in
set_option maxHeartbeats 6400000 in
theorem windows_walk {a : Nat → Addr} (hE : EventsOK a) (hWi : WinOK a) {v : Value} {o : Option Tr} (adl : Option Addr) (capl : Nat) (Ll : List Int) (lev : Int) (w : World) (hS : Sents w a) (h : TrArg w v o) (hI : IntArg w adl capl Ll) (hLl : Ll.length * 8 ≤ 140737488355328) :
    Calls Tryd.prog 3 #[v, .int .i64 lev, .slice adl Ll.length capl] w fun e w' => e = .returned (.bool true) ∧ Below w.heap.size w w' := by
  have htr := tracked_any hE w hS
  have HS := hideR hS
  have HI := hideR hI
  have hlev := fun u => levelLarge_any' lev u
  obtain ⟨lg, hlg⟩ : ∃ g : Bool, decide (1099511627776 < lev ∨ lev < -1099511627776) = g := ⟨_, rfl⟩
  rw [hlg] at hlev
  have HLG := hideR hlg
  clear hlg
  clear hS hE hI
  cases h with
  | none =>
    go_enter Tryd.func3, Tryd.ntmps3
    go_wp2_with fail
    refine htr.mono ?_
    rintro e w1 ⟨rfl, k1⟩
    have HW := hideR k1
    clear k1 htr
    go_wp2_with fail
    refine (hlev _).mono ?_
    rintro e w8 ⟨rfl, rfl⟩
    go_wp2
    go_ret
    exact ⟨rfl, unhideR HW⟩
  | @some b off cap ad t hT hl hn =>
    have HT := hideR hT
    by_cases hbig : 300 < t.L.length ∧ t.L.length ≤ 4000
    · obtain ⟨q1, q2⟩ := hbig
      go_enter Tryd.func3, Tryd.ntmps3
      go_wp2_with fail
      refine htr.mono ?_
      rintro e w1 ⟨rfl, k1⟩
      obtain ⟨_, c0, c1, c2, _⟩ := hT.below k1
      have HW := hideR k1
      clear k1 htr hT
      go_wp2_with fail
      refine (hlev _).mono ?_
      rintro e w8 ⟨rfl, rfl⟩
      go_wp2
      go_ret
      exact ⟨rfl, unhideR HW⟩
    by_cases hll : 100 < Ll.length
    · rcases (show t.L.length ≤ 300 ∨ 4000 < t.L.length by omega) with hq | hq
      all_goals
        go_enter Tryd.func3, Tryd.ntmps3
        go_wp2_with fail
        refine htr.mono ?_
        rintro e w1 ⟨rfl, k1⟩
        obtain ⟨_, c0, c1, c2, _⟩ := hT.below k1
        have HW := hideR k1
        clear k1 htr
        go_wp2_with fail
        refine (hlev _).mono ?_
        rintro e w8 ⟨rfl, rfl⟩
        go_wp2
        go_ret
        exact ⟨rfl, unhideR HW⟩
    have hll2 : Ll.length ≤ 100 := by omega
    rcases (show t.L.length ≤ 300 ∨ 4000 < t.L.length by omega) with hq | hq
    all_goals
      go_enter Tryd.func3, Tryd.ntmps3
      go_wp2_with fail
      refine htr.mono ?_
      rintro e w1 ⟨rfl, k1⟩
      obtain ⟨_, c0, c1, c2, _⟩ := hT.below k1
      have HW := hideR k1
      have hk := track_any ((unhideR HT).below k1) hl hn
      clear k1 htr hT
      go_wp2_with fail
      refine (hlev _).mono ?_
      rintro e w8 ⟨rfl, rfl⟩
      go_wp2_with fail
      refine hk.mono ?_
      rintro e w2 ⟨tv, rfl, hv, k2⟩
      replace HW := hideR (below_go (unhideR HW) k2)
      have hwi := hWi tv t lev w2 ((unhideR HS).below (unhideR HW) (Nat.le_refl _)) hv hl
      clear hk k2 hv c0 c1 c2
      go_wp2_with fail
      refine hwi.mono ?_
      rintro e w3 ⟨x3, S, adS, capS, rfl, hx3, hn3, hp3, hcm, k3⟩
      have HX3 := hideR hx3
      have HN3 := hideR hn3
      have HP3 := hideR hp3
      have HCM := hideR hcm
      replace HW := hideR (below_go (unhideR HW) k3)
      have hte := trackError_any ((unhideR HT).below (unhideR HW)) (by omega)
      clear hx3 hn3 hp3 hcm k3 hwi
      go_wp2_with fail
      refine hte.mono ?_
      rintro e w7 ⟨rfl, rfl⟩
      clear hte
      by_cases hz : trE t = 0
      case' neg =>
        have he : evE t lev = trE t := by unfold evE; rw [if_pos hz]
        have hpos : 0 < trE t := by
          rcases trE_range t with q | q | q | q
          · exact absurd q hz
          · omega
          · omega
          · omega
        have hne : evE t lev ≠ 0 := by rw [he]; exact hz
        obtain rfl := unhideR HN3 hne
        rw [he] at HX3
        have hz' : (trE t == 0) = false := by simp [hz]
        clear HN3 HP3 he hne hz
        generalize trE t = E at *
        have hco := coded_err ((unhideR HS).below (unhideR HW) (Nat.le_refl _)) (unhideR HX3)
        go_wp2_with fail
        refine hco.mono ?_
        rintro e w9 ⟨rfl, k9⟩
        replace HW := hideR (below_go (unhideR HW) k9)
        clear hco k9
        go_wp2
        go_ret
        exact ⟨rfl, unhideR HW⟩
      case' pos => try (exfalso; have q := (ok_of hz).n2; omega)
    have hO := ok_of hz
    by_cases hlv : 1099511627776 < lev ∨ lev < -1099511627776
    · have he : evE t lev = 5 := by unfold evE; rw [if_neg (by rw [hz]; decide), if_pos hlv]
      have hne : evE t lev ≠ 0 := by rw [he]; decide
      obtain rfl := unhideR HN3 hne
      rw [he] at HX3
      obtain rfl : lg = true := by rw [← unhideR HLG]; exact decide_eq_true hlv
      rw [hz]
      clear HN3 HP3 he hne hz hlv hO
      have hco := coded_err ((unhideR HS).below (unhideR HW) (Nat.le_refl _)) (unhideR HX3)
      go_wp2_with fail
      refine hco.mono ?_
      rintro e w9 ⟨rfl, k9⟩
      replace HW := hideR (below_go (unhideR HW) k9)
      clear hco k9
      go_wp2
      go_ret
      exact ⟨rfl, unhideR HW⟩
    · have he : evE t lev = 0 := by unfold evE; rw [if_neg (by rw [hz]; decide), if_neg hlv]
      obtain ⟨hrise, hSl, hSin, hSab⟩ := unhideR HP3 he
      obtain rfl : x3 = .nilIface := by
        rcases unhideR HX3 with ⟨_, h⟩ | ⟨k, _, h, _⟩
        · exact h
        · omega
      obtain rfl : lg = false := by rw [← unhideR HLG]; exact decide_eq_false hlv
      rw [hz]
      have hab := fun u (hu : TrP u b off ad cap t) y h1 h2 => aboveAt_any hu hO lev y (by omega) (by omega) h1 h2
      have HAb := hideR hab
      have HRi := hideR hrise
      have HSi := hideR hSin
      have HSa := hideR hSab
      have n1 := hO.n1
      have s1 := hO.s1
      have s2 := hO.step
      have sp := hO.span
      have f1 := hO.f1
      have f2 := hO.f2
      have l1 := hO.l1
      have l2 := hO.l2
      have HAt := hideR (fun i (hi : i < t.L.length) => hO.at_ hi)
      have HLast : HeldR (t.last = t.fr + ((t.L.length : Int) - 1) * t.st) := rfl
      clear hab hrise hSin hSab HX3 HN3 HP3 he hz hlv hO
      have hw1 : IntKind.i64.wrap (((t.L.length : Int) - 1) * t.st) = ((t.L.length : Int) - 1) * t.st := iwrap (by have := Int.mul_nonneg (show 0 ≤ (t.L.length : Int) - 1 by omega) (show 0 ≤ t.st by omega); omega) (by omega)
      have hw3 : IntKind.i64.wrap ((t.L.length : Int) - 1) = (t.L.length : Int) - 1 := iwrap (by omega) (by omega)
      have hla := unhideR HLast
      have hw2 : IntKind.i64.wrap (t.fr + ((t.L.length : Int) - 1) * t.st) = t.fr + ((t.L.length : Int) - 1) * t.st := iwrap (by omega) (by omega)
      obtain ⟨i0, hi, hz0, hz1, hz2⟩ := info_parts infoI
      obtain ⟨_, cf, cs, cl, _⟩ := (unhideR HT).below (unhideR HW)
      go_wp2_with fail
      refine wp_region_lets [(· = .pointer (some ⟨b, off, none⟩)),
        (· = .pointer (some ⟨b, off, none⟩)),
        (· = .pointer (some ⟨b, off, none⟩)),
        (· = .int .i64 t.fr),
        (· = .pointer (some ⟨b, off, none⟩)),
        (· = .pointer (some ⟨b, off, none⟩)),
        (· = .pointer (some ⟨b, off + 2, none⟩)),
        (· = .slice ad t.L.length cap),
        (· = .int .i64 (t.L.length : Nat)),
        (· = .int .i64 ((t.L.length : Int) - 1)),
        (· = .pointer (some ⟨b, off, none⟩)),
        (· = .pointer (some ⟨b, off, none⟩)),
        (· = .pointer (some ⟨b, off + 1, none⟩)),
        (· = .int .i64 t.st),
        (· = .int .i64 (((t.L.length : Int) - 1) * t.st)),
        (· = .int .i64 (t.fr + ((t.L.length : Int) - 1) * t.st)),
        (· = .int .i64 (t.fr + ((t.L.length : Int) - 1) * t.st))] (by kernel_rfl) (by kernel_rfl) ?_
      refine lexL_step (fun K hK => ⟨by kernel_rfl, ⟨_, rfl⟩, fun n => ?_, fun v hv => ?_⟩)
      · go_simp
        exact lUpon_one
      subst hv
      go_simp
      refine hK _ ?_
      clear hK K
      refine lexL_step (fun K hK => ⟨by kernel_rfl, ⟨_, rfl⟩, fun n => ?_, fun v hv => ?_⟩)
      · go_simp
        exact lUpon_one
      subst hv
      go_simp
      refine hK _ ?_
      clear hK K
      refine lexL_step (fun K hK => ⟨by kernel_rfl, ⟨_, rfl⟩, fun n => ?_, fun v hv => ?_⟩)
      · go_simp
        exact lUpon_one
      subst hv
      go_simp
      refine hK _ ?_
      clear hK K
      refine lexL_step (fun K hK => ⟨by kernel_rfl, ⟨_, rfl⟩, fun n => ?_, fun v hv => ?_⟩)
      · go_simp
        exact lUpon_one
      subst hv
      go_simp
      refine hK _ ?_
      clear hK K
      refine lexL_step (fun K hK => ⟨by kernel_rfl, ⟨_, rfl⟩, fun n => ?_, fun v hv => ?_⟩)
      · go_simp
        exact lUpon_one
      subst hv
      go_simp
      refine hK _ ?_
      clear hK K
      refine lexL_step (fun K hK => ⟨by kernel_rfl, ⟨_, rfl⟩, fun n => ?_, fun v hv => ?_⟩)
      · go_simp
        exact lUpon_one
      subst hv
      go_simp
      refine hK _ ?_
      clear hK K
      refine lexL_step (fun K hK => ⟨by kernel_rfl, ⟨_, rfl⟩, fun n => ?_, fun v hv => ?_⟩)
      · go_simp
        exact lUpon_one
      subst hv
      go_simp
      refine hK _ ?_
      clear hK K
      refine lexL_step (fun K hK => ⟨by kernel_rfl, ⟨_, rfl⟩, fun n => ?_, fun v hv => ?_⟩)
      · go_simp
        exact lUpon_one
      subst hv
      go_simp
      refine hK _ ?_
      clear hK K
      refine lexL_step (fun K hK => ⟨by kernel_rfl, ⟨_, rfl⟩, fun n => ?_, fun v hv => ?_⟩)
      · go_simp
        exact lUpon_one
      subst hv
      go_simp
      refine hK _ ?_
      clear hK K
      refine lexL_step (fun K hK => ⟨by kernel_rfl, ⟨_, rfl⟩, fun n => ?_, fun v hv => ?_⟩)
      · go_simp
        exact lUpon_one
      subst hv
      go_simp
      refine hK _ ?_
      clear hK K
      refine lexL_step (fun K hK => ⟨by kernel_rfl, ⟨_, rfl⟩, fun n => ?_, fun v hv => ?_⟩)
      · go_simp
        exact lUpon_one
      subst hv
      go_simp
      refine hK _ ?_
      clear hK K
      refine lexL_step (fun K hK => ⟨by kernel_rfl, ⟨_, rfl⟩, fun n => ?_, fun v hv => ?_⟩)
      · go_simp
        exact lUpon_one
      subst hv
      go_simp
      refine hK _ ?_
      clear hK K
      refine lexL_step (fun K hK => ⟨by kernel_rfl, ⟨_, rfl⟩, fun n => ?_, fun v hv => ?_⟩)
      · go_simp
        exact lUpon_one
      subst hv
      go_simp
      refine hK _ ?_
      clear hK K
      refine lexL_step (fun K hK => ⟨by kernel_rfl, ⟨_, rfl⟩, fun n => ?_, fun v hv => ?_⟩)
      · go_simp
        exact lUpon_one
      subst hv
      go_simp
      refine hK _ ?_
      clear hK K
      refine lexL_step (fun K hK => ⟨by kernel_rfl, ⟨_, rfl⟩, fun n => ?_, fun v hv => ?_⟩)
      · go_simp
        exact lUpon_one
      subst hv
      go_simp
      refine hK _ ?_
      clear hK K
      refine lexL_step (fun K hK => ⟨by kernel_rfl, ⟨_, rfl⟩, fun n => ?_, fun v hv => ?_⟩)
      · go_simp
        exact lUpon_one
      subst hv
      go_simp
      refine hK _ ?_
      clear hK K
      refine lexL_step (fun K hK => ⟨by kernel_rfl, ⟨_, rfl⟩, fun n => ?_, fun v hv => ?_⟩)
      · go_simp
        exact lUpon_one
      subst hv
      go_simp
      refine hK _ ?_
      clear hK K
      refine lexL_end ?_
      intro n9
      rw [← hla]
      have hbW := drawn_below w7 n9
      replace HCM := hideR ((unhideR HCM).below hbW)
      replace HW := hideR (below_go (unhideR HW) hbW)
      clear cf cs cl hla hw1 hw2
      generalize w7.drewN n9 = W0 at *
      clear hbW
      have HI2 := hideR ((unhideR HI).below (unhideR HW))
      have hso := fun u (hu : SpCame u adS S) => spansOf_own adS capS S u hu (by omega)
      have HCM0 := HCM
      have HW0 := HW
      clear HI hw3
      go_wp2_with (first
        | (at_builtin; refine append_arg rfl _ _ rfl rfl adl capl Ll rfl (unhideR HI2) hll2 ?_))
      intro v3 w3 HO HK2
      replace HCM := hideR ((unhideR HCM).below (unhideR HK2))
      replace HW := hideR (below_go (unhideR HW) (unhideR HK2))
      have HYl : HeldR (Ll.length ≤ 100) := hll2
      clear HI2
      go_wp2_with fail
      refine (hso _ (unhideR HCM)).mono ?_
      rintro e w4 ⟨eS, gS, rfl, hown4, k4⟩
      obtain ⟨QB, hown4⟩ : ∃ q, w4.ownsRow q 50 2 (.slice eS S.length gS) S.length (flatSp S) := ⟨_, hown4⟩
      have HQ := hideR hown4
      replace HO := hideR (own_below2 (unhideR HO) k4)
      replace HK2 := hideR (below_go (unhideR HK2) k4)
      clear hown4 k4 hso HW HCM
      go_wp2
      go_loopw [13, 15] (fun av iv wl => ∃ (k : Nat) (Y : List Int), k ≤ S.length ∧ iv = .int .i64 (k : Nat) ∧ HeldR (Y.length ≤ 100 + 4 * k) ∧ HeldR (wl.ownsRow W0.heap.size 3 1 av Y.length (Y.map (Value.int .i64))) ∧ HeldR (wl.ownsRow QB 50 2 (.slice eS S.length gS) S.length (flatSp S)) ∧ HeldR (Below W0.heap.size W0 wl)) (fun _ iv _ => S.length + 1 - (intOf iv).toNat)
      case atStart => exact ⟨0, _, by omega, rfl, HYl, HO, HQ, HK2⟩
      case round =>
        clear HYl HO HQ HK2
        obtain ⟨k, Y, hk, rfl, HY, HO, HQ, HK2⟩ := hrel
        by_cases hlt : k < S.length
        · as_aux_lemma =>
            obtain ⟨b2, o2, rfl, hb2', hat⟩ := ((unhideR HCM0).below (unhideR HK2)).at_ k hlt
            have hu := unhideR HRi k hlt
            unfold Spn.Up at hu
            have hsi := unhideR HSi k hlt
            obtain ⟨_, cf, cs, cl, _⟩ := (unhideR HT).below (below_go (unhideR HW0) (unhideR HK2))
            have HKs := hideR hat
            obtain ⟨c0, c1'⟩ := hat
            generalize S.getD k sp0 = s at *
            have x1 : decide (s.t ≤ s.f) = false := decide_eq_false (by omega)
            have x2 : decide (s.f < t.fr) = false := decide_eq_false (by omega)
            have x3 : decide (t.last + 1 < s.t) = false := decide_eq_false (by omega)
            have w1' : IntKind.i64.wrap (t.last + 1) = t.last + 1 := iwrap (by omega) (by omega)
            have w3' : IntKind.i64.wrap (s.f - 1) = s.f - 1 := iwrap (by omega) (by omega)
            have w4' : IntKind.i64.wrap (s.t - 1) = s.t - 1 := iwrap (by omega) (by omega)
            by_cases hk0 : k = 0
            case' pos =>
              have b5 : decide (0 < k) = false := decide_eq_false (by omega)
              clear hk0
              go_wp2_with fail
              refine wp_region_lets [(· = .slice (some ⟨b2, o2, none⟩) S.length capS),
                (· = .int .i64 (k : Nat)),
                (· = .pointer (some ⟨b2, o2 + k * 2, none⟩)),
                (· = .pointer (some ⟨b2, o2 + k * 2, none⟩)),
                (· = .int .i64 s.f),
                (· = .slice (some ⟨b2, o2, none⟩) S.length capS),
                (· = .int .i64 (k : Nat)),
                (· = .pointer (some ⟨b2, o2 + k * 2, none⟩)),
                (· = .pointer (some ⟨b2, o2 + k * 2 + 1, none⟩)),
                (· = .int .i64 s.t),
                (· = .bool false),
                (· = .bool false),
                (· = .int .i64 (k : Nat)),
                (· = .bool false),
                (· = .bool false),
                (· = undef),
                (· = undef),
                (· = undef),
                (· = undef),
                (· = undef),
                (· = undef),
                (· = undef),
                (· = undef),
                (· = undef),
                (· = undef),
                (· = undef),
                (· = undef),
                (· = .bool false),
                (· = .bool false),
                (· = .bool false),
                (· = .slice (some ⟨b2, o2, none⟩) S.length capS),
                (· = .int .i64 (k : Nat)),
                (· = .pointer (some ⟨b2, o2 + k * 2, none⟩)),
                (· = .pointer (some ⟨b2, o2 + k * 2, none⟩)),
                (· = .int .i64 s.f),
                (· = .pointer (some ⟨b, off, none⟩)),
                (· = .pointer (some ⟨b, off, none⟩)),
                (· = .pointer (some ⟨b, off, none⟩)),
                (· = .int .i64 t.fr),
                (· = .bool false),
                (· = .bool false),
                (· = .bool false),
                (· = .slice (some ⟨b2, o2, none⟩) S.length capS),
                (· = .int .i64 (k : Nat)),
                (· = .pointer (some ⟨b2, o2 + k * 2, none⟩)),
                (· = .pointer (some ⟨b2, o2 + k * 2 + 1, none⟩)),
                (· = .int .i64 s.t),
                (· = .int .i64 t.last),
                (· = .int .i64 (t.last + 1)),
                (· = .bool false),
                (· = .bool false)] (by kernel_rfl) (by kernel_rfl) ?_
              refine lexL_step (fun K hK => ⟨by kernel_rfl, ⟨_, rfl⟩, fun n => ?_, fun v hv => ?_⟩)
              · go_simp
                exact lUpon_one
              subst hv
              go_simp
              refine hK _ ?_
              clear hK K
              refine lexL_step (fun K hK => ⟨by kernel_rfl, ⟨_, rfl⟩, fun n => ?_, fun v hv => ?_⟩)
              · go_simp
                exact lUpon_one
              subst hv
              go_simp
              refine hK _ ?_
              clear hK K
              refine lexL_step (fun K hK => ⟨by kernel_rfl, ⟨_, rfl⟩, fun n => ?_, fun v hv => ?_⟩)
              · go_simp
                exact lUpon_one
              subst hv
              go_simp
              refine hK _ ?_
              clear hK K
              refine lexL_step (fun K hK => ⟨by kernel_rfl, ⟨_, rfl⟩, fun n => ?_, fun v hv => ?_⟩)
              · go_simp
                exact lUpon_one
              subst hv
              go_simp
              refine hK _ ?_
              clear hK K
              refine lexL_step (fun K hK => ⟨by kernel_rfl, ⟨_, rfl⟩, fun n => ?_, fun v hv => ?_⟩)
              · go_simp
                exact lUpon_one
              subst hv
              go_simp
              refine hK _ ?_
              clear hK K
              refine lexL_step (fun K hK => ⟨by kernel_rfl, ⟨_, rfl⟩, fun n => ?_, fun v hv => ?_⟩)
              · go_simp
                exact lUpon_one
              subst hv
              go_simp
              refine hK _ ?_
              clear hK K
              refine lexL_step (fun K hK => ⟨by kernel_rfl, ⟨_, rfl⟩, fun n => ?_, fun v hv => ?_⟩)
              · go_simp
                exact lUpon_one
              subst hv
              go_simp
              refine hK _ ?_
              clear hK K
              refine lexL_step (fun K hK => ⟨by kernel_rfl, ⟨_, rfl⟩, fun n => ?_, fun v hv => ?_⟩)
              · go_simp
                exact lUpon_one
              subst hv
              go_simp
              refine hK _ ?_
              clear hK K
              refine lexL_step (fun K hK => ⟨by kernel_rfl, ⟨_, rfl⟩, fun n => ?_, fun v hv => ?_⟩)
              · go_simp
                exact lUpon_one
              subst hv
              go_simp
              refine hK _ ?_
              clear hK K
              refine lexL_step (fun K hK => ⟨by kernel_rfl, ⟨_, rfl⟩, fun n => ?_, fun v hv => ?_⟩)
              · go_simp
                exact lUpon_one
              subst hv
              go_simp
              refine hK _ ?_
              clear hK K
              refine lexL_step (fun K hK => ⟨by kernel_rfl, ⟨_, rfl⟩, fun n => ?_, fun v hv => ?_⟩)
              · go_simp
                exact lUpon_one
              subst hv
              go_simp
              refine hK _ ?_
              clear hK K
              refine lexL_step (fun K hK => ⟨by kernel_rfl, ⟨_, rfl⟩, fun n => ?_, fun v hv => ?_⟩)
              · go_simp
                exact lUpon_one
              subst hv
              go_simp
              refine hK _ ?_
              clear hK K
              refine lexL_step (fun K hK => ⟨by kernel_rfl, ⟨_, rfl⟩, fun n => ?_, fun v hv => ?_⟩)
              · go_simp
                exact lUpon_one
              subst hv
              go_simp
              refine hK _ ?_
              clear hK K
              refine lexL_step (fun K hK => ⟨by kernel_rfl, ⟨_, rfl⟩, fun n => ?_, fun v hv => ?_⟩)
              · go_simp
                exact lUpon_one
              subst hv
              go_simp
              refine hK _ ?_
              clear hK K
              refine lexL_step (fun K hK => ⟨by kernel_rfl, ⟨_, rfl⟩, fun n => ?_, fun v hv => ?_⟩)
              · go_simp
                exact lUpon_one
              subst hv
              go_simp
              refine hK _ ?_
              clear hK K
              refine lexL_skip (fun K hK => ⟨by kernel_rfl, ?_⟩)
              go_simp
              refine hK _ ?_
              clear hK K
              refine lexL_skip (fun K hK => ⟨by kernel_rfl, ?_⟩)
              go_simp
              refine hK _ ?_
              clear hK K
              refine lexL_skip (fun K hK => ⟨by kernel_rfl, ?_⟩)
              go_simp
              refine hK _ ?_
              clear hK K
              refine lexL_skip (fun K hK => ⟨by kernel_rfl, ?_⟩)
              go_simp
              refine hK _ ?_
              clear hK K
              refine lexL_skip (fun K hK => ⟨by kernel_rfl, ?_⟩)
              go_simp
              refine hK _ ?_
              clear hK K
              refine lexL_skip (fun K hK => ⟨by kernel_rfl, ?_⟩)
              go_simp
              refine hK _ ?_
              clear hK K
              refine lexL_skip (fun K hK => ⟨by kernel_rfl, ?_⟩)
              go_simp
              refine hK _ ?_
              clear hK K
              refine lexL_skip (fun K hK => ⟨by kernel_rfl, ?_⟩)
              go_simp
              refine hK _ ?_
              clear hK K
              refine lexL_skip (fun K hK => ⟨by kernel_rfl, ?_⟩)
              go_simp
              refine hK _ ?_
              clear hK K
              refine lexL_skip (fun K hK => ⟨by kernel_rfl, ?_⟩)
              go_simp
              refine hK _ ?_
              clear hK K
              refine lexL_skip (fun K hK => ⟨by kernel_rfl, ?_⟩)
              go_simp
              refine hK _ ?_
              clear hK K
              refine lexL_skip (fun K hK => ⟨by kernel_rfl, ?_⟩)
              go_simp
              refine hK _ ?_
              clear hK K
              refine lexL_step (fun K hK => ⟨by kernel_rfl, ⟨_, rfl⟩, fun n => ?_, fun v hv => ?_⟩)
              · go_simp
                exact lUpon_one
              subst hv
              go_simp
              refine hK _ ?_
              clear hK K
              refine lexL_step (fun K hK => ⟨by kernel_rfl, ⟨_, rfl⟩, fun n => ?_, fun v hv => ?_⟩)
              · go_simp
                exact lUpon_one
              subst hv
              go_simp
              refine hK _ ?_
              clear hK K
              refine lexL_step (fun K hK => ⟨by kernel_rfl, ⟨_, rfl⟩, fun n => ?_, fun v hv => ?_⟩)
              · go_simp
                exact lUpon_one
              subst hv
              go_simp
              refine hK _ ?_
              clear hK K
              refine lexL_step (fun K hK => ⟨by kernel_rfl, ⟨_, rfl⟩, fun n => ?_, fun v hv => ?_⟩)
              · go_simp
                exact lUpon_one
              subst hv
              go_simp
              refine hK _ ?_
              clear hK K
              refine lexL_step (fun K hK => ⟨by kernel_rfl, ⟨_, rfl⟩, fun n => ?_, fun v hv => ?_⟩)
              · go_simp
                exact lUpon_one
              subst hv
              go_simp
              refine hK _ ?_
              clear hK K
              refine lexL_step (fun K hK => ⟨by kernel_rfl, ⟨_, rfl⟩, fun n => ?_, fun v hv => ?_⟩)
              · go_simp
                exact lUpon_one
              subst hv
              go_simp
              refine hK _ ?_
              clear hK K
              refine lexL_step (fun K hK => ⟨by kernel_rfl, ⟨_, rfl⟩, fun n => ?_, fun v hv => ?_⟩)
              · go_simp
                exact lUpon_one
              subst hv
              go_simp
              refine hK _ ?_
              clear hK K
              refine lexL_step (fun K hK => ⟨by kernel_rfl, ⟨_, rfl⟩, fun n => ?_, fun v hv => ?_⟩)
              · go_simp
                exact lUpon_one
              subst hv
              go_simp
              refine hK _ ?_
              clear hK K
              refine lexL_step (fun K hK => ⟨by kernel_rfl, ⟨_, rfl⟩, fun n => ?_, fun v hv => ?_⟩)
              · go_simp
                exact lUpon_one
              subst hv
              go_simp
              refine hK _ ?_
              clear hK K
              refine lexL_step (fun K hK => ⟨by kernel_rfl, ⟨_, rfl⟩, fun n => ?_, fun v hv => ?_⟩)
              · go_simp
                exact lUpon_one
              subst hv
              go_simp
              refine hK _ ?_
              clear hK K
              refine lexL_step (fun K hK => ⟨by kernel_rfl, ⟨_, rfl⟩, fun n => ?_, fun v hv => ?_⟩)
              · go_simp
                exact lUpon_one
              subst hv
              go_simp
              refine hK _ ?_
              clear hK K
              refine lexL_step (fun K hK => ⟨by kernel_rfl, ⟨_, rfl⟩, fun n => ?_, fun v hv => ?_⟩)
              · go_simp
                exact lUpon_one
              subst hv
              go_simp
              refine hK _ ?_
              clear hK K
              refine lexL_step (fun K hK => ⟨by kernel_rfl, ⟨_, rfl⟩, fun n => ?_, fun v hv => ?_⟩)
              · go_simp
                exact lUpon_one
              subst hv
              go_simp
              refine hK _ ?_
              clear hK K
              refine lexL_step (fun K hK => ⟨by kernel_rfl, ⟨_, rfl⟩, fun n => ?_, fun v hv => ?_⟩)
              · go_simp
                exact lUpon_one
              subst hv
              go_simp
              refine hK _ ?_
              clear hK K
              refine lexL_step (fun K hK => ⟨by kernel_rfl, ⟨_, rfl⟩, fun n => ?_, fun v hv => ?_⟩)
              · go_simp
                exact lUpon_one
              subst hv
              go_simp
              refine hK _ ?_
              clear hK K
              refine lexL_step (fun K hK => ⟨by kernel_rfl, ⟨_, rfl⟩, fun n => ?_, fun v hv => ?_⟩)
              · go_simp
                exact lUpon_one
              subst hv
              go_simp
              refine hK _ ?_
              clear hK K
              refine lexL_step (fun K hK => ⟨by kernel_rfl, ⟨_, rfl⟩, fun n => ?_, fun v hv => ?_⟩)
              · go_simp
                exact lUpon_one
              subst hv
              go_simp
              refine hK _ ?_
              clear hK K
              refine lexL_step (fun K hK => ⟨by kernel_rfl, ⟨_, rfl⟩, fun n => ?_, fun v hv => ?_⟩)
              · go_simp
                exact lUpon_one
              subst hv
              go_simp
              refine hK _ ?_
              clear hK K
              refine lexL_step (fun K hK => ⟨by kernel_rfl, ⟨_, rfl⟩, fun n => ?_, fun v hv => ?_⟩)
              · go_simp
                exact lUpon_one
              subst hv
              go_simp
              refine hK _ ?_
              clear hK K
              refine lexL_step (fun K hK => ⟨by kernel_rfl, ⟨_, rfl⟩, fun n => ?_, fun v hv => ?_⟩)
              · go_simp
                exact lUpon_one
              subst hv
              go_simp
              refine hK _ ?_
              clear hK K
              refine lexL_step (fun K hK => ⟨by kernel_rfl, ⟨_, rfl⟩, fun n => ?_, fun v hv => ?_⟩)
              · go_simp
                exact lUpon_one
              subst hv
              go_simp
              refine hK _ ?_
              clear hK K
              refine lexL_step (fun K hK => ⟨by kernel_rfl, ⟨_, rfl⟩, fun n => ?_, fun v hv => ?_⟩)
              · go_simp
                exact lUpon_one
              subst hv
              go_simp
              refine hK _ ?_
              clear hK K
              refine lexL_step (fun K hK => ⟨by kernel_rfl, ⟨_, rfl⟩, fun n => ?_, fun v hv => ?_⟩)
              · go_simp
                exact lUpon_one
              subst hv
              go_simp
              refine hK _ ?_
              clear hK K
              refine lexL_step (fun K hK => ⟨by kernel_rfl, ⟨_, rfl⟩, fun n => ?_, fun v hv => ?_⟩)
              · go_simp
                exact lUpon_one
              subst hv
              go_simp
              refine hK _ ?_
              clear hK K
              refine lexL_end ?_
              intro n9
              have hbW := drawn_below wr n9
              have HK : HeldR (SpAt (wr.drewN n9) b2 (o2 + k * 2) s) := (unhideR HKs).below hbW hb2'
              have hb2 : b2 < (wr.drewN n9).heap.size := hb2'
              replace HO := hideR (own_below2 (unhideR HO) hbW)
              replace HQ := hideR (own_below2 (unhideR HQ) hbW)
              replace HK2 := hideR (below_go (unhideR HK2) hbW)
              clear c0 c1' cf cs cl
              generalize wr.drewN n9 = W9 at *
              clear hbW
              go_wp2_with fail
            case' neg =>
              obtain ⟨m, hm⟩ : ∃ m, k = m + 1 := ⟨k - 1, by omega⟩
              have b5 : decide (0 < k) = true := decide_eq_true (by omega)
              obtain ⟨b', off', e', _, hat'⟩ := ((unhideR HCM0).below (unhideR HK2)).at_ m (by omega)
              cases e'
              have d1 := hat'.c1
              clear hat'
              have hu2 := hu.2 (by omega)
              rw [show k - 1 = m by omega] at hu2
              generalize S.getD m sp0 = r at *
              have b4 : decide (s.f ≤ r.t) = false := decide_eq_false (by omega)
              have ek : (k : Int) - 1 = (m : Int) := by omega
              have ew : IntKind.i64.wrap (m : Int) = (m : Int) := iwrap (by omega) (by omega)
              have hm1 : m < S.length := by omega
              clear hm hk0 hu
              go_wp2_with fail
              refine wp_region_lets [(· = .slice (some ⟨b2, o2, none⟩) S.length capS),
                (· = .int .i64 (k : Nat)),
                (· = .pointer (some ⟨b2, o2 + k * 2, none⟩)),
                (· = .pointer (some ⟨b2, o2 + k * 2, none⟩)),
                (· = .int .i64 s.f),
                (· = .slice (some ⟨b2, o2, none⟩) S.length capS),
                (· = .int .i64 (k : Nat)),
                (· = .pointer (some ⟨b2, o2 + k * 2, none⟩)),
                (· = .pointer (some ⟨b2, o2 + k * 2 + 1, none⟩)),
                (· = .int .i64 s.t),
                (· = .bool false),
                (· = .bool false),
                (· = .int .i64 (k : Nat)),
                (· = .bool true),
                (· = .bool true),
                (· = .slice (some ⟨b2, o2, none⟩) S.length capS),
                (· = .int .i64 (k : Nat)),
                (· = .pointer (some ⟨b2, o2 + k * 2, none⟩)),
                (· = .pointer (some ⟨b2, o2 + k * 2, none⟩)),
                (· = .int .i64 s.f),
                (· = .slice (some ⟨b2, o2, none⟩) S.length capS),
                (· = .int .i64 (k : Nat)),
                (· = .int .i64 (m : Nat)),
                (· = .pointer (some ⟨b2, o2 + m * 2, none⟩)),
                (· = .pointer (some ⟨b2, o2 + m * 2 + 1, none⟩)),
                (· = .int .i64 r.t),
                (· = .bool false),
                (· = .bool false),
                (· = .bool false),
                (· = .bool false),
                (· = .slice (some ⟨b2, o2, none⟩) S.length capS),
                (· = .int .i64 (k : Nat)),
                (· = .pointer (some ⟨b2, o2 + k * 2, none⟩)),
                (· = .pointer (some ⟨b2, o2 + k * 2, none⟩)),
                (· = .int .i64 s.f),
                (· = .pointer (some ⟨b, off, none⟩)),
                (· = .pointer (some ⟨b, off, none⟩)),
                (· = .pointer (some ⟨b, off, none⟩)),
                (· = .int .i64 t.fr),
                (· = .bool false),
                (· = .bool false),
                (· = .bool false),
                (· = .slice (some ⟨b2, o2, none⟩) S.length capS),
                (· = .int .i64 (k : Nat)),
                (· = .pointer (some ⟨b2, o2 + k * 2, none⟩)),
                (· = .pointer (some ⟨b2, o2 + k * 2 + 1, none⟩)),
                (· = .int .i64 s.t),
                (· = .int .i64 t.last),
                (· = .int .i64 (t.last + 1)),
                (· = .bool false),
                (· = .bool false)] (by kernel_rfl) (by kernel_rfl) ?_
              refine lexL_step (fun K hK => ⟨by kernel_rfl, ⟨_, rfl⟩, fun n => ?_, fun v hv => ?_⟩)
              · go_simp
                exact lUpon_one
              subst hv
              go_simp
              refine hK _ ?_
              clear hK K
              refine lexL_step (fun K hK => ⟨by kernel_rfl, ⟨_, rfl⟩, fun n => ?_, fun v hv => ?_⟩)
              · go_simp
                exact lUpon_one
              subst hv
              go_simp
              refine hK _ ?_
              clear hK K
              refine lexL_step (fun K hK => ⟨by kernel_rfl, ⟨_, rfl⟩, fun n => ?_, fun v hv => ?_⟩)
              · go_simp
                exact lUpon_one
              subst hv
              go_simp
              refine hK _ ?_
              clear hK K
              refine lexL_step (fun K hK => ⟨by kernel_rfl, ⟨_, rfl⟩, fun n => ?_, fun v hv => ?_⟩)
              · go_simp
                exact lUpon_one
              subst hv
              go_simp
              refine hK _ ?_
              clear hK K
              refine lexL_step (fun K hK => ⟨by kernel_rfl, ⟨_, rfl⟩, fun n => ?_, fun v hv => ?_⟩)
              · go_simp
                exact lUpon_one
              subst hv
              go_simp
              refine hK _ ?_
              clear hK K
              refine lexL_step (fun K hK => ⟨by kernel_rfl, ⟨_, rfl⟩, fun n => ?_, fun v hv => ?_⟩)
              · go_simp
                exact lUpon_one
              subst hv
              go_simp
              refine hK _ ?_
              clear hK K
              refine lexL_step (fun K hK => ⟨by kernel_rfl, ⟨_, rfl⟩, fun n => ?_, fun v hv => ?_⟩)
              · go_simp
                exact lUpon_one
              subst hv
              go_simp
              refine hK _ ?_
              clear hK K
              refine lexL_step (fun K hK => ⟨by kernel_rfl, ⟨_, rfl⟩, fun n => ?_, fun v hv => ?_⟩)
              · go_simp
                exact lUpon_one
              subst hv
              go_simp
              refine hK _ ?_
              clear hK K
              refine lexL_step (fun K hK => ⟨by kernel_rfl, ⟨_, rfl⟩, fun n => ?_, fun v hv => ?_⟩)
              · go_simp
                exact lUpon_one
              subst hv
              go_simp
              refine hK _ ?_
              clear hK K
              refine lexL_step (fun K hK => ⟨by kernel_rfl, ⟨_, rfl⟩, fun n => ?_, fun v hv => ?_⟩)
              · go_simp
                exact lUpon_one
              subst hv
              go_simp
              refine hK _ ?_
              clear hK K
              refine lexL_step (fun K hK => ⟨by kernel_rfl, ⟨_, rfl⟩, fun n => ?_, fun v hv => ?_⟩)
              · go_simp
                exact lUpon_one
              subst hv
              go_simp
              refine hK _ ?_
              clear hK K
              refine lexL_step (fun K hK => ⟨by kernel_rfl, ⟨_, rfl⟩, fun n => ?_, fun v hv => ?_⟩)
              · go_simp
                exact lUpon_one
              subst hv
              go_simp
              refine hK _ ?_
              clear hK K
              refine lexL_step (fun K hK => ⟨by kernel_rfl, ⟨_, rfl⟩, fun n => ?_, fun v hv => ?_⟩)
              · go_simp
                exact lUpon_one
              subst hv
              go_simp
              refine hK _ ?_
              clear hK K
              refine lexL_step (fun K hK => ⟨by kernel_rfl, ⟨_, rfl⟩, fun n => ?_, fun v hv => ?_⟩)
              · go_simp
                exact lUpon_one
              subst hv
              go_simp
              refine hK _ ?_
              clear hK K
              refine lexL_step (fun K hK => ⟨by kernel_rfl, ⟨_, rfl⟩, fun n => ?_, fun v hv => ?_⟩)
              · go_simp
                exact lUpon_one
              subst hv
              go_simp
              refine hK _ ?_
              clear hK K
              refine lexL_step (fun K hK => ⟨by kernel_rfl, ⟨_, rfl⟩, fun n => ?_, fun v hv => ?_⟩)
              · go_simp
                exact lUpon_one
              subst hv
              go_simp
              refine hK _ ?_
              clear hK K
              refine lexL_step (fun K hK => ⟨by kernel_rfl, ⟨_, rfl⟩, fun n => ?_, fun v hv => ?_⟩)
              · go_simp
                exact lUpon_one
              subst hv
              go_simp
              refine hK _ ?_
              clear hK K
              refine lexL_step (fun K hK => ⟨by kernel_rfl, ⟨_, rfl⟩, fun n => ?_, fun v hv => ?_⟩)
              · go_simp
                exact lUpon_one
              subst hv
              go_simp
              refine hK _ ?_
              clear hK K
              refine lexL_step (fun K hK => ⟨by kernel_rfl, ⟨_, rfl⟩, fun n => ?_, fun v hv => ?_⟩)
              · go_simp
                exact lUpon_one
              subst hv
              go_simp
              refine hK _ ?_
              clear hK K
              refine lexL_step (fun K hK => ⟨by kernel_rfl, ⟨_, rfl⟩, fun n => ?_, fun v hv => ?_⟩)
              · go_simp
                exact lUpon_one
              subst hv
              go_simp
              refine hK _ ?_
              clear hK K
              refine lexL_step (fun K hK => ⟨by kernel_rfl, ⟨_, rfl⟩, fun n => ?_, fun v hv => ?_⟩)
              · go_simp
                exact lUpon_one
              subst hv
              go_simp
              refine hK _ ?_
              clear hK K
              refine lexL_step (fun K hK => ⟨by kernel_rfl, ⟨_, rfl⟩, fun n => ?_, fun v hv => ?_⟩)
              · go_simp
                exact lUpon_one
              subst hv
              go_simp
              refine hK _ ?_
              clear hK K
              refine lexL_step (fun K hK => ⟨by kernel_rfl, ⟨_, rfl⟩, fun n => ?_, fun v hv => ?_⟩)
              · go_simp
                exact lUpon_one
              subst hv
              go_simp
              refine hK _ ?_
              clear hK K
              refine lexL_step (fun K hK => ⟨by kernel_rfl, ⟨_, rfl⟩, fun n => ?_, fun v hv => ?_⟩)
              · go_simp
                exact lUpon_one
              subst hv
              go_simp
              refine hK _ ?_
              clear hK K
              refine lexL_step (fun K hK => ⟨by kernel_rfl, ⟨_, rfl⟩, fun n => ?_, fun v hv => ?_⟩)
              · go_simp
                exact lUpon_one
              subst hv
              go_simp
              refine hK _ ?_
              clear hK K
              refine lexL_step (fun K hK => ⟨by kernel_rfl, ⟨_, rfl⟩, fun n => ?_, fun v hv => ?_⟩)
              · go_simp
                exact lUpon_one
              subst hv
              go_simp
              refine hK _ ?_
              clear hK K
              refine lexL_step (fun K hK => ⟨by kernel_rfl, ⟨_, rfl⟩, fun n => ?_, fun v hv => ?_⟩)
              · go_simp
                exact lUpon_one
              subst hv
              go_simp
              refine hK _ ?_
              clear hK K
              refine lexL_step (fun K hK => ⟨by kernel_rfl, ⟨_, rfl⟩, fun n => ?_, fun v hv => ?_⟩)
              · go_simp
                exact lUpon_one
              subst hv
              go_simp
              refine hK _ ?_
              clear hK K
              refine lexL_step (fun K hK => ⟨by kernel_rfl, ⟨_, rfl⟩, fun n => ?_, fun v hv => ?_⟩)
              · go_simp
                exact lUpon_one
              subst hv
              go_simp
              refine hK _ ?_
              clear hK K
              refine lexL_step (fun K hK => ⟨by kernel_rfl, ⟨_, rfl⟩, fun n => ?_, fun v hv => ?_⟩)
              · go_simp
                exact lUpon_one
              subst hv
              go_simp
              refine hK _ ?_
              clear hK K
              refine lexL_step (fun K hK => ⟨by kernel_rfl, ⟨_, rfl⟩, fun n => ?_, fun v hv => ?_⟩)
              · go_simp
                exact lUpon_one
              subst hv
              go_simp
              refine hK _ ?_
              clear hK K
              refine lexL_step (fun K hK => ⟨by kernel_rfl, ⟨_, rfl⟩, fun n => ?_, fun v hv => ?_⟩)
              · go_simp
                exact lUpon_one
              subst hv
              go_simp
              refine hK _ ?_
              clear hK K
              refine lexL_step (fun K hK => ⟨by kernel_rfl, ⟨_, rfl⟩, fun n => ?_, fun v hv => ?_⟩)
              · go_simp
                exact lUpon_one
              subst hv
              go_simp
              refine hK _ ?_
              clear hK K
              refine lexL_step (fun K hK => ⟨by kernel_rfl, ⟨_, rfl⟩, fun n => ?_, fun v hv => ?_⟩)
              · go_simp
                exact lUpon_one
              subst hv
              go_simp
              refine hK _ ?_
              clear hK K
              refine lexL_step (fun K hK => ⟨by kernel_rfl, ⟨_, rfl⟩, fun n => ?_, fun v hv => ?_⟩)
              · go_simp
                exact lUpon_one
              subst hv
              go_simp
              refine hK _ ?_
              clear hK K
              refine lexL_step (fun K hK => ⟨by kernel_rfl, ⟨_, rfl⟩, fun n => ?_, fun v hv => ?_⟩)
              · go_simp
                exact lUpon_one
              subst hv
              go_simp
              refine hK _ ?_
              clear hK K
              refine lexL_step (fun K hK => ⟨by kernel_rfl, ⟨_, rfl⟩, fun n => ?_, fun v hv => ?_⟩)
              · go_simp
                exact lUpon_one
              subst hv
              go_simp
              refine hK _ ?_
              clear hK K
              refine lexL_step (fun K hK => ⟨by kernel_rfl, ⟨_, rfl⟩, fun n => ?_, fun v hv => ?_⟩)
              · go_simp
                exact lUpon_one
              subst hv
              go_simp
              refine hK _ ?_
              clear hK K
              refine lexL_step (fun K hK => ⟨by kernel_rfl, ⟨_, rfl⟩, fun n => ?_, fun v hv => ?_⟩)
              · go_simp
                exact lUpon_one
              subst hv
              go_simp
              refine hK _ ?_
              clear hK K
              refine lexL_step (fun K hK => ⟨by kernel_rfl, ⟨_, rfl⟩, fun n => ?_, fun v hv => ?_⟩)
              · go_simp
                exact lUpon_one
              subst hv
              go_simp
              refine hK _ ?_
              clear hK K
              refine lexL_step (fun K hK => ⟨by kernel_rfl, ⟨_, rfl⟩, fun n => ?_, fun v hv => ?_⟩)
              · go_simp
                exact lUpon_one
              subst hv
              go_simp
              refine hK _ ?_
              clear hK K
              refine lexL_step (fun K hK => ⟨by kernel_rfl, ⟨_, rfl⟩, fun n => ?_, fun v hv => ?_⟩)
              · go_simp
                exact lUpon_one
              subst hv
              go_simp
              refine hK _ ?_
              clear hK K
              refine lexL_step (fun K hK => ⟨by kernel_rfl, ⟨_, rfl⟩, fun n => ?_, fun v hv => ?_⟩)
              · go_simp
                exact lUpon_one
              subst hv
              go_simp
              refine hK _ ?_
              clear hK K
              refine lexL_step (fun K hK => ⟨by kernel_rfl, ⟨_, rfl⟩, fun n => ?_, fun v hv => ?_⟩)
              · go_simp
                exact lUpon_one
              subst hv
              go_simp
              refine hK _ ?_
              clear hK K
              refine lexL_step (fun K hK => ⟨by kernel_rfl, ⟨_, rfl⟩, fun n => ?_, fun v hv => ?_⟩)
              · go_simp
                exact lUpon_one
              subst hv
              go_simp
              refine hK _ ?_
              clear hK K
              refine lexL_step (fun K hK => ⟨by kernel_rfl, ⟨_, rfl⟩, fun n => ?_, fun v hv => ?_⟩)
              · go_simp
                exact lUpon_one
              subst hv
              go_simp
              refine hK _ ?_
              clear hK K
              refine lexL_step (fun K hK => ⟨by kernel_rfl, ⟨_, rfl⟩, fun n => ?_, fun v hv => ?_⟩)
              · go_simp
                exact lUpon_one
              subst hv
              go_simp
              refine hK _ ?_
              clear hK K
              refine lexL_step (fun K hK => ⟨by kernel_rfl, ⟨_, rfl⟩, fun n => ?_, fun v hv => ?_⟩)
              · go_simp
                exact lUpon_one
              subst hv
              go_simp
              refine hK _ ?_
              clear hK K
              refine lexL_step (fun K hK => ⟨by kernel_rfl, ⟨_, rfl⟩, fun n => ?_, fun v hv => ?_⟩)
              · go_simp
                exact lUpon_one
              subst hv
              go_simp
              refine hK _ ?_
              clear hK K
              refine lexL_step (fun K hK => ⟨by kernel_rfl, ⟨_, rfl⟩, fun n => ?_, fun v hv => ?_⟩)
              · go_simp
                exact lUpon_one
              subst hv
              go_simp
              refine hK _ ?_
              clear hK K
              refine lexL_step (fun K hK => ⟨by kernel_rfl, ⟨_, rfl⟩, fun n => ?_, fun v hv => ?_⟩)
              · go_simp
                exact lUpon_one
              subst hv
              go_simp
              refine hK _ ?_
              clear hK K
              refine lexL_end ?_
              intro n9
              have hbW := drawn_below wr n9
              have HK : HeldR (SpAt (wr.drewN n9) b2 (o2 + k * 2) s) := (unhideR HKs).below hbW hb2'
              have hb2 : b2 < (wr.drewN n9).heap.size := hb2'
              replace HO := hideR (own_below2 (unhideR HO) hbW)
              replace HQ := hideR (own_below2 (unhideR HQ) hbW)
              replace HK2 := hideR (below_go (unhideR HK2) hbW)
              clear c0 c1' cf cs cl
              generalize wr.drewN n9 = W9 at *
              clear hbW
              go_wp2_with fail
            all_goals
              refine wp_region_made 1 #[true, true, true, true, true, true, true, true, true, true, true, true, true, true, true, true, true, true, true, true, true, true, true, true, false, false] [.lets (· = u13),
                .lets (· = .slice (some ⟨b2, o2, none⟩) S.length capS),
                .lets (· = .int .i64 (k : Nat)),
                .lets (· = .pointer (some ⟨b2, o2 + k * 2, none⟩)),
                .lets (· = .pointer (some ⟨b2, o2 + k * 2, none⟩)),
                .lets (· = .int .i64 s.f),
                .lets (· = .int .i64 (s.f - 1)),
                .lets (· = .slice (some ⟨b2, o2, none⟩) S.length capS),
                .lets (· = .int .i64 (k : Nat)),
                .lets (· = .pointer (some ⟨b2, o2 + k * 2, none⟩)),
                .lets (· = .pointer (some ⟨b2, o2 + k * 2, none⟩)),
                .lets (· = .int .i64 s.f),
                .lets (· = .slice (some ⟨b2, o2, none⟩) S.length capS),
                .lets (· = .int .i64 (k : Nat)),
                .lets (· = .pointer (some ⟨b2, o2 + k * 2, none⟩)),
                .lets (· = .pointer (some ⟨b2, o2 + k * 2 + 1, none⟩)),
                .lets (· = .int .i64 s.t),
                .lets (· = .int .i64 (s.t - 1)),
                .lets (· = .slice (some ⟨b2, o2, none⟩) S.length capS),
                .lets (· = .int .i64 (k : Nat)),
                .lets (· = .pointer (some ⟨b2, o2 + k * 2, none⟩)),
                .lets (· = .pointer (some ⟨b2, o2 + k * 2 + 1, none⟩)),
                .lets (· = .int .i64 s.t),
                .made FourS (FourAt s s)] [23] [] (by kernel_rfl) (by kernel_rfl) rfl ?kinds (by kernel_rfl) (by kernel_rfl) (by kernel_rfl) ?_
              case kinds =>
                constructor
                · intro i h
                  rcases i with _ | _ | _ | _ | _ | _ | _ | _ | _ | _ | _ | _ | _ | _ | _ | _ | _ | _ | _ | _ | _ | _ | _ | _ | i <;> simp [Kx.isMade] at h ⊢
                · intro i h
                  rcases i with _ | _ | _ | _ | _ | _ | _ | _ | _ | _ | _ | _ | _ | _ | _ | _ | _ | _ | _ | _ | _ | _ | _ | _ | i <;> simp [Kx.isUse] at h
              refine lexX_step (fun K hK => ⟨by kernel_rfl, ⟨_, rfl⟩, fun v hv => ?_, fun v hv => ?_⟩)
              · go_simp
                exact mUpon_b
              rw [hv]
              clear hv v
              go_simp
              refine hK _ ?_
              clear hK K
              refine lexX_step (fun K hK => ⟨by kernel_rfl, ⟨_, rfl⟩, fun v hv => ?_, fun v hv => ?_⟩)
              · go_simp
                exact mUpon_b
              subst hv
              go_simp
              refine hK _ ?_
              clear hK K
              refine lexX_step (fun K hK => ⟨by kernel_rfl, ⟨_, rfl⟩, fun v hv => ?_, fun v hv => ?_⟩)
              · go_simp
                exact mUpon_b
              subst hv
              go_simp
              refine hK _ ?_
              clear hK K
              refine lexX_step (fun K hK => ⟨by kernel_rfl, ⟨_, rfl⟩, fun v hv => ?_, fun v hv => ?_⟩)
              · go_simp
                exact mUpon_b
              subst hv
              go_simp
              refine hK _ ?_
              clear hK K
              refine lexX_step (fun K hK => ⟨by kernel_rfl, ⟨_, rfl⟩, fun v hv => ?_, fun v hv => ?_⟩)
              · go_simp
                exact mUpon_b
              subst hv
              go_simp
              refine hK _ ?_
              clear hK K
              refine lexX_step (fun K hK => ⟨by kernel_rfl, ⟨_, rfl⟩, fun v hv => ?_, fun v hv => ?_⟩)
              · obtain ⟨c0, c1'⟩ := (unhideR HK).below hv hb2
                go_simp
                exact mUpon_b
              subst hv
              go_simp
              refine hK _ ?_
              clear hK K
              refine lexX_step (fun K hK => ⟨by kernel_rfl, ⟨_, rfl⟩, fun v hv => ?_, fun v hv => ?_⟩)
              · go_simp
                exact mUpon_b
              subst hv
              go_simp
              refine hK _ ?_
              clear hK K
              refine lexX_step (fun K hK => ⟨by kernel_rfl, ⟨_, rfl⟩, fun v hv => ?_, fun v hv => ?_⟩)
              · go_simp
                exact mUpon_b
              subst hv
              go_simp
              refine hK _ ?_
              clear hK K
              refine lexX_step (fun K hK => ⟨by kernel_rfl, ⟨_, rfl⟩, fun v hv => ?_, fun v hv => ?_⟩)
              · go_simp
                exact mUpon_b
              subst hv
              go_simp
              refine hK _ ?_
              clear hK K
              refine lexX_step (fun K hK => ⟨by kernel_rfl, ⟨_, rfl⟩, fun v hv => ?_, fun v hv => ?_⟩)
              · go_simp
                exact mUpon_b
              subst hv
              go_simp
              refine hK _ ?_
              clear hK K
              refine lexX_step (fun K hK => ⟨by kernel_rfl, ⟨_, rfl⟩, fun v hv => ?_, fun v hv => ?_⟩)
              · go_simp
                exact mUpon_b
              subst hv
              go_simp
              refine hK _ ?_
              clear hK K
              refine lexX_step (fun K hK => ⟨by kernel_rfl, ⟨_, rfl⟩, fun v hv => ?_, fun v hv => ?_⟩)
              · obtain ⟨c0, c1'⟩ := (unhideR HK).below hv hb2
                go_simp
                exact mUpon_b
              subst hv
              go_simp
              refine hK _ ?_
              clear hK K
              refine lexX_step (fun K hK => ⟨by kernel_rfl, ⟨_, rfl⟩, fun v hv => ?_, fun v hv => ?_⟩)
              · go_simp
                exact mUpon_b
              subst hv
              go_simp
              refine hK _ ?_
              clear hK K
              refine lexX_step (fun K hK => ⟨by kernel_rfl, ⟨_, rfl⟩, fun v hv => ?_, fun v hv => ?_⟩)
              · go_simp
                exact mUpon_b
              subst hv
              go_simp
              refine hK _ ?_
              clear hK K
              refine lexX_step (fun K hK => ⟨by kernel_rfl, ⟨_, rfl⟩, fun v hv => ?_, fun v hv => ?_⟩)
              · go_simp
                exact mUpon_b
              subst hv
              go_simp
              refine hK _ ?_
              clear hK K
              refine lexX_step (fun K hK => ⟨by kernel_rfl, ⟨_, rfl⟩, fun v hv => ?_, fun v hv => ?_⟩)
              · go_simp
                exact mUpon_b
              subst hv
              go_simp
              refine hK _ ?_
              clear hK K
              refine lexX_step (fun K hK => ⟨by kernel_rfl, ⟨_, rfl⟩, fun v hv => ?_, fun v hv => ?_⟩)
              · obtain ⟨c0, c1'⟩ := (unhideR HK).below hv hb2
                go_simp
                exact mUpon_b
              subst hv
              go_simp
              refine hK _ ?_
              clear hK K
              refine lexX_step (fun K hK => ⟨by kernel_rfl, ⟨_, rfl⟩, fun v hv => ?_, fun v hv => ?_⟩)
              · go_simp
                exact mUpon_b
              subst hv
              go_simp
              refine hK _ ?_
              clear hK K
              refine lexX_step (fun K hK => ⟨by kernel_rfl, ⟨_, rfl⟩, fun v hv => ?_, fun v hv => ?_⟩)
              · go_simp
                exact mUpon_b
              subst hv
              go_simp
              refine hK _ ?_
              clear hK K
              refine lexX_step (fun K hK => ⟨by kernel_rfl, ⟨_, rfl⟩, fun v hv => ?_, fun v hv => ?_⟩)
              · go_simp
                exact mUpon_b
              subst hv
              go_simp
              refine hK _ ?_
              clear hK K
              refine lexX_step (fun K hK => ⟨by kernel_rfl, ⟨_, rfl⟩, fun v hv => ?_, fun v hv => ?_⟩)
              · go_simp
                exact mUpon_b
              subst hv
              go_simp
              refine hK _ ?_
              clear hK K
              refine lexX_step (fun K hK => ⟨by kernel_rfl, ⟨_, rfl⟩, fun v hv => ?_, fun v hv => ?_⟩)
              · go_simp
                exact mUpon_b
              subst hv
              go_simp
              refine hK _ ?_
              clear hK K
              refine lexX_step (fun K hK => ⟨by kernel_rfl, ⟨_, rfl⟩, fun v hv => ?_, fun v hv => ?_⟩)
              · obtain ⟨c0, c1'⟩ := (unhideR HK).below hv hb2
                go_simp
                exact mUpon_b
              subst hv
              go_simp
              refine hK _ ?_
              clear hK K
              refine lexX_made ⟨by kernel_rfl, ⟨_, 0, rfl⟩, four_stb _ _, fun v hv => ?_, ?_⟩
              · go_simp
                refine ⟨(Below.refl _ v).alloc (Nat.le_refl _) _, ⟨_, rfl⟩, fun b' e => ?_⟩
                cases e
                exact alloc_last v _
              rintro _ ⟨nb, rfl⟩ K hK
              go_simp
              refine hK _ ?_
              clear hK K
              refine lexX_end (fun v2 hv => ?_)
              have hn := hv.fact.2 nb rfl
              have hb3 := hv.low
              clear hv
              have HO2 := hideR (own_below2 (unhideR HO) hb3)
              have HQ2 := hideR (own_below2 (unhideR HQ) hb3)
              have HB2 := hideR (below_go (unhideR HK2) hb3)
              have l2 := hb3.size
              have l3 := (unhideR HK2).size
              have HNB := hideR hn
              have hyl := unhideR HY
              clear hb3 hn HO HK2
              refine wpAny_step (i := 24) (by kernel_rfl) rfl (by kernel_rfl) (fun K hK => ?_)
              refine wp_append_own _ _ _ 23 rfl W0.heap.size 3 i0 (.int .i64 0) 1 8 Tryd.underlying23 hi hz0 hz1 hz2 rfl (by decide) u13 Y.length (Y.map (Value.int .i64)) rfl (unhideR HO2) ⟨nb, 0, none⟩ 4 4 [.int .i64 (s.f - 1), .int .i64 s.f, .int .i64 (s.t - 1), .int .i64 s.t] rfl rfl ?q1 ?q2 ?q3 ?q4 ?q5 ?_
              case q1 =>
                intro m u hm
                have hm0 : m < 4 := by
                  have h := (List.getElem?_eq_some_iff.1 hm).1
                  simpa using h
                rw [add_pl2, Nat.zero_add, (cells_at (unhideR HNB) m (by simp; omega)).1]
                rcases (show m = 0 ∨ m = 1 ∨ m = 2 ∨ m = 3 by omega) with rfl | rfl | rfl | rfl
                all_goals
                  simp at hm
                  subst hm
                  rfl
              case q2 =>
                intro u hu
                simp at hu
                rcases hu with rfl | rfl | rfl | rfl <;> rfl
              case q3 => unfold maxLen; omega
              case q4 => omega
              case q5 => omega
              intro v3 w3 hown2 hgrow2 _
              have B3 := hideR ((unhideR HB2).grown hgrow2 (by omega) (fun g h => by have := own_at2 (unhideR HO2) g h; omega))
              have Q3 := hideR (own_keep (unhideR HO2) (unhideR HQ2) (by decide) hgrow2)
              have O3 : HeldR (w3.ownsRow W0.heap.size 3 1 v3 (Y ++ [s.f - 1, s.f, s.t - 1, s.t]).length ((Y ++ [s.f - 1, s.f, s.t - 1, s.t]).map (Value.int .i64))) := by
                unfold HeldR
                simpa using hown2
              have Y3 : (Y ++ [s.f - 1, s.f, s.t - 1, s.t]).length = Y.length + 4 := by simp
              clear hown2 hgrow2 HO2 HB2 HK HNB
              generalize Y ++ [s.f - 1, s.f, s.t - 1, s.t] = Y2 at *
              have HY2 := hideR Y3
              have HYl := hideR hyl
              clear Y3 hyl
              go_simp
              refine hK _ _ ?_
              clear hK K
              refine wpAny_step (i := 25) (by kernel_rfl) rfl (by kernel_rfl) (fun K hK => ?_)
              unfold Oper.wp
              go_simp
              refine hK _ _ ?_
              clear hK K
              refine wpAny_end (by kernel_rfl) ?_
              go_wp2
              exact ⟨⟨k + 1, Y2, by omega, by go_num, by have := unhideR HY2; have := unhideR HYl; unfold HeldR; omega, O3, Q3, B3⟩, by simp [intOf]; omega⟩
        · obtain rfl : k = S.length := by omega
          have HY0 : HeldR (Y.length ≤ 100 + 4 * S.length + 0) := HY
          clear HY hlt hk HRi HSi
          have HO' := HO
          have HQ' := HQ
          have HK2' := HK2
          clear HO HQ HK2
          obtain ⟨_, cf, cs, cl, _⟩ := (unhideR HT).below (below_go (unhideR HW0) (unhideR HK2'))
          go_wp2
          clear cf cs cl
          go_loopw [13, 16] (fun av iv wl => ∃ (k : Nat) (Y : List Int), k ≤ t.L.length ∧ iv = .int .i64 (k : Nat) ∧ HeldR (Y.length ≤ 100 + 4 * S.length + k) ∧ HeldR (wl.ownsRow W0.heap.size 3 1 av Y.length (Y.map (Value.int .i64))) ∧ HeldR (wl.ownsRow QB 50 2 (.slice eS S.length gS) S.length (flatSp S)) ∧ HeldR (Below W0.heap.size W0 wl)) (fun _ iv _ => t.L.length + 1 - (intOf iv).toNat)
          case atStart => exact ⟨0, Y, by omega, rfl, HY0, HO', HQ', HK2'⟩
          case round =>
            clear HY0 HO' HQ' HK2'
            obtain ⟨k, Y, hk, rfl, HY, HO, HQ, HK2⟩ := hrel
            obtain ⟨_, cf, cs, cl, _⟩ := (unhideR HT).below (below_go (unhideR HW0) (unhideR HK2))
            by_cases hlt : k < t.L.length
            · as_aux_lemma =>
                have hat := unhideR HAt k hlt
                have hla := unhideR HLast
                have w1' : IntKind.i64.wrap ((k : Int) * t.st) = (k : Int) * t.st := iwrap (by omega) (by omega)
                have w2' : IntKind.i64.wrap (t.fr + (k : Int) * t.st) = t.fr + (k : Int) * t.st := iwrap (by omega) (by omega)
                clear hat hla
                go_wp2_with fail
                clear cf cs cl
                refine wp_region_made 1 #[true, true, true, true, true, true, true, true, true, true, true, true, true, false, false] [.lets (· = u13),
                  .lets (· = .pointer (some ⟨b, off, none⟩)),
                  .lets (· = .pointer (some ⟨b, off, none⟩)),
                  .lets (· = .pointer (some ⟨b, off, none⟩)),
                  .lets (· = .int .i64 t.fr),
                  .lets (· = .int .i64 (k : Nat)),
                  .lets (· = .pointer (some ⟨b, off, none⟩)),
                  .lets (· = .pointer (some ⟨b, off, none⟩)),
                  .lets (· = .pointer (some ⟨b, off + 1, none⟩)),
                  .lets (· = .int .i64 t.st),
                  .lets (· = .int .i64 ((k : Int) * t.st)),
                  .lets (· = .int .i64 (t.fr + (k : Int) * t.st)),
                  .made OneV (OneI (t.fr + (k : Int) * t.st))] [12] [] (by kernel_rfl) (by kernel_rfl) rfl ?kinds (by kernel_rfl) (by kernel_rfl) (by kernel_rfl) ?_
                case kinds =>
                  constructor
                  · intro i h
                    rcases i with _ | _ | _ | _ | _ | _ | _ | _ | _ | _ | _ | _ | _ | i <;> simp [Kx.isMade] at h ⊢
                  · intro i h
                    rcases i with _ | _ | _ | _ | _ | _ | _ | _ | _ | _ | _ | _ | _ | i <;> simp [Kx.isUse] at h
                refine lexX_step (fun K hK => ⟨by kernel_rfl, ⟨_, rfl⟩, fun v hv => ?_, fun v hv => ?_⟩)
                · go_simp
                  exact mUpon_b
                rw [hv]
                clear hv v
                go_simp
                refine hK _ ?_
                clear hK K
                refine lexX_step (fun K hK => ⟨by kernel_rfl, ⟨_, rfl⟩, fun v hv => ?_, fun v hv => ?_⟩)
                · go_simp
                  exact mUpon_b
                subst hv
                go_simp
                refine hK _ ?_
                clear hK K
                refine lexX_step (fun K hK => ⟨by kernel_rfl, ⟨_, rfl⟩, fun v hv => ?_, fun v hv => ?_⟩)
                · go_simp
                  exact mUpon_b
                subst hv
                go_simp
                refine hK _ ?_
                clear hK K
                refine lexX_step (fun K hK => ⟨by kernel_rfl, ⟨_, rfl⟩, fun v hv => ?_, fun v hv => ?_⟩)
                · go_simp
                  exact mUpon_b
                subst hv
                go_simp
                refine hK _ ?_
                clear hK K
                refine lexX_step (fun K hK => ⟨by kernel_rfl, ⟨_, rfl⟩, fun v hv => ?_, fun v hv => ?_⟩)
                · obtain ⟨_, c0, c1, c2, _⟩ := (unhideR HT).below (below_go (unhideR HW0) (below_go (unhideR HK2) hv))
                  go_simp
                  exact mUpon_b
                subst hv
                go_simp
                refine hK _ ?_
                clear hK K
                refine lexX_step (fun K hK => ⟨by kernel_rfl, ⟨_, rfl⟩, fun v hv => ?_, fun v hv => ?_⟩)
                · go_simp
                  exact mUpon_b
                subst hv
                go_simp
                refine hK _ ?_
                clear hK K
                refine lexX_step (fun K hK => ⟨by kernel_rfl, ⟨_, rfl⟩, fun v hv => ?_, fun v hv => ?_⟩)
                · go_simp
                  exact mUpon_b
                subst hv
                go_simp
                refine hK _ ?_
                clear hK K
                refine lexX_step (fun K hK => ⟨by kernel_rfl, ⟨_, rfl⟩, fun v hv => ?_, fun v hv => ?_⟩)
                · go_simp
                  exact mUpon_b
                subst hv
                go_simp
                refine hK _ ?_
                clear hK K
                refine lexX_step (fun K hK => ⟨by kernel_rfl, ⟨_, rfl⟩, fun v hv => ?_, fun v hv => ?_⟩)
                · go_simp
                  exact mUpon_b
                subst hv
                go_simp
                refine hK _ ?_
                clear hK K
                refine lexX_step (fun K hK => ⟨by kernel_rfl, ⟨_, rfl⟩, fun v hv => ?_, fun v hv => ?_⟩)
                · obtain ⟨_, c0, c1, c2, _⟩ := (unhideR HT).below (below_go (unhideR HW0) (below_go (unhideR HK2) hv))
                  go_simp
                  exact mUpon_b
                subst hv
                go_simp
                refine hK _ ?_
                clear hK K
                refine lexX_step (fun K hK => ⟨by kernel_rfl, ⟨_, rfl⟩, fun v hv => ?_, fun v hv => ?_⟩)
                · go_simp
                  exact mUpon_b
                subst hv
                go_simp
                refine hK _ ?_
                clear hK K
                refine lexX_step (fun K hK => ⟨by kernel_rfl, ⟨_, rfl⟩, fun v hv => ?_, fun v hv => ?_⟩)
                · go_simp
                  exact mUpon_b
                subst hv
                go_simp
                refine hK _ ?_
                clear hK K
                refine lexX_made ⟨by kernel_rfl, ⟨_, 0, rfl⟩, oneI_stb _, fun v hv => ?_, ?_⟩
                · go_simp
                  refine ⟨(Below.refl _ v).alloc (Nat.le_refl _) _, ⟨_, rfl⟩, fun b' e => ?_⟩
                  cases e
                  exact alloc_last v _
                rintro _ ⟨nb, rfl⟩ K hK
                go_simp
                refine hK _ ?_
                clear hK K
                refine lexX_end (fun v2 hv => ?_)
                have hn' := hv.fact.2 nb rfl
                have hb3 := hv.low
                clear hv
                have HO2 := hideR (own_below2 (unhideR HO) hb3)
                have HQ2 := hideR (own_below2 (unhideR HQ) hb3)
                have HB2 := hideR (below_go (unhideR HK2) hb3)
                have l2' := hb3.size
                have l3' := (unhideR HK2).size
                have HNB := hideR hn'
                have hyl := unhideR HY
                clear hb3 hn' HO HK2
                refine wpAny_step (i := 13) (by kernel_rfl) rfl (by kernel_rfl) (fun K hK => ?_)
                refine wp_append_own _ _ _ 23 rfl W0.heap.size 3 i0 (.int .i64 0) 1 8 Tryd.underlying23 hi hz0 hz1 hz2 rfl (by decide) u13 Y.length (Y.map (Value.int .i64)) rfl (unhideR HO2) ⟨nb, 0, none⟩ 1 1 [.int .i64 (t.fr + (k : Int) * t.st)] rfl rfl ?q1 ?q2 ?q3 ?q4 ?q5 ?_
                case q1 =>
                  intro m u hm
                  have hm0 : m < 1 := by
                    have h := (List.getElem?_eq_some_iff.1 hm).1
                    simpa using h
                  obtain rfl : m = 0 := by omega
                  rw [add_pl2, Nat.zero_add, (cells_at (unhideR HNB) 0 (by simp)).1]
                  simp at hm
                  subst hm
                  rfl
                case q2 =>
                  intro u hu
                  simp at hu
                  subst hu
                  rfl
                case q3 => unfold maxLen; omega
                case q4 => omega
                case q5 => omega
                intro v3' w3' hown2 hgrow2 _
                have B3 := hideR ((unhideR HB2).grown hgrow2 (by omega) (fun g h => by have := own_at2 (unhideR HO2) g h; omega))
                have Q3 := hideR (own_keep (unhideR HO2) (unhideR HQ2) (by decide) hgrow2)
                have O3 : HeldR (w3'.ownsRow W0.heap.size 3 1 v3' (Y ++ [t.fr + (k : Int) * t.st]).length ((Y ++ [t.fr + (k : Int) * t.st]).map (Value.int .i64))) := by
                  unfold HeldR
                  simpa using hown2
                have Y3 : (Y ++ [t.fr + (k : Int) * t.st]).length = Y.length + 1 := by simp
                clear hown2 hgrow2 HO2 HB2 HNB
                generalize Y ++ [t.fr + (k : Int) * t.st] = Y2 at *
                have HY2 := hideR Y3
                have HYl := hideR hyl
                clear Y3 hyl
                go_simp
                refine hK _ _ ?_
                clear hK K
                refine wpAny_step (i := 14) (by kernel_rfl) rfl (by kernel_rfl) (fun K hK => ?_)
                unfold Oper.wp
                go_simp
                refine hK _ _ ?_
                clear hK K
                refine wpAny_end (by kernel_rfl) ?_
                go_wp2
                exact ⟨⟨k + 1, Y2, by omega, by go_num, by have := unhideR HY2; have := unhideR HYl; unfold HeldR; omega, O3, Q3, B3⟩, by simp [intOf]; omega⟩
            · obtain ⟨dY, cY, rfl, hIY, _⟩ := own_ints (unhideR HO)
              obtain ⟨dQ, cQ, eQ, hSQ⟩ := Spown (unhideR HQ)
              cases eQ
              have HIY := hideR hIY
              have HSQ := hideR hSQ
              have hyl : Y.length ≤ 90000 := by have := unhideR HY; omega
              have HK3 := HK2
              clear hIY hSQ HO HQ HY HK2
              go_wp2
              clear hlt hk
              clear cf cs cl
              go_loopw [17] (fun iv wl => ∃ k : Nat, k ≤ Y.length ∧ iv = .int .i64 (k : Nat) ∧ HeldR (Below wr.heap.size wr wl)) (fun iv _ => Y.length + 1 - (intOf iv).toNat)
              case atStart => exact ⟨0, by omega, rfl, hideR (Below.refl _ _)⟩
              case round =>
                obtain ⟨k, hk, rfl, HZ⟩ := hrel
                by_cases hlt : k < Y.length
                · as_aux_lemma =>
                    obtain ⟨b3, o3, rfl, hb3, hc⟩ := ((unhideR HIY).below (unhideR HZ)).at_ k hlt
                    obtain ⟨_, cf, cs, cl, _⟩ := (unhideR HT).below (below_go (below_go (unhideR HW0) (unhideR HK3)) (unhideR HZ))
                    generalize Y.getD k 0 = y at *
                    by_cases q1 : y < t.fr
                    · have x1 : decide (y < t.fr) = true := decide_eq_true q1
                      go_wp2_with fail
                      refine wp_region_lets [(· = .slice (some ⟨b3, o3, none⟩) Y.length cY),
                        (· = .int .i64 (k : Nat)),
                        (· = .pointer (some ⟨b3, o3 + k, none⟩)),
                        (· = .int .i64 y),
                        (· = .pointer (some ⟨b, off, none⟩)),
                        (· = .pointer (some ⟨b, off, none⟩)),
                        (· = .pointer (some ⟨b, off, none⟩)),
                        (· = .int .i64 t.fr),
                        (· = .bool true),
                        (· = .bool true),
                        (· = undef),
                        (· = undef),
                        (· = undef),
                        (· = undef),
                        (· = undef),
                        (· = undef),
                        (· = .bool true)] (by kernel_rfl) (by kernel_rfl) ?_
                      refine lexL_step (fun K hK => ⟨by kernel_rfl, ⟨_, rfl⟩, fun n => ?_, fun v hv => ?_⟩)
                      · go_simp
                        exact lUpon_one
                      subst hv
                      go_simp
                      refine hK _ ?_
                      clear hK K
                      refine lexL_step (fun K hK => ⟨by kernel_rfl, ⟨_, rfl⟩, fun n => ?_, fun v hv => ?_⟩)
                      · go_simp
                        exact lUpon_one
                      subst hv
                      go_simp
                      refine hK _ ?_
                      clear hK K
                      refine lexL_step (fun K hK => ⟨by kernel_rfl, ⟨_, rfl⟩, fun n => ?_, fun v hv => ?_⟩)
                      · go_simp
                        exact lUpon_one
                      subst hv
                      go_simp
                      refine hK _ ?_
                      clear hK K
                      refine lexL_step (fun K hK => ⟨by kernel_rfl, ⟨_, rfl⟩, fun n => ?_, fun v hv => ?_⟩)
                      · go_simp
                        exact lUpon_one
                      subst hv
                      go_simp
                      refine hK _ ?_
                      clear hK K
                      refine lexL_step (fun K hK => ⟨by kernel_rfl, ⟨_, rfl⟩, fun n => ?_, fun v hv => ?_⟩)
                      · go_simp
                        exact lUpon_one
                      subst hv
                      go_simp
                      refine hK _ ?_
                      clear hK K
                      refine lexL_step (fun K hK => ⟨by kernel_rfl, ⟨_, rfl⟩, fun n => ?_, fun v hv => ?_⟩)
                      · go_simp
                        exact lUpon_one
                      subst hv
                      go_simp
                      refine hK _ ?_
                      clear hK K
                      refine lexL_step (fun K hK => ⟨by kernel_rfl, ⟨_, rfl⟩, fun n => ?_, fun v hv => ?_⟩)
                      · go_simp
                        exact lUpon_one
                      subst hv
                      go_simp
                      refine hK _ ?_
                      clear hK K
                      refine lexL_step (fun K hK => ⟨by kernel_rfl, ⟨_, rfl⟩, fun n => ?_, fun v hv => ?_⟩)
                      · go_simp
                        exact lUpon_one
                      subst hv
                      go_simp
                      refine hK _ ?_
                      clear hK K
                      refine lexL_step (fun K hK => ⟨by kernel_rfl, ⟨_, rfl⟩, fun n => ?_, fun v hv => ?_⟩)
                      · go_simp
                        exact lUpon_one
                      subst hv
                      go_simp
                      refine hK _ ?_
                      clear hK K
                      refine lexL_step (fun K hK => ⟨by kernel_rfl, ⟨_, rfl⟩, fun n => ?_, fun v hv => ?_⟩)
                      · go_simp
                        exact lUpon_one
                      subst hv
                      go_simp
                      refine hK _ ?_
                      clear hK K
                      refine lexL_skip (fun K hK => ⟨by kernel_rfl, ?_⟩)
                      go_simp
                      refine hK _ ?_
                      clear hK K
                      refine lexL_skip (fun K hK => ⟨by kernel_rfl, ?_⟩)
                      go_simp
                      refine hK _ ?_
                      clear hK K
                      refine lexL_skip (fun K hK => ⟨by kernel_rfl, ?_⟩)
                      go_simp
                      refine hK _ ?_
                      clear hK K
                      refine lexL_skip (fun K hK => ⟨by kernel_rfl, ?_⟩)
                      go_simp
                      refine hK _ ?_
                      clear hK K
                      refine lexL_skip (fun K hK => ⟨by kernel_rfl, ?_⟩)
                      go_simp
                      refine hK _ ?_
                      clear hK K
                      refine lexL_skip (fun K hK => ⟨by kernel_rfl, ?_⟩)
                      go_simp
                      refine hK _ ?_
                      clear hK K
                      refine lexL_step (fun K hK => ⟨by kernel_rfl, ⟨_, rfl⟩, fun n => ?_, fun v hv => ?_⟩)
                      · go_simp
                        exact lUpon_one
                      subst hv
                      go_simp
                      refine hK _ ?_
                      clear hK K
                      refine lexL_end ?_
                      intro n9
                      go_wp2
                      exact ⟨⟨k + 1, by omega, by go_num, hideR (below_go (unhideR HZ) (drawn_below _ _))⟩, by simp [intOf]; omega⟩
                    by_cases q2 : t.last < y
                    · have x1 : decide (y < t.fr) = false := decide_eq_false q1
                      have x2 : decide (t.last < y) = true := decide_eq_true q2
                      go_wp2_with fail
                      refine wp_region_lets [(· = .slice (some ⟨b3, o3, none⟩) Y.length cY),
                        (· = .int .i64 (k : Nat)),
                        (· = .pointer (some ⟨b3, o3 + k, none⟩)),
                        (· = .int .i64 y),
                        (· = .pointer (some ⟨b, off, none⟩)),
                        (· = .pointer (some ⟨b, off, none⟩)),
                        (· = .pointer (some ⟨b, off, none⟩)),
                        (· = .int .i64 t.fr),
                        (· = .bool false),
                        (· = .bool false),
                        (· = .slice (some ⟨b3, o3, none⟩) Y.length cY),
                        (· = .int .i64 (k : Nat)),
                        (· = .pointer (some ⟨b3, o3 + k, none⟩)),
                        (· = .int .i64 y),
                        (· = .int .i64 t.last),
                        (· = .bool true),
                        (· = .bool true)] (by kernel_rfl) (by kernel_rfl) ?_
                      refine lexL_step (fun K hK => ⟨by kernel_rfl, ⟨_, rfl⟩, fun n => ?_, fun v hv => ?_⟩)
                      · go_simp
                        exact lUpon_one
                      subst hv
                      go_simp
                      refine hK _ ?_
                      clear hK K
                      refine lexL_step (fun K hK => ⟨by kernel_rfl, ⟨_, rfl⟩, fun n => ?_, fun v hv => ?_⟩)
                      · go_simp
                        exact lUpon_one
                      subst hv
                      go_simp
                      refine hK _ ?_
                      clear hK K
                      refine lexL_step (fun K hK => ⟨by kernel_rfl, ⟨_, rfl⟩, fun n => ?_, fun v hv => ?_⟩)
                      · go_simp
                        exact lUpon_one
                      subst hv
                      go_simp
                      refine hK _ ?_
                      clear hK K
                      refine lexL_step (fun K hK => ⟨by kernel_rfl, ⟨_, rfl⟩, fun n => ?_, fun v hv => ?_⟩)
                      · go_simp
                        exact lUpon_one
                      subst hv
                      go_simp
                      refine hK _ ?_
                      clear hK K
                      refine lexL_step (fun K hK => ⟨by kernel_rfl, ⟨_, rfl⟩, fun n => ?_, fun v hv => ?_⟩)
                      · go_simp
                        exact lUpon_one
                      subst hv
                      go_simp
                      refine hK _ ?_
                      clear hK K
                      refine lexL_step (fun K hK => ⟨by kernel_rfl, ⟨_, rfl⟩, fun n => ?_, fun v hv => ?_⟩)
                      · go_simp
                        exact lUpon_one
                      subst hv
                      go_simp
                      refine hK _ ?_
                      clear hK K
                      refine lexL_step (fun K hK => ⟨by kernel_rfl, ⟨_, rfl⟩, fun n => ?_, fun v hv => ?_⟩)
                      · go_simp
                        exact lUpon_one
                      subst hv
                      go_simp
                      refine hK _ ?_
                      clear hK K
                      refine lexL_step (fun K hK => ⟨by kernel_rfl, ⟨_, rfl⟩, fun n => ?_, fun v hv => ?_⟩)
                      · go_simp
                        exact lUpon_one
                      subst hv
                      go_simp
                      refine hK _ ?_
                      clear hK K
                      refine lexL_step (fun K hK => ⟨by kernel_rfl, ⟨_, rfl⟩, fun n => ?_, fun v hv => ?_⟩)
                      · go_simp
                        exact lUpon_one
                      subst hv
                      go_simp
                      refine hK _ ?_
                      clear hK K
                      refine lexL_step (fun K hK => ⟨by kernel_rfl, ⟨_, rfl⟩, fun n => ?_, fun v hv => ?_⟩)
                      · go_simp
                        exact lUpon_one
                      subst hv
                      go_simp
                      refine hK _ ?_
                      clear hK K
                      refine lexL_step (fun K hK => ⟨by kernel_rfl, ⟨_, rfl⟩, fun n => ?_, fun v hv => ?_⟩)
                      · go_simp
                        exact lUpon_one
                      subst hv
                      go_simp
                      refine hK _ ?_
                      clear hK K
                      refine lexL_step (fun K hK => ⟨by kernel_rfl, ⟨_, rfl⟩, fun n => ?_, fun v hv => ?_⟩)
                      · go_simp
                        exact lUpon_one
                      subst hv
                      go_simp
                      refine hK _ ?_
                      clear hK K
                      refine lexL_step (fun K hK => ⟨by kernel_rfl, ⟨_, rfl⟩, fun n => ?_, fun v hv => ?_⟩)
                      · go_simp
                        exact lUpon_one
                      subst hv
                      go_simp
                      refine hK _ ?_
                      clear hK K
                      refine lexL_step (fun K hK => ⟨by kernel_rfl, ⟨_, rfl⟩, fun n => ?_, fun v hv => ?_⟩)
                      · go_simp
                        exact lUpon_one
                      subst hv
                      go_simp
                      refine hK _ ?_
                      clear hK K
                      refine lexL_step (fun K hK => ⟨by kernel_rfl, ⟨_, rfl⟩, fun n => ?_, fun v hv => ?_⟩)
                      · go_simp
                        exact lUpon_one
                      subst hv
                      go_simp
                      refine hK _ ?_
                      clear hK K
                      refine lexL_step (fun K hK => ⟨by kernel_rfl, ⟨_, rfl⟩, fun n => ?_, fun v hv => ?_⟩)
                      · go_simp
                        exact lUpon_one
                      subst hv
                      go_simp
                      refine hK _ ?_
                      clear hK K
                      refine lexL_step (fun K hK => ⟨by kernel_rfl, ⟨_, rfl⟩, fun n => ?_, fun v hv => ?_⟩)
                      · go_simp
                        exact lUpon_one
                      subst hv
                      go_simp
                      refine hK _ ?_
                      clear hK K
                      refine lexL_end ?_
                      intro n9
                      go_wp2
                      exact ⟨⟨k + 1, by omega, by go_num, hideR (below_go (unhideR HZ) (drawn_below _ _))⟩, by simp [intOf]; omega⟩
                    have x1 : decide (y < t.fr) = false := decide_eq_false q1
                    have x2 : decide (t.last < y) = false := decide_eq_false q2
                    go_wp2_with fail
                    refine wp_region_lets [(· = .slice (some ⟨b3, o3, none⟩) Y.length cY),
                      (· = .int .i64 (k : Nat)),
                      (· = .pointer (some ⟨b3, o3 + k, none⟩)),
                      (· = .int .i64 y),
                      (· = .pointer (some ⟨b, off, none⟩)),
                      (· = .pointer (some ⟨b, off, none⟩)),
                      (· = .pointer (some ⟨b, off, none⟩)),
                      (· = .int .i64 t.fr),
                      (· = .bool false),
                      (· = .bool false),
                      (· = .slice (some ⟨b3, o3, none⟩) Y.length cY),
                      (· = .int .i64 (k : Nat)),
                      (· = .pointer (some ⟨b3, o3 + k, none⟩)),
                      (· = .int .i64 y),
                      (· = .int .i64 t.last),
                      (· = .bool false),
                      (· = .bool false)] (by kernel_rfl) (by kernel_rfl) ?_
                    refine lexL_step (fun K hK => ⟨by kernel_rfl, ⟨_, rfl⟩, fun n => ?_, fun v hv => ?_⟩)
                    · go_simp
                      exact lUpon_one
                    subst hv
                    go_simp
                    refine hK _ ?_
                    clear hK K
                    refine lexL_step (fun K hK => ⟨by kernel_rfl, ⟨_, rfl⟩, fun n => ?_, fun v hv => ?_⟩)
                    · go_simp
                      exact lUpon_one
                    subst hv
                    go_simp
                    refine hK _ ?_
                    clear hK K
                    refine lexL_step (fun K hK => ⟨by kernel_rfl, ⟨_, rfl⟩, fun n => ?_, fun v hv => ?_⟩)
                    · go_simp
                      exact lUpon_one
                    subst hv
                    go_simp
                    refine hK _ ?_
                    clear hK K
                    refine lexL_step (fun K hK => ⟨by kernel_rfl, ⟨_, rfl⟩, fun n => ?_, fun v hv => ?_⟩)
                    · go_simp
                      exact lUpon_one
                    subst hv
                    go_simp
                    refine hK _ ?_
                    clear hK K
                    refine lexL_step (fun K hK => ⟨by kernel_rfl, ⟨_, rfl⟩, fun n => ?_, fun v hv => ?_⟩)
                    · go_simp
                      exact lUpon_one
                    subst hv
                    go_simp
                    refine hK _ ?_
                    clear hK K
                    refine lexL_step (fun K hK => ⟨by kernel_rfl, ⟨_, rfl⟩, fun n => ?_, fun v hv => ?_⟩)
                    · go_simp
                      exact lUpon_one
                    subst hv
                    go_simp
                    refine hK _ ?_
                    clear hK K
                    refine lexL_step (fun K hK => ⟨by kernel_rfl, ⟨_, rfl⟩, fun n => ?_, fun v hv => ?_⟩)
                    · go_simp
                      exact lUpon_one
                    subst hv
                    go_simp
                    refine hK _ ?_
                    clear hK K
                    refine lexL_step (fun K hK => ⟨by kernel_rfl, ⟨_, rfl⟩, fun n => ?_, fun v hv => ?_⟩)
                    · go_simp
                      exact lUpon_one
                    subst hv
                    go_simp
                    refine hK _ ?_
                    clear hK K
                    refine lexL_step (fun K hK => ⟨by kernel_rfl, ⟨_, rfl⟩, fun n => ?_, fun v hv => ?_⟩)
                    · go_simp
                      exact lUpon_one
                    subst hv
                    go_simp
                    refine hK _ ?_
                    clear hK K
                    refine lexL_step (fun K hK => ⟨by kernel_rfl, ⟨_, rfl⟩, fun n => ?_, fun v hv => ?_⟩)
                    · go_simp
                      exact lUpon_one
                    subst hv
                    go_simp
                    refine hK _ ?_
                    clear hK K
                    refine lexL_step (fun K hK => ⟨by kernel_rfl, ⟨_, rfl⟩, fun n => ?_, fun v hv => ?_⟩)
                    · go_simp
                      exact lUpon_one
                    subst hv
                    go_simp
                    refine hK _ ?_
                    clear hK K
                    refine lexL_step (fun K hK => ⟨by kernel_rfl, ⟨_, rfl⟩, fun n => ?_, fun v hv => ?_⟩)
                    · go_simp
                      exact lUpon_one
                    subst hv
                    go_simp
                    refine hK _ ?_
                    clear hK K
                    refine lexL_step (fun K hK => ⟨by kernel_rfl, ⟨_, rfl⟩, fun n => ?_, fun v hv => ?_⟩)
                    · go_simp
                      exact lUpon_one
                    subst hv
                    go_simp
                    refine hK _ ?_
                    clear hK K
                    refine lexL_step (fun K hK => ⟨by kernel_rfl, ⟨_, rfl⟩, fun n => ?_, fun v hv => ?_⟩)
                    · go_simp
                      exact lUpon_one
                    subst hv
                    go_simp
                    refine hK _ ?_
                    clear hK K
                    refine lexL_step (fun K hK => ⟨by kernel_rfl, ⟨_, rfl⟩, fun n => ?_, fun v hv => ?_⟩)
                    · go_simp
                      exact lUpon_one
                    subst hv
                    go_simp
                    refine hK _ ?_
                    clear hK K
                    refine lexL_step (fun K hK => ⟨by kernel_rfl, ⟨_, rfl⟩, fun n => ?_, fun v hv => ?_⟩)
                    · go_simp
                      exact lUpon_one
                    subst hv
                    go_simp
                    refine hK _ ?_
                    clear hK K
                    refine lexL_step (fun K hK => ⟨by kernel_rfl, ⟨_, rfl⟩, fun n => ?_, fun v hv => ?_⟩)
                    · go_simp
                      exact lUpon_one
                    subst hv
                    go_simp
                    refine hK _ ?_
                    clear hK K
                    refine lexL_end ?_
                    intro n9
                    have hbW := drawn_below wr n9
                    have hc2 := (hbW.cell (p := ⟨b3, o3 + k, none⟩) hb3).trans hc
                    replace HZ := hideR (below_go (unhideR HZ) hbW)
                    clear cf cs cl hc
                    generalize wr.drewN n9 = W9 at *
                    clear hbW
                    have i1 := inSpans_any eS gS S y W9 ((unhideR HSQ).below (unhideR HZ)) (by omega)
                    have i2 := unhideR HAb W9 ((unhideR HT).below (below_go (below_go (unhideR HW0) (unhideR HK3)) (unhideR HZ))) y (by omega) (by omega)
                    rw [unhideR HSa y (by omega) (by omega)] at i1
                    generalize aboveV t lev y = p at *
                    go_wp2_with fail
                    refine i1.mono ?_
                    rintro e w10 ⟨rfl, rfl⟩
                    go_wp2_with fail
                    refine i2.mono ?_
                    rintro e w11 ⟨rfl, k11⟩
                    replace HZ := hideR (below_go (unhideR HZ) k11)
                    clear k11 i1 i2 hc2
                    cases p
                    all_goals
                      go_wp2
                      exact ⟨⟨k + 1, by omega, by go_num, HZ⟩, by simp [intOf]; omega⟩
                · go_wp2
                  go_ret
                  exact ⟨rfl, below_go (below_go (unhideR HW0) (unhideR HK3)) (unhideR HZ)⟩
end Go.Proofs.YtlhjmmcimhceeahDoor
