/-
  The law EventAll: its walk, out of the program's Events and First by their contracts.
-/
import Derived.Test.YtlhjmmcimhceeagDoorEvHl
import Derived.Test.YtlhjmmcimhceeagDoorEvOf
namespace Go.Proofs.YtlhjmmcimhceeagDoor
open Go Go.RowKit

/-- the first rise or set from an instant on. -/
def firstK (from_ : Int) (L : List Evt) : Nat → Int
  | 0 => -1
  | k + 1 => if firstK from_ L k < 0 ∧ (L.getD k ev0).k ≤ 2 ∧ from_ ≤ (L.getD k ev0).at_ then (k : Int) else firstK from_ L k
theorem firstK_range (f : Int) (L : List Evt) : ∀ k : Nat, -1 ≤ firstK f L k ∧ firstK f L k < k
  | 0 => ⟨Int.le_refl _, by show (-1 : Int) < 0; omega⟩
  | k + 1 => by
    have := firstK_range f L k
    unfold firstK
    split <;> omega
def firstV (f : Int) (L : List Evt) : Evt := if firstK f L L.length < 0 then ev0 else L.getD (firstK f L L.length).toNat ev0
def someV (f : Int) (L : List Evt) : Bool := decide (0 ≤ firstK f L L.length)
def FirstOK (a : Nat → Addr) : Prop := ∀ (v : Value) (t : Tr) (lev f : Int) (w : World), Sents w a → TrV w v t → t.L.length * 8 ≤ 140737488355328 →
  Calls Tryd.prog 32 #[v, .int .i64 lev, .int .i64 f] w fun e w' => ∃ (x : Value) (r : Evt) (s : Bool), e = .returned (.tuple #[.agg #[.int .i64 r.k, .int .i64 r.at_, .int .i64 r.ix], .bool s, x]) ∧ ErrIs a (evE t lev) x ∧ (evE t lev = 0 → r = firstV f (eventsV t lev) ∧ s = someV f (eventsV t lev)) ∧ (evE t lev ≠ 0 → r = ev0 ∧ s = false) ∧ Below w.heap.size w w'
theorem levelLarge_any (n : Int) (w : World) : Calls Tryd.prog 33 #[.int .i64 n] w fun e w' => e = .returned (.bool (decide (1099511627776 < n ∨ n < -1099511627776))) ∧ w' = w := by
  by_cases h1 : 1099511627776 < n
  · rw [decide_eq_true (.inl h1)]
    go_enter Tryd.func33, Tryd.ntmps33
    go_wp2
    go_ret
    exact ⟨rfl, rfl⟩
  · by_cases h2 : n < -1099511627776
    · rw [decide_eq_true (.inr h2)]
      go_enter Tryd.func33, Tryd.ntmps33
      go_wp2
      go_ret
      exact ⟨rfl, rfl⟩
    · rw [decide_eq_false (by omega)]
      go_enter Tryd.func33, Tryd.ntmps33
      go_wp2
      go_ret
      exact ⟨rfl, rfl⟩
theorem ev_three {w : World} {b : Nat} {r : Evt} {ty : TypeId} (h : w.heap[b]? = some (.cells #[.int .i64 r.k, .int .i64 r.at_, .int .i64 r.ix] ty)) : w.cell? ⟨b, 0, none⟩ = some (.int .i64 r.k) ∧ w.cell? ⟨b, 1, none⟩ = some (.int .i64 r.at_) ∧ w.cell? ⟨b, 2, none⟩ = some (.int .i64 r.ix) :=
  ⟨(cells_at h 0 (by simp)).1, (cells_at h 1 (by simp)).1, (cells_at h 2 (by simp)).1⟩
set_option maxRecDepth 100000 in
set_option maxHeartbeats 6400000 in
theorem all_walk {a : Nat → Addr} (hE : EventsOK a) (hF : FirstOK a) {v : Value} {o : Option Tr} (lev f : Int) (w : World) (hS : Sents w a) (h : TrArg w v o) :
    Calls Tryd.prog 8 #[v, .int .i64 lev, .int .i64 f] w fun e w' => e = .returned (.bool true) ∧ Below w.heap.size w w' := by
  have htr := tracked_any hE w hS
  have HS := hideR hS
  clear hS
  cases h with
  | none =>
    go_enter Tryd.func8, Tryd.ntmps8
    go_wp2_with fail
    refine htr.mono ?_
    rintro e w1 ⟨rfl, k1⟩
    have HW := hideR k1
    clear k1 htr
    go_wp2
    go_ret
    exact ⟨rfl, unhideR HW⟩
  | @some b off cap ad t hT hl hn =>
    have HT := hideR hT
    by_cases hbig : 300 < t.L.length ∧ t.L.length ≤ 4000
    · obtain ⟨q1, q2⟩ := hbig
      go_enter Tryd.func8, Tryd.ntmps8
      go_wp2_with fail
      refine htr.mono ?_
      rintro e w1 ⟨rfl, k1⟩
      obtain ⟨_, c0, c1, c2, _⟩ := hT.below k1
      have HW := hideR k1
      clear k1 htr hT
      go_wp2
      go_ret
      exact ⟨rfl, unhideR HW⟩
    rcases (show t.L.length ≤ 300 ∨ 4000 < t.L.length by omega) with hq | hq
    all_goals
      go_enter Tryd.func8, Tryd.ntmps8
      go_wp2_with fail
      refine htr.mono ?_
      rintro e w1 ⟨rfl, k1⟩
      obtain ⟨_, c0, c1, c2, _⟩ := hT.below k1
      have HW := hideR k1
      have hk := track_any ((unhideR HT).below k1) hl hn
      clear k1 htr hT
      go_wp2_with fail
      refine hk.mono ?_
      rintro e w2 ⟨tv, rfl, hv, k2⟩
      replace HW := hideR (below_go (unhideR HW) k2)
      have hev := hE tv t lev w2 ((unhideR HS).below (unhideR HW) (Nat.le_refl _)) hv hl
      clear hk k2 hv c0 c1 c2
      go_wp2_with fail
      refine hev.mono ?_
      rintro e w3 ⟨u, x3, L, adL, capL, rfl, hx3, hL0, hL1, rfl, hcm, k3⟩
      have HX3 := hideR hx3
      have HL0 := hideR hL0
      have HL1 := hideR hL1
      have HCM := hideR hcm
      replace HW := hideR (below_go (unhideR HW) k3)
      have hk := track_any ((unhideR HT).below (unhideR HW)) hl hn
      clear hx3 hL0 hL1 hcm k3 hev
      go_wp2_with fail
      refine hk.mono ?_
      rintro e w4 ⟨tv2, rfl, hv2, k4⟩
      replace HW := hideR (below_go (unhideR HW) k4)
      replace HCM := hideR ((unhideR HCM).below k4)
      have hfi := hF tv2 t lev f w4 ((unhideR HS).below (unhideR HW) (Nat.le_refl _)) hv2 hl
      clear hk k4 hv2
      go_wp2_with fail
      refine hfi.mono ?_
      rintro e w5 ⟨x5, r, s, rfl, hx5, hr0, hr1, k5⟩
      have HX5 := hideR hx5
      have HR0 := hideR hr0
      have HR1 := hideR hr1
      replace HW := hideR (below_go (below_go (unhideR HW) k5) (below_a w5 (.cells #[.int .i64 r.k, .int .i64 r.at_, .int .i64 r.ix] 68)))
      replace HCM := hideR (((unhideR HCM).below k5).below (below_a w5 (.cells #[.int .i64 r.k, .int .i64 r.at_, .int .i64 r.ix] 68)))
      have HBX := hideR (alloc_last w5 (.cells #[.int .i64 r.k, .int .i64 r.at_, .int .i64 r.ix] 68))
      have hte := fun u (hu : TrP u b off ad cap t) => trackError_any hu (by omega)
      clear hx5 hr0 hr1 k5 hfi
      go_wp2_with fail
      generalize w5.alloc (.cells #[.int .i64 r.k, .int .i64 r.at_, .int .i64 r.ix] 68) = W6 at *
      generalize w5.heap.size = bx at *
      refine (hte _ ((unhideR HT).below (unhideR HW))).mono ?_
      rintro e w7 ⟨rfl, rfl⟩
      clear hte
      go_wp2_with fail
      refine (levelLarge_any lev _).mono ?_
      rintro e w8 ⟨rfl, rfl⟩
      by_cases hz : trE t = 0
      case' neg =>
        have he : evE t lev = trE t := by unfold evE; rw [if_pos hz]
        have hpos : 0 < trE t := by
          rcases trE_range t with q | q | q | q
          · exact absurd q hz
          · omega
          · omega
          · omega
        have hne : evE t lev ≠ 0 := by rw [he]; exact hz
        obtain rfl := unhideR HL1 hne
        obtain ⟨rfl, rfl⟩ := unhideR HR1 hne
        rw [he] at HX3 HX5
        have hz' : (trE t == 0) = false := by simp [hz]
        clear HL0 HL1 HR0 HR1 he hne hz
        generalize trE t = E at *
        obtain ⟨d0, d1, d2⟩ := ev_three (unhideR HBX)
        have hco := coded_err ((unhideR HS).below (unhideR HW) (Nat.le_refl _)) (unhideR HX3)
        go_wp2_with fail
        refine hco.mono ?_
        rintro e w9 ⟨rfl, k9⟩
        obtain ⟨d0, d1, d2⟩ := ev_three (keepB (unhideR HBX) k9)
        replace HBX := hideR (keepB (unhideR HBX) k9)
        replace HW := hideR (below_go (unhideR HW) k9)
        clear hco k9
        have hco := coded_err ((unhideR HS).below (unhideR HW) (Nat.le_refl _)) (unhideR HX5)
        go_wp2_with fail
        refine hco.mono ?_
        rintro e w10 ⟨rfl, k9⟩
        obtain ⟨d0, d1, d2⟩ := ev_three (keepB (unhideR HBX) k9)
        replace HW := hideR (below_go (unhideR HW) k9)
        clear hco k9
        unfold ev0 at d0 d1 d2
        go_wp2
        go_ret
        exact ⟨rfl, unhideR HW⟩
      case' pos => try (exfalso; have q := (ok_of hz).n2; omega)
    have hO := ok_of hz
    by_cases hlv : 1099511627776 < lev ∨ lev < -1099511627776
    · have he : evE t lev = 5 := by unfold evE; rw [if_neg (by rw [hz]; decide), if_pos hlv]
      have hne : evE t lev ≠ 0 := by rw [he]; decide
      obtain rfl := unhideR HL1 hne
      obtain ⟨rfl, rfl⟩ := unhideR HR1 hne
      rw [he] at HX3 HX5
      rw [hz, decide_eq_true hlv]
      clear HL0 HL1 HR0 HR1 he hne hz hlv hO
      have hco := coded_err ((unhideR HS).below (unhideR HW) (Nat.le_refl _)) (unhideR HX3)
      go_wp2_with fail
      refine hco.mono ?_
      rintro e w9 ⟨rfl, k9⟩
      replace HBX := hideR (keepB (unhideR HBX) k9)
      replace HW := hideR (below_go (unhideR HW) k9)
      clear hco k9
      have hco := coded_err ((unhideR HS).below (unhideR HW) (Nat.le_refl _)) (unhideR HX5)
      go_wp2_with fail
      refine hco.mono ?_
      rintro e w10 ⟨rfl, k9⟩
      obtain ⟨d0, d1, d2⟩ := ev_three (keepB (unhideR HBX) k9)
      replace HW := hideR (below_go (unhideR HW) k9)
      clear hco k9
      unfold ev0 at d0 d1 d2
      go_wp2
      go_ret
      exact ⟨rfl, unhideR HW⟩
    · have he : evE t lev = 0 := by unfold evE; rw [if_neg (by rw [hz]; decide), if_neg hlv]
      obtain rfl := unhideR HL0 he
      obtain ⟨hr, hs⟩ := unhideR HR0 he
      rw [he] at HX3 HX5
      rw [hz, decide_eq_false hlv]
      have hof := fun u (hu : TrP u b off ad cap t) => eventsOf_any hu hO lev (by omega) (by omega)
      have hll : (eventsV t lev).length ≤ 100000 := by
        have e1 := sortV_length (genV t lev)
        have e2 : (genV t lev).length = (crosses t lev (t.L.length - 1)).length + (turns t lev (t.L.length - 2)).length := List.length_append
        have e3 := crosses_length t lev (t.L.length - 1)
        have e4 := turns_length t lev (t.L.length - 2)
        show (sortV (genV t lev)).length ≤ 100000
        omega
      have HRV := hideR hr
      have HSV := hideR hs
      clear HL0 HL1 HR0 HR1 he hz hlv hO hr hs
      generalize eventsV t lev = L at *
      have hco := coded_err ((unhideR HS).below (unhideR HW) (Nat.le_refl _)) (unhideR HX3)
      go_wp2_with fail
      refine hco.mono ?_
      rintro e w9 ⟨rfl, k9⟩
      replace HBX := hideR (keepB (unhideR HBX) k9)
      replace HCM := hideR ((unhideR HCM).below k9)
      replace HW := hideR (below_go (unhideR HW) k9)
      clear hco k9
      have hco := coded_err ((unhideR HS).below (unhideR HW) (Nat.le_refl _)) (unhideR HX5)
      go_wp2_with fail
      refine hco.mono ?_
      rintro e w10 ⟨rfl, k9⟩
      replace HBX := hideR (keepB (unhideR HBX) k9)
      replace HCM := hideR ((unhideR HCM).below k9)
      replace HW := hideR (below_go (unhideR HW) k9)
      clear hco k9
      go_wp2_with fail
      refine (hof _ ((unhideR HT).below (unhideR HW))).mono ?_
      rintro e w11 ⟨u, rfl, hsl, k9⟩
      obtain ⟨adM, capM, rfl, hcm2⟩ := hsl.cut
      have HCM2 := hideR hcm2
      replace HBX := hideR (keepB (unhideR HBX) k9)
      replace HCM := hideR ((unhideR HCM).below k9)
      replace HW := hideR (below_go (unhideR HW) k9)
      clear hsl hcm2 hof k9 HX3 HX5
      go_wp2
      go_loopw [18, 19] (fun kv iv wl => ∃ i : Nat, i ≤ L.length ∧ iv = .int .i64 (i : Nat) ∧ kv = .int .i64 (firstK f L i) ∧ HeldR (Below w11.heap.size w11 wl)) (fun _ iv _ => L.length + 1 - (intOf iv).toNat)
      case atStart => exact ⟨0, by omega, rfl, rfl, hideR (Below.refl _ _)⟩
      case round =>
        obtain ⟨i, hi, rfl, rfl, HK⟩ := hrel
        by_cases hlt : i < L.length
        · obtain ⟨b1, o1, rfl, hb1, hat1⟩ := ((unhideR HCM).below (unhideR HK)).at_ i hlt
          obtain ⟨b2, o2, rfl, hb2, hat2⟩ := ((unhideR HCM2).below (unhideR HK)).at_ i hlt
          have HA2 := hideR hat2
          obtain ⟨c0, c1, c2⟩ := hat1
          obtain ⟨g0, g1, g2⟩ := hat2
          have HFK : HeldR (firstK f L (i + 1) = if firstK f L i < 0 ∧ (L.getD i ev0).k ≤ 2 ∧ f ≤ (L.getD i ev0).at_ then (i : Int) else firstK f L i) := rfl
          have hfr := firstK_range f L i
          generalize L.getD i ev0 = x at *
          generalize firstK f L i = fk at *
          have z1 : (x.k != x.k) = false := by simp
          have z2 : (x.at_ != x.at_) = false := by simp
          have z3 : (x.ix != x.ix) = false := by simp
          go_wp2_with fail
          refine wp_region_lets [(· = .slice (some ⟨b1, o1, none⟩) L.length capL),
            (· = .int .i64 (i : Nat)),
            (· = .pointer (some ⟨b1, o1 + i * 3, none⟩)),
            (· = .pointer (some ⟨b1, o1 + i * 3, none⟩)),
            (· = .int .i64 x.k),
            (· = .slice (some ⟨b2, o2, none⟩) L.length capM),
            (· = .int .i64 (i : Nat)),
            (· = .pointer (some ⟨b2, o2 + i * 3, none⟩)),
            (· = .pointer (some ⟨b2, o2 + i * 3, none⟩)),
            (· = .int .i64 x.k),
            (· = .bool false),
            (· = .bool false),
            (· = .slice (some ⟨b1, o1, none⟩) L.length capL),
            (· = .int .i64 (i : Nat)),
            (· = .pointer (some ⟨b1, o1 + i * 3, none⟩)),
            (· = .pointer (some ⟨b1, o1 + i * 3 + 1, none⟩)),
            (· = .int .i64 x.at_),
            (· = .slice (some ⟨b2, o2, none⟩) L.length capM),
            (· = .int .i64 (i : Nat)),
            (· = .pointer (some ⟨b2, o2 + i * 3, none⟩)),
            (· = .pointer (some ⟨b2, o2 + i * 3 + 1, none⟩)),
            (· = .int .i64 x.at_),
            (· = .bool false),
            (· = .bool false),
            (· = .bool false),
            (· = .slice (some ⟨b1, o1, none⟩) L.length capL),
            (· = .int .i64 (i : Nat)),
            (· = .pointer (some ⟨b1, o1 + i * 3, none⟩)),
            (· = .pointer (some ⟨b1, o1 + i * 3 + 2, none⟩)),
            (· = .int .i64 x.ix),
            (· = .slice (some ⟨b2, o2, none⟩) L.length capM),
            (· = .int .i64 (i : Nat)),
            (· = .pointer (some ⟨b2, o2 + i * 3, none⟩)),
            (· = .pointer (some ⟨b2, o2 + i * 3 + 2, none⟩)),
            (· = .int .i64 x.ix),
            (· = .bool false),
            (· = .bool false)] (by kernel_rfl) (by kernel_rfl) ?_
          refine lexL_step (fun K hK => ⟨by kernel_rfl, ⟨_, rfl⟩, fun n => ?_, fun v hv => ?_⟩)
          · go_simp
            exact lUpon_one
          subst hv
          go_simp
          refine hK _ ?_
          clear hK K
          refine lexL_step (fun K hK => ⟨by kernel_rfl, ⟨_, rfl⟩, fun n => ?_, fun v hv => ?_⟩)
          · go_simp
            exact lUpon_one
          subst hv
          go_simp
          refine hK _ ?_
          clear hK K
          refine lexL_step (fun K hK => ⟨by kernel_rfl, ⟨_, rfl⟩, fun n => ?_, fun v hv => ?_⟩)
          · go_simp
            exact lUpon_one
          subst hv
          go_simp
          refine hK _ ?_
          clear hK K
          refine lexL_step (fun K hK => ⟨by kernel_rfl, ⟨_, rfl⟩, fun n => ?_, fun v hv => ?_⟩)
          · go_simp
            exact lUpon_one
          subst hv
          go_simp
          refine hK _ ?_
          clear hK K
          refine lexL_step (fun K hK => ⟨by kernel_rfl, ⟨_, rfl⟩, fun n => ?_, fun v hv => ?_⟩)
          · go_simp
            exact lUpon_one
          subst hv
          go_simp
          refine hK _ ?_
          clear hK K
          refine lexL_step (fun K hK => ⟨by kernel_rfl, ⟨_, rfl⟩, fun n => ?_, fun v hv => ?_⟩)
          · go_simp
            exact lUpon_one
          subst hv
          go_simp
          refine hK _ ?_
          clear hK K
          refine lexL_step (fun K hK => ⟨by kernel_rfl, ⟨_, rfl⟩, fun n => ?_, fun v hv => ?_⟩)
          · go_simp
            exact lUpon_one
          subst hv
          go_simp
          refine hK _ ?_
          clear hK K
          refine lexL_step (fun K hK => ⟨by kernel_rfl, ⟨_, rfl⟩, fun n => ?_, fun v hv => ?_⟩)
          · go_simp
            exact lUpon_one
          subst hv
          go_simp
          refine hK _ ?_
          clear hK K
          refine lexL_step (fun K hK => ⟨by kernel_rfl, ⟨_, rfl⟩, fun n => ?_, fun v hv => ?_⟩)
          · go_simp
            exact lUpon_one
          subst hv
          go_simp
          refine hK _ ?_
          clear hK K
          refine lexL_step (fun K hK => ⟨by kernel_rfl, ⟨_, rfl⟩, fun n => ?_, fun v hv => ?_⟩)
          · go_simp
            exact lUpon_one
          subst hv
          go_simp
          refine hK _ ?_
          clear hK K
          refine lexL_step (fun K hK => ⟨by kernel_rfl, ⟨_, rfl⟩, fun n => ?_, fun v hv => ?_⟩)
          · go_simp
            exact lUpon_one
          subst hv
          go_simp
          refine hK _ ?_
          clear hK K
          refine lexL_step (fun K hK => ⟨by kernel_rfl, ⟨_, rfl⟩, fun n => ?_, fun v hv => ?_⟩)
          · go_simp
            exact lUpon_one
          subst hv
          go_simp
          refine hK _ ?_
          clear hK K
          refine lexL_step (fun K hK => ⟨by kernel_rfl, ⟨_, rfl⟩, fun n => ?_, fun v hv => ?_⟩)
          · go_simp
            exact lUpon_one
          subst hv
          go_simp
          refine hK _ ?_
          clear hK K
          refine lexL_step (fun K hK => ⟨by kernel_rfl, ⟨_, rfl⟩, fun n => ?_, fun v hv => ?_⟩)
          · go_simp
            exact lUpon_one
          subst hv
          go_simp
          refine hK _ ?_
          clear hK K
          refine lexL_step (fun K hK => ⟨by kernel_rfl, ⟨_, rfl⟩, fun n => ?_, fun v hv => ?_⟩)
          · go_simp
            exact lUpon_one
          subst hv
          go_simp
          refine hK _ ?_
          clear hK K
          refine lexL_step (fun K hK => ⟨by kernel_rfl, ⟨_, rfl⟩, fun n => ?_, fun v hv => ?_⟩)
          · go_simp
            exact lUpon_one
          subst hv
          go_simp
          refine hK _ ?_
          clear hK K
          refine lexL_step (fun K hK => ⟨by kernel_rfl, ⟨_, rfl⟩, fun n => ?_, fun v hv => ?_⟩)
          · go_simp
            exact lUpon_one
          subst hv
          go_simp
          refine hK _ ?_
          clear hK K
          refine lexL_step (fun K hK => ⟨by kernel_rfl, ⟨_, rfl⟩, fun n => ?_, fun v hv => ?_⟩)
          · go_simp
            exact lUpon_one
          subst hv
          go_simp
          refine hK _ ?_
          clear hK K
          refine lexL_step (fun K hK => ⟨by kernel_rfl, ⟨_, rfl⟩, fun n => ?_, fun v hv => ?_⟩)
          · go_simp
            exact lUpon_one
          subst hv
          go_simp
          refine hK _ ?_
          clear hK K
          refine lexL_step (fun K hK => ⟨by kernel_rfl, ⟨_, rfl⟩, fun n => ?_, fun v hv => ?_⟩)
          · go_simp
            exact lUpon_one
          subst hv
          go_simp
          refine hK _ ?_
          clear hK K
          refine lexL_step (fun K hK => ⟨by kernel_rfl, ⟨_, rfl⟩, fun n => ?_, fun v hv => ?_⟩)
          · go_simp
            exact lUpon_one
          subst hv
          go_simp
          refine hK _ ?_
          clear hK K
          refine lexL_step (fun K hK => ⟨by kernel_rfl, ⟨_, rfl⟩, fun n => ?_, fun v hv => ?_⟩)
          · go_simp
            exact lUpon_one
          subst hv
          go_simp
          refine hK _ ?_
          clear hK K
          refine lexL_step (fun K hK => ⟨by kernel_rfl, ⟨_, rfl⟩, fun n => ?_, fun v hv => ?_⟩)
          · go_simp
            exact lUpon_one
          subst hv
          go_simp
          refine hK _ ?_
          clear hK K
          refine lexL_step (fun K hK => ⟨by kernel_rfl, ⟨_, rfl⟩, fun n => ?_, fun v hv => ?_⟩)
          · go_simp
            exact lUpon_one
          subst hv
          go_simp
          refine hK _ ?_
          clear hK K
          refine lexL_step (fun K hK => ⟨by kernel_rfl, ⟨_, rfl⟩, fun n => ?_, fun v hv => ?_⟩)
          · go_simp
            exact lUpon_one
          subst hv
          go_simp
          refine hK _ ?_
          clear hK K
          refine lexL_step (fun K hK => ⟨by kernel_rfl, ⟨_, rfl⟩, fun n => ?_, fun v hv => ?_⟩)
          · go_simp
            exact lUpon_one
          subst hv
          go_simp
          refine hK _ ?_
          clear hK K
          refine lexL_step (fun K hK => ⟨by kernel_rfl, ⟨_, rfl⟩, fun n => ?_, fun v hv => ?_⟩)
          · go_simp
            exact lUpon_one
          subst hv
          go_simp
          refine hK _ ?_
          clear hK K
          refine lexL_step (fun K hK => ⟨by kernel_rfl, ⟨_, rfl⟩, fun n => ?_, fun v hv => ?_⟩)
          · go_simp
            exact lUpon_one
          subst hv
          go_simp
          refine hK _ ?_
          clear hK K
          refine lexL_step (fun K hK => ⟨by kernel_rfl, ⟨_, rfl⟩, fun n => ?_, fun v hv => ?_⟩)
          · go_simp
            exact lUpon_one
          subst hv
          go_simp
          refine hK _ ?_
          clear hK K
          refine lexL_step (fun K hK => ⟨by kernel_rfl, ⟨_, rfl⟩, fun n => ?_, fun v hv => ?_⟩)
          · go_simp
            exact lUpon_one
          subst hv
          go_simp
          refine hK _ ?_
          clear hK K
          refine lexL_step (fun K hK => ⟨by kernel_rfl, ⟨_, rfl⟩, fun n => ?_, fun v hv => ?_⟩)
          · go_simp
            exact lUpon_one
          subst hv
          go_simp
          refine hK _ ?_
          clear hK K
          refine lexL_step (fun K hK => ⟨by kernel_rfl, ⟨_, rfl⟩, fun n => ?_, fun v hv => ?_⟩)
          · go_simp
            exact lUpon_one
          subst hv
          go_simp
          refine hK _ ?_
          clear hK K
          refine lexL_step (fun K hK => ⟨by kernel_rfl, ⟨_, rfl⟩, fun n => ?_, fun v hv => ?_⟩)
          · go_simp
            exact lUpon_one
          subst hv
          go_simp
          refine hK _ ?_
          clear hK K
          refine lexL_step (fun K hK => ⟨by kernel_rfl, ⟨_, rfl⟩, fun n => ?_, fun v hv => ?_⟩)
          · go_simp
            exact lUpon_one
          subst hv
          go_simp
          refine hK _ ?_
          clear hK K
          refine lexL_step (fun K hK => ⟨by kernel_rfl, ⟨_, rfl⟩, fun n => ?_, fun v hv => ?_⟩)
          · go_simp
            exact lUpon_one
          subst hv
          go_simp
          refine hK _ ?_
          clear hK K
          refine lexL_step (fun K hK => ⟨by kernel_rfl, ⟨_, rfl⟩, fun n => ?_, fun v hv => ?_⟩)
          · go_simp
            exact lUpon_one
          subst hv
          go_simp
          refine hK _ ?_
          clear hK K
          refine lexL_step (fun K hK => ⟨by kernel_rfl, ⟨_, rfl⟩, fun n => ?_, fun v hv => ?_⟩)
          · go_simp
            exact lUpon_one
          subst hv
          go_simp
          refine hK _ ?_
          clear hK K
          refine lexL_end ?_
          intro n9
          have hbW := drawn_below wr n9
          obtain ⟨g0, g1, g2⟩ := (unhideR HA2).below hbW hb2
          replace HK := hideR (below_go (unhideR HK) hbW)
          clear c0 c1 c2
          generalize wr.drewN n9 = W9 at *
          clear hbW
          by_cases q1 : fk < 0
          · by_cases q2 : x.k ≤ 2
            · by_cases q3 : f ≤ x.at_
              · have hk := unhideR HFK
                rw [if_pos ⟨q1, q2, q3⟩] at hk
                have HFK2 := hideR hk
                clear hk HFK
                go_wp2
                exact ⟨⟨i + 1, by omega, by go_num, by rw [unhideR HFK2], HK⟩, by simp [intOf]; omega⟩
              · have hk := unhideR HFK
                rw [if_neg (by omega)] at hk
                have HFK2 := hideR hk
                clear hk HFK
                go_wp2
                exact ⟨⟨i + 1, by omega, by go_num, by rw [unhideR HFK2], HK⟩, by simp [intOf]; omega⟩
            · have hk := unhideR HFK
              rw [if_neg (by omega)] at hk
              have HFK2 := hideR hk
              clear hk HFK
              go_wp2
              exact ⟨⟨i + 1, by omega, by go_num, by rw [unhideR HFK2], HK⟩, by simp [intOf]; omega⟩
          · have hk := unhideR HFK
            rw [if_neg (by omega)] at hk
            have HFK2 := hideR hk
            clear hk HFK
            go_wp2
            exact ⟨⟨i + 1, by omega, by go_num, by rw [unhideR HFK2], HK⟩, by simp [intOf]; omega⟩
        · obtain rfl : i = L.length := by omega
          have hfr := firstK_range f L L.length
          have hr := unhideR HRV
          have hs := unhideR HSV
          unfold firstV at hr
          unfold someV at hs
          by_cases q : firstK f L L.length < 0
          · rw [if_pos q] at hr
            rw [decide_eq_false (by omega)] at hs
            subst hr
            subst hs
            obtain ⟨d0, d1, d2⟩ := ev_three (keepB (unhideR HBX) (unhideR HK))
            unfold ev0 at d0 d1 d2
            have HWf := hideR (below_go (unhideR HW) (unhideR HK))
            clear HRV HSV
            generalize firstK f L L.length = fk at *
            go_wp2
            go_ret
            exact ⟨rfl, unhideR HWf⟩
          · rw [if_neg q] at hr
            rw [decide_eq_true (by omega)] at hs
            subst hs
            obtain ⟨kk, hkk⟩ := Int.eq_ofNat_of_zero_le (show 0 ≤ firstK f L L.length by omega)
            rw [hkk, Int.toNat_natCast] at hr
            have hkl : kk < L.length := by omega
            obtain ⟨b1, o1, rfl, hb1, hat1⟩ := ((unhideR HCM).below (unhideR HK)).at_ kk hkl
            rw [← hr] at hat1
            obtain ⟨c0, c1, c2⟩ := hat1
            obtain ⟨d0, d1, d2⟩ := ev_three (keepB (unhideR HBX) (unhideR HK))
            have HWf := hideR (below_go (unhideR HW) (unhideR HK))
            rw [hkk]
            clear HRV HSV hr hkk q hfr
            go_wp2_with fail
            refine wp_region_lets [(· = .bool true),
              (· = .bool true),
              (· = .agg #[.int .i64 r.k, .int .i64 r.at_, .int .i64 r.ix]),
              (· = .slice (some ⟨b1, o1, none⟩) L.length capL),
              (· = .int .i64 (kk : Nat)),
              (· = .pointer (some ⟨b1, o1 + kk * 3, none⟩)),
              (· = .agg #[.int .i64 r.k, .int .i64 r.at_, .int .i64 r.ix]),
              (· = .bool true),
              (· = .bool true),
              (· = .bool true)] (by kernel_rfl) (by kernel_rfl) ?_
            refine lexL_step (fun K hK => ⟨by kernel_rfl, ⟨_, rfl⟩, fun n => ?_, fun v hv => ?_⟩)
            · go_simp
              exact lUpon_one
            subst hv
            go_simp
            refine hK _ ?_
            clear hK K
            refine lexL_step (fun K hK => ⟨by kernel_rfl, ⟨_, rfl⟩, fun n => ?_, fun v hv => ?_⟩)
            · go_simp
              exact lUpon_one
            subst hv
            go_simp
            refine hK _ ?_
            clear hK K
            refine lexL_step (fun K hK => ⟨by kernel_rfl, ⟨_, rfl⟩, fun n => ?_, fun v hv => ?_⟩)
            · go_simp
              exact lUpon_one
            subst hv
            go_simp
            refine hK _ ?_
            clear hK K
            refine lexL_step (fun K hK => ⟨by kernel_rfl, ⟨_, rfl⟩, fun n => ?_, fun v hv => ?_⟩)
            · go_simp
              exact lUpon_one
            subst hv
            go_simp
            refine hK _ ?_
            clear hK K
            refine lexL_step (fun K hK => ⟨by kernel_rfl, ⟨_, rfl⟩, fun n => ?_, fun v hv => ?_⟩)
            · go_simp
              exact lUpon_one
            subst hv
            go_simp
            refine hK _ ?_
            clear hK K
            refine lexL_step (fun K hK => ⟨by kernel_rfl, ⟨_, rfl⟩, fun n => ?_, fun v hv => ?_⟩)
            · go_simp
              exact lUpon_one
            subst hv
            go_simp
            refine hK _ ?_
            clear hK K
            refine lexL_step (fun K hK => ⟨by kernel_rfl, ⟨_, rfl⟩, fun n => ?_, fun v hv => ?_⟩)
            · go_simp
              exact lUpon_one
            subst hv
            go_simp
            refine hK _ ?_
            clear hK K
            refine lexL_step (fun K hK => ⟨by kernel_rfl, ⟨_, rfl⟩, fun n => ?_, fun v hv => ?_⟩)
            · go_simp
              exact lUpon_one
            subst hv
            go_simp
            refine hK _ ?_
            clear hK K
            refine lexL_step (fun K hK => ⟨by kernel_rfl, ⟨_, rfl⟩, fun n => ?_, fun v hv => ?_⟩)
            · go_simp
              exact lUpon_one
            subst hv
            go_simp
            refine hK _ ?_
            clear hK K
            refine lexL_step (fun K hK => ⟨by kernel_rfl, ⟨_, rfl⟩, fun n => ?_, fun v hv => ?_⟩)
            · go_simp
              exact lUpon_one
            subst hv
            go_simp
            refine hK _ ?_
            clear hK K
            refine lexL_end ?_
            intro n8
            go_wp2
            go_ret
            exact ⟨rfl, below_go (unhideR HWf) (drawn_below _ _)⟩
end Go.Proofs.YtlhjmmcimhceeagDoor
