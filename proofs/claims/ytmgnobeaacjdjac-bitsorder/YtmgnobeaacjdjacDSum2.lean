/-
  The program's sum, by its contract.
-/
import Derived.Test.YtmgnobeaacjdjacDSum2a
import Derived.Test.YtmgnobeaacjdjacLoose6
namespace Go.Proofs.Ytmgnobeaacjdjac
open Go Go.RowKit

theorem SumO.below {w w' : World} {g o B : Nat} {v : Nat → Nat} (s : SumO w g o v) (h : Below B w w') (hB : g < B) : SumO w' g o v where
  cell j hj := (h.cell (p := ⟨g, o + j, none⟩) hB).trans (s.cell j hj)
  free j hj := (World.frozen?_of_block (w := w) (h.block g hB)).trans (s.free j hj)
  blk := Nat.lt_of_lt_of_le s.blk h.size
  lt := s.lt
def TsPost (l : List Nat) (w : World) (e : Ending) (w' : World) : Prop := ∃ r, e = .returned (.float .f64 r) ∧ FSame r (sumV l) ∧ Below w.heap.size w w'
set_option maxRecDepth 100000 in
set_option maxHeartbeats 4000000 in
theorem tally_sum {w : World} {g : Nat} {l : List Nat} (h : TalOf w g l) : Calls Try.prog 21 #[.pointer (some ⟨g, 0, none⟩)] w (TsPost l w) := by
  obtain ⟨va, vb, e, hT, hp, hn, he⟩ := h
  have hsv := sumV_def l
  have ce := hT.ce
  have cs := hT.cs
  have co := hT.co
  rcases endV_zero_or l with h0 | ⟨hne, hord⟩
  case inr =>
    have hoe := hord e he
    have ho2 : (FloatKind.f64.format.order e 0 != some .eq) = true := by rw [bne, hoe]; rfl
    have HV : HeldE (TsPost l w (.returned (.float .f64 e)) w) := hideE ⟨e, rfl, by rw [hsv.1 hne]; exact he, Below.refl _ _⟩
    clear hsv hne hord he hoe hp hn
    go_enter Try.func21, Try.ntmps21
    go_wp2
    go_ret
    exact unhideE HV
  case inl =>
  have he0 : e = 0 := by
    rcases he with h | ⟨_, h⟩
    · rw [h, h0]
    · rw [h0] at h
      exact absurd (nan_iff.1 h) (by decide)
  subst he0
  have ho : FloatKind.f64.format.order 0 0 = some .eq := by decide
  have ho2 : (FloatKind.f64.format.order 0 0 != some .eq) = false := by rw [bne, ho]; rfl
  have hg := hT.a.blk
  have HA := hideE hT.a
  have HBs := hideE hT.b
  obtain ⟨s0, hs0⟩ : ∃ s, decide (0 < l.length) = s := ⟨_, rfl⟩
  obtain ⟨m0, hm0⟩ : ∃ m, allM l = m := ⟨_, rfl⟩
  rw [hs0] at cs
  rw [hm0] at co
  rw [hs0, hm0] at hsv
  clear he ho hT hs0 hm0
  cases hB : (s0 && m0) with
  | true =>
    obtain ⟨rfl, rfl⟩ := Bool.and_eq_true_iff.1 hB
    have HV := hideE (hsv.2.1 h0 hB)
    have hcs := fun v => copysign_any v
    clear hsv hB hp hn h0
    go_enter Try.func21, Try.ntmps21
    go_wp2_with fail
    refine (hcs _).mono ?_
    rintro e w1 ⟨rfl, rfl⟩
    go_wp2
    go_ret
    exact ⟨_, rfl, .inl (unhideE HV).symm, Below.refl _ _⟩
  | false =>
  have hfin := hsv.2.2 h0 hB
  have hpn := posneg l
  have HLess : HeldE (∀ v, Below w.heap.size w v → Calls Try.prog 40 #[.pointer (some ⟨g, 0, none⟩), .pointer (some ⟨g, 34, none⟩)] v fun e w' => e = .returned (.bool (decide (posN l < negN l))) ∧ ∃ n, w' = v.drewN n) := hideE (fun v k => by
    have := lessO g 0 g 34 va vb v ((unhideE HA).below k hg) ((unhideE HBs).below k hg) _ rfl
    rw [hp, hn] at this
    exact this)
  have hsm : s0 = false ∨ (s0 = true ∧ m0 = false) := by cases s0 <;> cases m0 <;> simp_all
  by_cases hcmp : posN l < negN l
  · have HWo : HeldE (∀ v, Below w.heap.size w v → Calls Try.prog 41 #[.pointer (some ⟨g, 34, none⟩), .pointer (some ⟨g, 0, none⟩)] v fun e w' => e = .returned (.pointer (some ⟨v.heap.size, 0, none⟩)) ∧ ∃ l', Sum64 w' v.heap.size l' ∧ dv 64 l' 34 + posN l = negN l ∧ Below v.heap.size v w') := hideE (fun v k => by
      have := withoutO g 34 g 0 vb va v ((unhideE HBs).below k hg) ((unhideE HA).below k hg) (by rw [hp, hn]; omega)
      rw [hp, hn] at this
      exact this)
    have HV : HeldE (∀ d, d + posN l = negN l → sumV l = ngN (rnd d)) := hideE (fun d hd => by
      rw [hfin, finV_neg (d := d) (by omega) (by omega)])
    have hneg : ∀ x v, (Op.unary UnOp.neg (.float .f64 x)).run Try.prog v = .ok (.float .f64 (ngN x)) v := fun _ _ => rfl
    rw [decide_eq_true hcmp] at HLess
    clear hsv hB hfin hpn hcmp hp hn h0 HA HBs
    rcases hsm with rfl | ⟨rfl, rfl⟩
    all_goals
      go_enter Try.func21, Try.ntmps21
      go_upto_region 5 with fail
      clear ce cs co
      refine wp_region_made 0 #[true, true, true, true, true, true, false] [.lets (· = .pointer (some ⟨g, 0, none⟩)),
        .lets (· = .pointer (some ⟨g, 0, none⟩)),
        .lets (· = .pointer (some ⟨g, 0, none⟩)),
        .lets (· = .pointer (some ⟨g, 0, none⟩)),
        .lets (· = .pointer (some ⟨g, 0, none⟩)),
        .lets (· = .pointer (some ⟨g, 34, none⟩))] [] [] (by kernel_rfl) (by kernel_rfl) rfl ?kinds (by kernel_rfl) (by kernel_rfl) (by kernel_rfl) ?_
      case kinds =>
        constructor
        · intro i h
          rcases i with _ | _ | _ | _ | _ | _ | i <;> simp [Kx.isMade] at h
        · intro i h
          rcases i with _ | _ | _ | _ | _ | _ | i <;> simp [Kx.isUse] at h
      refine lexX_step (fun K hK => ⟨by kernel_rfl, ⟨_, rfl⟩, fun v hv => ?_, fun v hv => ?_⟩)
      · go_simp
        exact mUpon_b
      subst hv
      go_simp
      refine hK _ ?_
      clear hK K
      refine lexX_step (fun K hK => ⟨by kernel_rfl, ⟨_, rfl⟩, fun v hv => ?_, fun v hv => ?_⟩)
      · go_simp
        exact mUpon_b
      subst hv
      go_simp
      refine hK _ ?_
      clear hK K
      refine lexX_step (fun K hK => ⟨by kernel_rfl, ⟨_, rfl⟩, fun v hv => ?_, fun v hv => ?_⟩)
      · go_simp
        exact mUpon_b
      subst hv
      go_simp
      refine hK _ ?_
      clear hK K
      refine lexX_step (fun K hK => ⟨by kernel_rfl, ⟨_, rfl⟩, fun v hv => ?_, fun v hv => ?_⟩)
      · go_simp
        exact mUpon_b
      subst hv
      go_simp
      refine hK _ ?_
      clear hK K
      refine lexX_step (fun K hK => ⟨by kernel_rfl, ⟨_, rfl⟩, fun v hv => ?_, fun v hv => ?_⟩)
      · go_simp
        exact mUpon_b
      subst hv
      go_simp
      refine hK _ ?_
      clear hK K
      refine lexX_step (fun K hK => ⟨by kernel_rfl, ⟨_, rfl⟩, fun v hv => ?_, fun v hv => ?_⟩)
      · go_simp
        exact mUpon_b
      subst hv
      go_simp
      refine hK _ ?_
      clear hK K
      refine lexX_end (fun v5 hv => ?_)
      have K5 := hideE hv.low
      clear hv
      have hls := unhideE HLess v5 (unhideE K5)
      refine wpAny_step (i := 6) (by kernel_rfl) rfl (by kernel_rfl) (fun K hK => ?_)
      unfold Oper.wp
      go_simp
      refine (hls).mono ?_
      rintro e w6 ⟨rfl, n6, rfl⟩
      have K6 := hideE (below_drewN (unhideE K5) n6)
      clear hls K5
      generalize v5.drewN n6 = v6 at *
      go_simp
      refine hK _ _ ?_
      clear hK K
      refine wpAny_end (by kernel_rfl) ?_
      go_upto_region 6 with fail
      refine wp_region_made 3 #[true, true, true, true, true, true, false, false, false, false] [.lets (· = .pointer (some ⟨g, 0, none⟩)),
        .lets (· = .pointer (some ⟨g, 0, none⟩)),
        .lets (· = .pointer (some ⟨g, 34, none⟩)),
        .lets (· = .pointer (some ⟨g, 0, none⟩)),
        .lets (· = .pointer (some ⟨g, 0, none⟩)),
        .lets (· = .pointer (some ⟨g, 0, none⟩))] [] [] (by kernel_rfl) (by kernel_rfl) rfl ?kinds (by kernel_rfl) (by kernel_rfl) (by kernel_rfl) ?_
      case kinds =>
        constructor
        · intro i h
          rcases i with _ | _ | _ | _ | _ | _ | i <;> simp [Kx.isMade] at h
        · intro i h
          rcases i with _ | _ | _ | _ | _ | _ | i <;> simp [Kx.isUse] at h
      refine lexX_step (fun K hK => ⟨by kernel_rfl, ⟨_, rfl⟩, fun v hv => ?_, fun v hv => ?_⟩)
      · go_simp
        exact mUpon_b
      subst hv
      go_simp
      refine hK _ ?_
      clear hK K
      refine lexX_step (fun K hK => ⟨by kernel_rfl, ⟨_, rfl⟩, fun v hv => ?_, fun v hv => ?_⟩)
      · go_simp
        exact mUpon_b
      subst hv
      go_simp
      refine hK _ ?_
      clear hK K
      refine lexX_step (fun K hK => ⟨by kernel_rfl, ⟨_, rfl⟩, fun v hv => ?_, fun v hv => ?_⟩)
      · go_simp
        exact mUpon_b
      subst hv
      go_simp
      refine hK _ ?_
      clear hK K
      refine lexX_step (fun K hK => ⟨by kernel_rfl, ⟨_, rfl⟩, fun v hv => ?_, fun v hv => ?_⟩)
      · go_simp
        exact mUpon_b
      subst hv
      go_simp
      refine hK _ ?_
      clear hK K
      refine lexX_step (fun K hK => ⟨by kernel_rfl, ⟨_, rfl⟩, fun v hv => ?_, fun v hv => ?_⟩)
      · go_simp
        exact mUpon_b
      subst hv
      go_simp
      refine hK _ ?_
      clear hK K
      refine lexX_step (fun K hK => ⟨by kernel_rfl, ⟨_, rfl⟩, fun v hv => ?_, fun v hv => ?_⟩)
      · go_simp
        exact mUpon_b
      subst hv
      go_simp
      refine hK _ ?_
      clear hK K
      refine lexX_end (fun v7 hv => ?_)
      have K7 := hideE ((unhideE K6).trans (hv.low.mono (unhideE K6).size))
      clear hv
      have hwo := unhideE HWo v7 (unhideE K7)
      refine wpAny_step (i := 6) (by kernel_rfl) rfl (by kernel_rfl) (fun K hK => ?_)
      unfold Oper.wp
      go_simp
      refine (hwo).mono ?_
      rintro e w8 ⟨rfl, d, hS, hd, hb2⟩
      have HR := hideE (exact_rounded _ d w8 _ hS rfl)
      have HD := hideE (unhideE HV _ hd)
      have B8 := hideE ((unhideE K7).trans (hb2.mono (unhideE K7).size))
      clear hS hd hb2 hwo K7
      generalize rnd (dv 64 d 34) = q at *
      go_simp
      refine hK _ _ ?_
      clear hK K
      refine wpAny_step (i := 7) (by kernel_rfl) rfl (by kernel_rfl) (fun K hK => ?_)
      unfold Oper.wp
      go_simp
      refine (unhideE HR).mono ?_
      rintro e w9 ⟨rfl, n9, rfl⟩
      have B9 := hideE (below_drewN (unhideE B8) n9)
      clear HR B8
      go_simp
      refine hK _ _ ?_
      clear hK K
      refine wpAny_step (i := 8) (by kernel_rfl) rfl (by kernel_rfl) (fun K hK => ?_)
      unfold Oper.wp
      go_simp
      refine hK _ _ ?_
      clear hK K
      refine wpAny_step (i := 9) (by kernel_rfl) rfl (by kernel_rfl) (fun K hK => ?_)
      unfold Oper.wp
      go_simp
      refine hK _ _ ?_
      clear hK K
      refine wpAny_end (by kernel_rfl) ?_
      go_wp2
      go_ret
      exact ⟨_, rfl, .inl (unhideE HD).symm, unhideE B9⟩
  · have HWo : HeldE (∀ v, Below w.heap.size w v → Calls Try.prog 41 #[.pointer (some ⟨g, 0, none⟩), .pointer (some ⟨g, 34, none⟩)] v fun e w' => e = .returned (.pointer (some ⟨v.heap.size, 0, none⟩)) ∧ ∃ l', Sum64 w' v.heap.size l' ∧ dv 64 l' 34 + negN l = posN l ∧ Below v.heap.size v w') := hideE (fun v k => by
      have := withoutO g 0 g 34 va vb v ((unhideE HA).below k hg) ((unhideE HBs).below k hg) (by rw [hp, hn]; omega)
      rw [hp, hn] at this
      exact this)
    have HV : HeldE (∀ d, d + negN l = posN l → sumV l = rnd d) := hideE (fun d hd => by
      rw [hfin, finV_pos (d := d) (by omega)])
    rw [decide_eq_false hcmp] at HLess
    clear hsv hB hfin hpn hcmp hp hn h0 HA HBs
    rcases hsm with rfl | ⟨rfl, rfl⟩
    all_goals
      go_enter Try.func21, Try.ntmps21
      go_upto_region 5 with fail
      clear ce cs co
      refine wp_region_made 0 #[true, true, true, true, true, true, false] [.lets (· = .pointer (some ⟨g, 0, none⟩)),
        .lets (· = .pointer (some ⟨g, 0, none⟩)),
        .lets (· = .pointer (some ⟨g, 0, none⟩)),
        .lets (· = .pointer (some ⟨g, 0, none⟩)),
        .lets (· = .pointer (some ⟨g, 0, none⟩)),
        .lets (· = .pointer (some ⟨g, 34, none⟩))] [] [] (by kernel_rfl) (by kernel_rfl) rfl ?kinds (by kernel_rfl) (by kernel_rfl) (by kernel_rfl) ?_
      case kinds =>
        constructor
        · intro i h
          rcases i with _ | _ | _ | _ | _ | _ | i <;> simp [Kx.isMade] at h
        · intro i h
          rcases i with _ | _ | _ | _ | _ | _ | i <;> simp [Kx.isUse] at h
      refine lexX_step (fun K hK => ⟨by kernel_rfl, ⟨_, rfl⟩, fun v hv => ?_, fun v hv => ?_⟩)
      · go_simp
        exact mUpon_b
      subst hv
      go_simp
      refine hK _ ?_
      clear hK K
      refine lexX_step (fun K hK => ⟨by kernel_rfl, ⟨_, rfl⟩, fun v hv => ?_, fun v hv => ?_⟩)
      · go_simp
        exact mUpon_b
      subst hv
      go_simp
      refine hK _ ?_
      clear hK K
      refine lexX_step (fun K hK => ⟨by kernel_rfl, ⟨_, rfl⟩, fun v hv => ?_, fun v hv => ?_⟩)
      · go_simp
        exact mUpon_b
      subst hv
      go_simp
      refine hK _ ?_
      clear hK K
      refine lexX_step (fun K hK => ⟨by kernel_rfl, ⟨_, rfl⟩, fun v hv => ?_, fun v hv => ?_⟩)
      · go_simp
        exact mUpon_b
      subst hv
      go_simp
      refine hK _ ?_
      clear hK K
      refine lexX_step (fun K hK => ⟨by kernel_rfl, ⟨_, rfl⟩, fun v hv => ?_, fun v hv => ?_⟩)
      · go_simp
        exact mUpon_b
      subst hv
      go_simp
      refine hK _ ?_
      clear hK K
      refine lexX_step (fun K hK => ⟨by kernel_rfl, ⟨_, rfl⟩, fun v hv => ?_, fun v hv => ?_⟩)
      · go_simp
        exact mUpon_b
      subst hv
      go_simp
      refine hK _ ?_
      clear hK K
      refine lexX_end (fun v5 hv => ?_)
      have K5 := hideE hv.low
      clear hv
      have hls := unhideE HLess v5 (unhideE K5)
      refine wpAny_step (i := 6) (by kernel_rfl) rfl (by kernel_rfl) (fun K hK => ?_)
      unfold Oper.wp
      go_simp
      refine (hls).mono ?_
      rintro e w6 ⟨rfl, n6, rfl⟩
      have K6 := hideE (below_drewN (unhideE K5) n6)
      clear hls K5
      generalize v5.drewN n6 = v6 at *
      go_simp
      refine hK _ _ ?_
      clear hK K
      refine wpAny_end (by kernel_rfl) ?_
      go_upto_region 7 with fail
      refine wp_region_made 2 #[true, true, true, true, true, true, false, false, false] [.lets (· = .pointer (some ⟨g, 0, none⟩)),
        .lets (· = .pointer (some ⟨g, 0, none⟩)),
        .lets (· = .pointer (some ⟨g, 0, none⟩)),
        .lets (· = .pointer (some ⟨g, 0, none⟩)),
        .lets (· = .pointer (some ⟨g, 0, none⟩)),
        .lets (· = .pointer (some ⟨g, 34, none⟩))] [] [] (by kernel_rfl) (by kernel_rfl) rfl ?kinds (by kernel_rfl) (by kernel_rfl) (by kernel_rfl) ?_
      case kinds =>
        constructor
        · intro i h
          rcases i with _ | _ | _ | _ | _ | _ | i <;> simp [Kx.isMade] at h
        · intro i h
          rcases i with _ | _ | _ | _ | _ | _ | i <;> simp [Kx.isUse] at h
      refine lexX_step (fun K hK => ⟨by kernel_rfl, ⟨_, rfl⟩, fun v hv => ?_, fun v hv => ?_⟩)
      · go_simp
        exact mUpon_b
      subst hv
      go_simp
      refine hK _ ?_
      clear hK K
      refine lexX_step (fun K hK => ⟨by kernel_rfl, ⟨_, rfl⟩, fun v hv => ?_, fun v hv => ?_⟩)
      · go_simp
        exact mUpon_b
      subst hv
      go_simp
      refine hK _ ?_
      clear hK K
      refine lexX_step (fun K hK => ⟨by kernel_rfl, ⟨_, rfl⟩, fun v hv => ?_, fun v hv => ?_⟩)
      · go_simp
        exact mUpon_b
      subst hv
      go_simp
      refine hK _ ?_
      clear hK K
      refine lexX_step (fun K hK => ⟨by kernel_rfl, ⟨_, rfl⟩, fun v hv => ?_, fun v hv => ?_⟩)
      · go_simp
        exact mUpon_b
      subst hv
      go_simp
      refine hK _ ?_
      clear hK K
      refine lexX_step (fun K hK => ⟨by kernel_rfl, ⟨_, rfl⟩, fun v hv => ?_, fun v hv => ?_⟩)
      · go_simp
        exact mUpon_b
      subst hv
      go_simp
      refine hK _ ?_
      clear hK K
      refine lexX_step (fun K hK => ⟨by kernel_rfl, ⟨_, rfl⟩, fun v hv => ?_, fun v hv => ?_⟩)
      · go_simp
        exact mUpon_b
      subst hv
      go_simp
      refine hK _ ?_
      clear hK K
      refine lexX_end (fun v7 hv => ?_)
      have K7 := hideE ((unhideE K6).trans (hv.low.mono (unhideE K6).size))
      clear hv
      have hwo := unhideE HWo v7 (unhideE K7)
      refine wpAny_step (i := 6) (by kernel_rfl) rfl (by kernel_rfl) (fun K hK => ?_)
      unfold Oper.wp
      go_simp
      refine (hwo).mono ?_
      rintro e w8 ⟨rfl, d, hS, hd, hb2⟩
      have HR := hideE (exact_rounded _ d w8 _ hS rfl)
      have HD := hideE (unhideE HV _ hd)
      have B8 := hideE ((unhideE K7).trans (hb2.mono (unhideE K7).size))
      clear hS hd hb2 hwo K7
      generalize rnd (dv 64 d 34) = q at *
      go_simp
      refine hK _ _ ?_
      clear hK K
      refine wpAny_step (i := 7) (by kernel_rfl) rfl (by kernel_rfl) (fun K hK => ?_)
      unfold Oper.wp
      go_simp
      refine (unhideE HR).mono ?_
      rintro e w9 ⟨rfl, n9, rfl⟩
      have B9 := hideE (below_drewN (unhideE B8) n9)
      clear HR B8
      go_simp
      refine hK _ _ ?_
      clear hK K
      refine wpAny_step (i := 8) (by kernel_rfl) rfl (by kernel_rfl) (fun K hK => ?_)
      unfold Oper.wp
      go_simp
      refine hK _ _ ?_
      clear hK K
      refine wpAny_end (by kernel_rfl) ?_
      go_wp2
      go_ret
      exact ⟨_, rfl, .inl (unhideE HD).symm, unhideE B9⟩
def zero71 : Array Value := #[.int .u64 0, .int .u64 0, .int .u64 0, .int .u64 0, .int .u64 0, .int .u64 0, .int .u64 0, .int .u64 0, .int .u64 0, .int .u64 0, .int .u64 0, .int .u64 0, .int .u64 0, .int .u64 0, .int .u64 0, .int .u64 0, .int .u64 0, .int .u64 0, .int .u64 0, .int .u64 0, .int .u64 0, .int .u64 0, .int .u64 0, .int .u64 0, .int .u64 0, .int .u64 0, .int .u64 0, .int .u64 0, .int .u64 0, .int .u64 0, .int .u64 0, .int .u64 0, .int .u64 0, .int .u64 0, .int .u64 0, .int .u64 0, .int .u64 0, .int .u64 0, .int .u64 0, .int .u64 0, .int .u64 0, .int .u64 0, .int .u64 0, .int .u64 0, .int .u64 0, .int .u64 0, .int .u64 0, .int .u64 0, .int .u64 0, .int .u64 0, .int .u64 0, .int .u64 0, .int .u64 0, .int .u64 0, .int .u64 0, .int .u64 0, .int .u64 0, .int .u64 0, .int .u64 0, .int .u64 0, .int .u64 0, .int .u64 0, .int .u64 0, .int .u64 0, .int .u64 0, .int .u64 0, .int .u64 0, .int .u64 0, .float .f64 0, .bool false, .bool false]
theorem zero71_at (j : Nat) (hj : j < 68) : some (zero71.getD j undef) = some (.int .u64 ((0 : Nat) : Int)) := by
  have h : zero71.toList.take 68 = List.replicate 68 (.int .u64 0) := rfl
  have e : zero71.getD j undef = (zero71.toList.take 68).getD j undef := by
    rw [List.getD_eq_getElem?_getD, List.getElem?_take_of_lt hj]
    simp [Array.getD_eq_getD_getElem?]
  rw [e, h, List.getD_eq_getElem?_getD, List.getElem?_replicate_of_lt hj]
  rfl
theorem tal_zero (u : World) : Sem.run Try.prog (zeroValue 43) u = .ok (.agg zero71) u := by kernel_rfl
theorem tal_new (w : World) (t : TypeId) : TalOf (w.alloc (.cells zero71 t)) w.heap.size [] := by
  have hc : ∀ j, j < 71 → (w.alloc (.cells zero71 t)).cell? ⟨w.heap.size, j, none⟩ = some (zero71.getD j undef) ∧ (w.alloc (.cells zero71 t)).frozen? ⟨w.heap.size, j, none⟩ = false := fun j hj => by
    have r := RowIs.new (w := w) (t := t) (cs := zero71) (n := 71) (by decide)
    exact ⟨r.cell j hj, r.free j hj⟩
  have hb : w.heap.size < (w.alloc (.cells zero71 t)).heap.size := by simp
  refine ⟨fun _ => 0, fun _ => 0, 0, ⟨⟨fun j hj => ?_, fun j hj => (hc (0 + j) (by omega)).2, hb, fun _ => by decide⟩, ⟨fun j hj => ?_, fun j hj => (hc (34 + j) (by omega)).2, hb, fun _ => by decide⟩, (hc 68 (by omega)).1, (hc 69 (by omega)).1, (hc 70 (by omega)).1, (hc 68 (by omega)).2, (hc 69 (by omega)).2, (hc 70 (by omega)).2⟩, dv_nothing 34, dv_nothing 34, .inl rfl⟩
  · rw [(hc (0 + j) (by omega)).1, zero71_at (0 + j) (by omega)]
  · rw [(hc (34 + j) (by omega)).1, zero71_at (34 + j) (by omega)]
/-- numbers in a row that came in, or none. -/
def FRowO (w : World) (ad : Option Addr) (l : List Nat) : Prop := ∀ j, j < l.length → ∃ b off, ad = some ⟨b, off, none⟩ ∧ b < w.heap.size ∧ w.cell? ⟨b, off + j, none⟩ = some (.float .f64 (l.getD j 0))
set_option maxRecDepth 100000 in
set_option maxHeartbeats 4000000 in
theorem dsum_row {w : World} {ad : Option Addr} {cap : Nat} {l : List Nat} (hr : FRowO w ad l) (hl : l.length ≤ 400) (hx : ∀ x ∈ l, x < 18446744073709551616) : Calls Try.prog 8 #[.slice ad l.length cap] w (TsPost l w) := by
  have HT0 := hideE (tal_new w 43)
  have HB0 := hideE ((Below.refl w.heap.size w).alloc (Nat.le_refl _) (.cells zero71 43))
  have HR := hideE hr
  have HX := hideE hx
  obtain ⟨n, hn⟩ : ∃ n, l.length = n := ⟨_, rfl⟩
  have HN := hideE hn
  rw [hn] at hl ⊢
  have hz := tal_zero
  clear hr hx hn
  go_enter Try.func8, Try.ntmps8
  go_wp2
  go_loopw [8] (fun iv wl => ∃ k : Nat, k ≤ n ∧ iv = .int .i64 k ∧ HeldE (TalOf wl w.heap.size (l.take k)) ∧ HeldE (Below w.heap.size w wl)) (fun iv _ => n + 1 - (intOf iv).toNat)
  case atStart => exact ⟨0, by omega, rfl, by rw [List.take_zero]; exact HT0, HB0⟩
  case round =>
    obtain ⟨k, hk, rfl, HT, HB⟩ := hrel
    by_cases hlt : k < n
    · have hlt' : k < l.length := by rw [unhideE HN]; exact hlt
      obtain ⟨b, off, rfl, hb, c0⟩ := unhideE HR k hlt'
      have c1 := ((unhideE HB).cell (p := ⟨b, off + k, none⟩) hb).trans c0
      have hxk : l.getD k 0 < 18446744073709551616 := unhideE HX _ (by simp [List.getD, List.getElem?_eq_getElem hlt'])
      have hlen : (l.take k).length ≤ 500 := by rw [List.length_take]; omega
      have hadd := tally_add (unhideE HT) hlen hxk
      have HTK := hideE (take_snoc hlt')
      unfold TaPost at hadd
      rw [← unhideE HTK] at hadd
      have HADD := hideE hadd
      generalize l.getD k 0 = x at *
      have tk : decide (k < n) = true := decide_eq_true hlt
      have jk : (k : Int) < (n : Int) := by omega
      clear hadd hlen hxk c0 hlt' hb HT
      go_wp2_with fail
      refine (unhideE HADD).mono ?_
      rintro e w2 ⟨rfl, h1, h2⟩
      have HT2 := hideE h1
      have HB2 := hideE ((unhideE HB).trans (h2.below (Nat.le_refl _)))
      clear h1 h2 HADD HB c1
      go_wp2
      exact ⟨⟨k + 1, by omega, by go_num, HT2, HB2⟩, by simp [intOf]; omega⟩
    · obtain rfl : k = n := by omega
      have tk : decide (k < k) = false := decide_eq_false hlt
      have hT : TalOf wr w.heap.size l := by
        have := unhideE HT
        rw [List.take_of_length_le (by rw [unhideE HN]; exact Nat.le_refl _)] at this
        exact this
      have hsum := tally_sum hT
      clear HT hT
      go_wp2_with fail
      refine hsum.mono ?_
      rintro e w2 ⟨r, rfl, h1, h2⟩
      have HF : HeldE (TsPost l w (.returned (.float .f64 r)) w2) := hideE ⟨r, rfl, h1, (unhideE HB).trans (h2.mono (unhideE HB).size)⟩
      clear h1 h2 hsum HB
      go_wp2
      go_ret
      exact unhideE HF
theorem dsum_any (b off cap : Nat) (l : List Nat) (w : World) (hr : FloatRow w b off l) (hl : l.length ≤ 400) (hx : ∀ x ∈ l, x < 18446744073709551616) (hb : b < w.heap.size) :
    Calls Try.prog 8 #[.slice (some ⟨b, off, none⟩) l.length cap] w fun e w' => ∃ r, e = .returned (.float .f64 r) ∧ FSame r (sumV l) ∧ Below w.heap.size w w' :=
  dsum_row (fun j hj => ⟨b, off, rfl, hb, hr j hj⟩) hl hx
theorem dsum_nil (w : World) : Calls Try.prog 8 #[.slice none 0 0] w fun e w' => ∃ r, e = .returned (.float .f64 r) ∧ FSame r (sumV []) ∧ Below w.heap.size w w' :=
  dsum_row (l := []) (fun j hj => absurd hj (Nat.not_lt_zero j)) (by decide) (fun x hx => by cases hx)
end Go.Proofs.Ytmgnobeaacjdjac
