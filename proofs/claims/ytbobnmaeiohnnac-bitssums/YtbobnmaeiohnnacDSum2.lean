/-
  The program's sum, by its contract.
-/
import Derived.Test.YtbobnmaeiohnnacDSum1
namespace Go.Proofs.Ytbobnmaeiohnnac
open Go Go.RowKit

theorem Sum64.below {w w' : World} {g B : Nat} {v : Nat → Nat} (s : Sum64 w g v) (h : Below B w w') (hB : g < B) : Sum64 w' g v := ⟨s.row.below h hB, s.lt⟩
theorem Sum64.other {w w' : World} {g k : Nat} {v : Nat → Nat} (s : Sum64 w g v) (h : Only k w w') (hk : g ≠ k) : Sum64 w' g v := ⟨h.row hk s.row, s.lt⟩
theorem Sum64.drawn {w : World} {g : Nat} {v : Nat → Nat} (s : Sum64 w g v) (n : Nat) : Sum64 (w.drewN n) g v := ⟨s.row.drawn n, s.lt⟩
theorem FloatRow.below {w w' : World} {b off B : Nat} {l : List Nat} (r : FloatRow w b off l) (h : Below B w w') (hB : b < B) : FloatRow w' b off l := fun j hj => (h.cell (p := ⟨b, off + j, none⟩) hB).trans (r j hj)
theorem take_snoc {l : List Nat} {k : Nat} (hk : k < l.length) : l.take (k + 1) = l.take k ++ [l.getD k 0] := by
  rw [List.take_add_one]
  simp [List.getD, List.getElem?_eq_getElem hk]
theorem dv_nothing (n : Nat) : dv 64 (fun _ => 0) n = 0 := dv_zero.2 fun _ _ => rfl
theorem pos_none {x : Nat} (h : isF x = false) : posN [x] = 0 := by simp [posN, h]
theorem neg_none {x : Nat} (h : isF x = false) : negN [x] = 0 := by simp [negN, h]
theorem pos_some {x : Nat} (h : isF x = true) (hg : gtN x = true) : posN [x] = U x := by simp [posN, h, hg]
theorem neg_some {x : Nat} (h : isF x = true) (hg : gtN x = false) : negN [x] = U x := by simp [negN, h, hg]
theorem pos_below {x : Nat} (hg : gtN x = false) : posN [x] = 0 := by simp [posN, hg]
theorem neg_above {x : Nat} (hg : gtN x = true) : negN [x] = 0 := by simp [negN, hg]
theorem sumV_def (l : List Nat) : (endV l ≠ 0 → sumV l = endV l) ∧ (endV l = 0 → (decide (0 < l.length) && allM l) = true → sumV l = 9223372036854775808) ∧ (endV l = 0 → (decide (0 < l.length) && allM l) = false → sumV l = finV (sumZ l)) := by
  have e : (l ≠ [] ∧ allM l = true) ↔ (decide (0 < l.length) && allM l) = true := by
    rw [Bool.and_eq_true, decide_eq_true_eq, List.length_pos_iff]
  refine ⟨fun h => ?_, fun h k => ?_, fun h k => ?_⟩
  · unfold sumV; rw [if_pos h]
  · unfold sumV; rw [if_neg (by omega), if_pos (e.2 k)]
  · unfold sumV; rw [if_neg (by omega), if_neg (fun h' => by rw [e.1 h'] at k; cases k)]
theorem finV_neg {z : Int} {d : Nat} (h : z = -(d : Int)) (h0 : 0 < d) : finV z = ngN (rnd d) := by
  subst h
  unfold finV
  rw [if_pos (by omega)]
  congr 2
  omega
theorem finV_pos {z : Int} {d : Nat} (h : z = (d : Int)) : finV z = rnd d := by
  subst h
  unfold finV
  rw [if_neg (by omega)]
  congr 1
set_option maxHeartbeats 4000000 in
theorem dsum_any (b off cap : Nat) (l : List Nat) (w : World) (hr : FloatRow w b off l) (hl : l.length ≤ 400) (hx : ∀ x ∈ l, x < 18446744073709551616) (hb : b < w.heap.size) :
    Calls Try.prog 8 #[.slice (some ⟨b, off, none⟩) l.length cap] w fun e w' => ∃ r, e = .returned (.float .f64 r) ∧ FSame r (sumV l) ∧ Below w.heap.size w w' := by
  have S0 := sum_new w 41
  have B0 := (Below.refl w.heap.size w).alloc (Nat.le_refl _) (.cells zero34 41)
  have S1 := sum_new (w.alloc (.cells zero34 41)) 41
  have B1 := hideE (B0.alloc (by simp) (.cells zero34 41))
  have SA := hideE (S0.below ((Below.refl (w.heap.size + 1) (w.alloc (.cells zero34 41))).alloc (by simp) (.cells zero34 41)) (by omega))
  have SB := hideE S1
  rw [show (w.alloc (.cells zero34 41)).heap.size = w.heap.size + 1 by simp] at SB
  clear S0 S1 B0
  unfold zero34 at SA SB B1
  go_enter Try.func8, Try.ntmps8
  go_wp2
  go_loopw [5, 10] (fun ev iv wl => ∃ (k e : Nat) (va vb : Nat → Nat), k ≤ l.length ∧ ev = .float .f64 e ∧ iv = .int .i64 k ∧ HeldE (FSame e (endV (l.take k))) ∧ HeldE (Sum64 wl w.heap.size va) ∧ HeldE (dv 64 va 34 = posN (l.take k)) ∧ HeldE (Sum64 wl (w.heap.size + 1) vb) ∧ HeldE (dv 64 vb 34 = negN (l.take k)) ∧ HeldE (Below w.heap.size w wl)) (fun _ iv _ => l.length - (intOf iv).toNat)
  case atStart => exact ⟨0, 0, _, _, by omega, rfl, rfl, .inl rfl, SA, dv_nothing 34, SB, dv_nothing 34, B1⟩
  case round =>
    obtain ⟨k, e, va, vb, hk, rfl, rfl, HE, HA, HP, HB, HN, HW⟩ := hrel
    by_cases hlt : k < l.length
    · have c0 := hr.below (unhideE HW) hb k hlt
      have hxk : l.getD k 0 < 18446744073709551616 := hx _ (by simp [List.getD, List.getElem?_eq_getElem hlt])
      have htk := take_snoc hlt
      have hnan := fun v => isNaN_any (l.getD k 0) v
      have hinf := fun v => isInf_any (l.getD k 0) v hxk
      have hfp := fin_parts (l.getD k 0)
      rw [finB_is] at hfp
      have hpl := posN_le (l.take (k + 1))
      have hnl := negN_le (l.take (k + 1))
      have hlen : (l.take (k + 1)).length ≤ 512 := by rw [List.length_take]; omega
      have hp1 := Nat.lt_of_le_of_lt hpl (many_lt hlen)
      have hn1 := Nat.lt_of_le_of_lt hnl (many_lt hlen)
      clear hpl hnl hlen
      rw [htk, posN_append] at hp1
      rw [htk, negN_append] at hn1
      have hgt := gt_is (l.getD k 0)
      have HTK := hideE htk
      clear htk
      have hes := fun r => end_step (l := l.take k) (x := l.getD k 0) (e := e) (r := r) hxk
      have hef := endV_step (l.take k) (l.getD k 0)
      generalize l.getD k 0 = x at *
      cases hfx : isF x with
      | false =>
        rw [hfx] at hfp
        have HP2 : HeldE (dv 64 va 34 = posN (l.take (k + 1))) := by
          show dv 64 va 34 = posN (l.take (k + 1))
          rw [unhideE HTK, posN_append, pos_none hfx, Nat.add_zero]
          exact unhideE HP
        have HN2 : HeldE (dv 64 vb 34 = negN (l.take (k + 1))) := by
          show dv 64 vb 34 = negN (l.take (k + 1))
          rw [unhideE HTK, negN_append, neg_none hfx, Nat.add_zero]
          exact unhideE HN
        have hfa := fun t x y v => run_fadd (P := Try.prog) t x y v
        have HES := hideE (fun r hr => (unhideE HTK) ▸ hes r hfx (unhideE HE) hr)
        clear hp1 hn1 hgt hes hef HP HN HE hfx
        cases hnx : nanI x with
        | true =>
          rw [hnx] at hnan
          clear hfp hinf hnx
          go_wp2_with (first
            | (go_at_call 20; refine (hnan _).mono ?_; rintro e w1 ⟨rfl, rfl⟩))
          refine ⟨⟨k + 1, _, va, vb, by omega, rfl, by go_num, unhideE HES _ (fnum_is _ _ _ _), (unhideE HA).drawn _, HP2, (unhideE HB).drawn _, HN2, below_drewN (unhideE HW) _⟩, by simp [intOf]; omega⟩
        | false =>
          rw [hnx] at hnan hfp
          have hix : infI x = true := by simpa using hfp
          have hinf := fun v => hinf v hnx
          rw [hix] at hinf
          clear hfp hnx hix
          go_wp2_with (first
            | (go_at_call 20; refine (hnan _).mono ?_; rintro e w1 ⟨rfl, rfl⟩)
            | (go_at_call 21; refine (hinf _).mono ?_; rintro e w1 ⟨rfl, rfl⟩))
          refine ⟨⟨k + 1, _, va, vb, by omega, rfl, by go_num, unhideE HES _ (fnum_is _ _ _ _), (unhideE HA).drawn _, HP2, (unhideE HB).drawn _, HN2, below_drewN (unhideE HW) _⟩, by simp [intOf]; omega⟩
      | true =>
        rw [hfx] at hfp
        have hnx : nanI x = false := by cases h : nanI x <;> rw [h] at hfp <;> simp at hfp ⊢
        have hix : infI x = false := by cases h : infI x <;> rw [h] at hfp <;> simp at hfp ⊢
        rw [hnx] at hnan
        have hinf := fun v => hinf v hnx
        rw [hix] at hinf
        have hgt := hgt hfx
        have HE2 : HeldE (FSame e (endV (l.take (k + 1)))) := by
          show FSame e (endV (l.take (k + 1)))
          rw [unhideE HTK, hef hfx]
          exact unhideE HE
        clear hfp hnx hix hes hef HE
        cases hg : gtN x with
        | true =>
          rw [hg] at hgt
          have HP2 : HeldE (dv 64 va 34 + U x = posN (l.take (k + 1))) := by
            show dv 64 va 34 + U x = posN (l.take (k + 1))
            rw [unhideE HTK, posN_append, pos_some hfx hg, unhideE HP]
          have HN2 : HeldE (dv 64 vb 34 = negN (l.take (k + 1))) := by
            show dv 64 vb 34 = negN (l.take (k + 1))
            rw [unhideE HTK, negN_append, neg_above hg, Nat.add_zero]
            exact unhideE HN
          rw [pos_some hfx hg, ← unhideE HP] at hp1
          have hadd := exact_add w.heap.size x va wr (unhideE HA) hxk hfx hp1
          have HADD := hideE hadd
          clear hadd hp1 hn1 HP HN hfx hg
          go_wp2_with (first
            | (go_at_call 20; refine (hnan _).mono ?_; rintro e w1 ⟨rfl, rfl⟩)
            | (go_at_call 21; refine (hinf _).mono ?_; rintro e w1 ⟨rfl, rfl⟩)
            | (go_at_call 22; refine (unhideE HADD).mono ?_; rintro e w2 ⟨rfl, v2, hS2, hd2, hO2⟩; have S2 := hideE hS2; have D2 := hideE hd2; have O2 := hideE hO2; clear hS2 hd2 hO2))
          refine ⟨⟨k + 1, e, v2, vb, by omega, rfl, by go_num, HE2, S2, (unhideE D2).trans (unhideE HP2), (unhideE HB).other (unhideE O2) (by omega), HN2, (unhideE HW).trans ((unhideE O2).below (Nat.le_refl _))⟩, by simp [intOf]; omega⟩
        | false =>
          rw [hg] at hgt
          have HP2 : HeldE (dv 64 va 34 = posN (l.take (k + 1))) := by
            show dv 64 va 34 = posN (l.take (k + 1))
            rw [unhideE HTK, posN_append, pos_below hg, Nat.add_zero]
            exact unhideE HP
          have HN2 : HeldE (dv 64 vb 34 + U x = negN (l.take (k + 1))) := by
            show dv 64 vb 34 + U x = negN (l.take (k + 1))
            rw [unhideE HTK, negN_append, neg_some hfx hg, unhideE HN]
          rw [neg_some hfx hg, ← unhideE HN] at hn1
          have hadd := exact_add (w.heap.size + 1) x vb wr (unhideE HB) hxk hfx hn1
          have HADD := hideE hadd
          clear hadd hp1 hn1 HP HN hfx hg
          go_wp2_with (first
            | (go_at_call 20; refine (hnan _).mono ?_; rintro e w1 ⟨rfl, rfl⟩)
            | (go_at_call 21; refine (hinf _).mono ?_; rintro e w1 ⟨rfl, rfl⟩)
            | (go_at_call 22; refine (unhideE HADD).mono ?_; rintro e w2 ⟨rfl, v2, hS2, hd2, hO2⟩; have S2 := hideE hS2; have D2 := hideE hd2; have O2 := hideE hO2; clear hS2 hd2 hO2))
          refine ⟨⟨k + 1, e, va, v2, by omega, rfl, by go_num, HE2, (unhideE HA).other (unhideE O2) (by omega), HP2, S2, (unhideE D2).trans (unhideE HN2), (unhideE HW).trans ((unhideE O2).below (by omega))⟩, by simp [intOf]; omega⟩
    · obtain rfl : k = l.length := by omega
      rw [List.take_length] at HE HP HN
      have hsv := sumV_def l
      rcases endV_zero_or l with h0 | ⟨hne, hord⟩
      · have he0 : e = 0 := by
          rcases unhideE HE with h | ⟨_, h⟩
          · rw [h, h0]
          · rw [h0] at h
            exact absurd (nan_iff.1 h) (by decide)
        subst he0
        have ho : FloatKind.f64.format.order 0 0 = some .eq := by decide
        have hall := fun (v : World) (h : FloatRow v b off l) => allMinus_any b off cap l v _ h (by omega) hx rfl
        have hrow := hr.below (unhideE HW) hb
        cases hB : (decide (0 < l.length) && allM l) with
        | true =>
          rw [hB] at hall
          have HV := hideE (hsv.2.1 h0 hB)
          have hcs := fun v => copysign_any v
          clear hsv hB
          go_wp2_with (first
            | (go_at_call 23; refine (hall _ hrow).mono ?_; rintro e w1 ⟨rfl, rfl⟩)
            | (go_at_call 24; refine (hcs _).mono ?_; rintro e w1 ⟨rfl, rfl⟩))
          go_ret
          exact ⟨_, rfl, .inl (unhideE HV).symm, unhideE HW⟩
        | false =>
          rw [hB] at hall
          have hfin := hsv.2.2 h0 hB
          have hpn := posneg l
          have hless := exact_less w.heap.size (w.heap.size + 1) va vb wr (unhideE HA) (unhideE HB) _ rfl
          rw [unhideE HP, unhideE HN] at hless
          by_cases hcmp : posN l < negN l
          · rw [decide_eq_true hcmp] at hless
            have hwo := fun n => exact_without (w.heap.size + 1) w.heap.size vb va (wr.drewN n) ((unhideE HB).drawn n) ((unhideE HA).drawn n) (by rw [unhideE HP, unhideE HN]; omega)
            rw [unhideE HP, unhideE HN] at hwo
            have HV : HeldE (∀ d, d + posN l = negN l → sumV l = ngN (rnd d)) := fun d hd => by
              rw [hfin, finV_neg (d := d) (by omega) (by omega)]
            have HWO := hideE hwo
            have hneg : ∀ x v, (Op.unary UnOp.neg (.float .f64 x)).run Try.prog v = .ok (.float .f64 (ngN x)) v := fun _ _ => rfl
            clear hsv hB hfin hpn hcmp hwo
            go_wp2_with fail
            refine (hall _ hrow).mono ?_
            rintro e w1 ⟨rfl, rfl⟩
            go_wp2_with fail
            refine hless.mono ?_
            rintro e w1 ⟨rfl, n1, rfl⟩
            clear hless
            go_wp2_with fail
            refine (unhideE HWO _).mono ?_
            rintro e w2 ⟨rfl, d, hS, hd, hb2⟩
            have HR := hideE (exact_rounded _ d w2 _ hS rfl)
            have HD := hideE (unhideE HV _ hd)
            have B2 := hideE (((below_drewN (unhideE HW) n1)).trans (hb2.mono (below_drewN (unhideE HW) n1).size))
            clear hS hd hb2 HWO HV
            generalize rnd (dv 64 d 34) = q at *
            go_wp2_with fail
            refine (unhideE HR).mono ?_
            rintro e w3 ⟨rfl, n3, rfl⟩
            go_wp2
            go_ret
            exact ⟨_, rfl, .inl (unhideE HD).symm, below_drewN (unhideE B2) _⟩
          · rw [decide_eq_false hcmp] at hless
            have hwo := fun n => exact_without w.heap.size (w.heap.size + 1) va vb (wr.drewN n) ((unhideE HA).drawn n) ((unhideE HB).drawn n) (by rw [unhideE HP, unhideE HN]; omega)
            rw [unhideE HP, unhideE HN] at hwo
            have HV : HeldE (∀ d, d + negN l = posN l → sumV l = rnd d) := fun d hd => by
              rw [hfin, finV_pos (d := d) (by omega)]
            have HWO := hideE hwo
            clear hsv hB hfin hpn hcmp hwo
            go_wp2_with fail
            refine (hall _ hrow).mono ?_
            rintro e w1 ⟨rfl, rfl⟩
            go_wp2_with fail
            refine hless.mono ?_
            rintro e w1 ⟨rfl, n1, rfl⟩
            clear hless
            go_wp2_with fail
            refine (unhideE HWO _).mono ?_
            rintro e w2 ⟨rfl, d, hS, hd, hb2⟩
            have HR := hideE (exact_rounded _ d w2 _ hS rfl)
            have HD := hideE (unhideE HV _ hd)
            have B2 := hideE (((below_drewN (unhideE HW) n1)).trans (hb2.mono (below_drewN (unhideE HW) n1).size))
            clear hS hd hb2 HWO HV
            generalize rnd (dv 64 d 34) = q at *
            go_wp2_with fail
            refine (unhideE HR).mono ?_
            rintro e w3 ⟨rfl, n3, rfl⟩
            go_wp2
            go_ret
            exact ⟨_, rfl, .inl (unhideE HD).symm, below_drewN (unhideE B2) _⟩
      · have hoe := hord e (unhideE HE)
        have ho2 : (FloatKind.f64.format.order e 0 != some .eq) = true := by rw [bne, hoe]; rfl
        have HV := hideE ((hsv.1 hne) ▸ unhideE HE)
        clear hsv hne hord HE
        go_wp2
        go_ret
        exact ⟨_, rfl, unhideE HV, unhideE HW⟩
end Go.Proofs.Ytbobnmaeiohnnac
