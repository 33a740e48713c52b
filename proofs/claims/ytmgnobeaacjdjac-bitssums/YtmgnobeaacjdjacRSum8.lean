/-
  The document's sum, by its contract.
-/
import Derived.Test.YtmgnobeaacjdjacRSum7
namespace Go.Proofs.Ytmgnobeaacjdjac
open Go Go.RowKit

set_option maxHeartbeats 40000000 in
theorem rsum_any (b off cap : Nat) (l : List Nat) (w : World) (hr : FloatRow w b off l) (hl : l.length ≤ 400) (hx : ∀ x ∈ l, x < 18446744073709551616) (hb : b < w.heap.size) :
    Calls Try.prog 10 #[.slice (some ⟨b, off, none⟩) l.length cap] w fun e w' => ∃ r, e = .returned (.float .f64 r) ∧ FSame r (sumV l) ∧ Below w.heap.size w w' := by
  have hM : 0 ≤ 8589934592 * (l.length : Int) ∧ 8589934592 * (l.length : Int) ≤ 4000000000000000 := ⟨by omega, by omega⟩
  have hneg : ∀ x v, (Op.unary UnOp.neg (.float .f64 x)).run Try.prog v = .ok (.float .f64 (ngN x)) v := fun _ _ => rfl
  have hfb : ∀ w, (callFunc 28 #[.int .u64 9223372036854775808]).run Try.prog w = .ok (.value (.float .f64 9223372036854775808)) w := fun w => run_frombitsI 9223372036854775808 w
  have HMM := hideE hM
  clear hM
  have hmk := run_make72
  have S0 := hideE (limbs_new w 3 50)
  have B0 := hideE (((Below.refl w.heap.size w).alloc (Nat.le_refl _) (.cells zero72 3)).alloc (by simp) (.cells #[.slice (some ⟨w.heap.size, 0, none⟩) 72 72] 50))
  generalize zero72 = z72 at *
  go_enter Try.func10, Try.ntmps10
  go_wp2
  go_loopw [3, 4, 5, 6, 8] (fun uv dv nv mv kv wl => ∃ (bu bd bn bm : Bool) (k : Nat) (v : Nat → Int), k ≤ l.length ∧ uv = .bool bu ∧ dv = .bool bd ∧ nv = .bool bn ∧ mv = .bool bm ∧ kv = .int .i64 (k : Nat) ∧ HeldE (anyU (l.take k) = bu) ∧ HeldE (anyD (l.take k) = bd) ∧ HeldE (anyN (l.take k) = bn) ∧ HeldE ((decide (0 < l.length) && allM (l.take k)) = bm) ∧ SumAt l k v ∧ HeldE (Limbs wl (w.heap.size + 1) w.heap.size v) ∧ HeldE (Below w.heap.size w wl)) (fun _ _ _ _ kv _ => l.length - (intOf kv).toNat)
  case atStart => exact ⟨false, false, false, _, 0, fun _ => 0, by omega, rfl, rfl, rfl, rfl, rfl, rfl, rfl, rfl, Bool.and_true _, ⟨iv_zero 72, fun _ => by omega⟩, S0, B0⟩
  case round =>
    clear S0 B0 hmk
    obtain ⟨bu, bd, bn, bm, k, v, hk, rfl, rfl, rfl, rfl, rfl, HU, HD, HN, HM, HS, HL, HW⟩ := hrel
    by_cases hlt : k < l.length
    · have c0 := hr.below (unhideE HW) hb k hlt
      have hxk : l.getD k 0 < 18446744073709551616 := hx _ (by simp [List.getD, List.getElem?_eq_getElem hlt])
      have hfi := fun v => finite_any (l.getD k 0) v
      rw [finB_is] at hfi
      have hse := order_self (l.getD k 0)
      rw [nanB_is] at hse
      have HU2 := hideE (any_step hlt fun x => x == infU)
      have HD2 := hideE (any_step hlt fun x => x == infD)
      have HN2 := hideE (any_step hlt isN)
      have HM2 := hideE (all_step hlt)
      have tu := up_test _ hxk
      have td := down_test _ hxk
      have hsz := takenZ hlt
      generalize l.getD k 0 = x at *
      have htb := run_tobitsI
      obtain ⟨g, hg⟩ : ∃ g, (FloatKind.f64.format.order x 0 == some .gt) = g := ⟨_, rfl⟩
      obtain ⟨o, ho⟩ : ∃ o, (FloatKind.f64.format.order x 0 == some .lt) = o := ⟨_, rfl⟩
      obtain ⟨n, hn⟩ : ∃ n, isN x = n := ⟨_, rfl⟩
      obtain ⟨m, hm⟩ : ∃ m, ((x : Int) == 9223372036854775808) = m := ⟨_, rfl⟩
      have hm' : (x == 9223372036854775808) = m := by
        rw [← hm, Bool.eq_iff_iff, beq_iff_eq, beq_iff_eq]; omega
      rw [hg] at tu
      rw [ho] at td
      rw [hn] at hse
      have HU3 : HeldE (anyU (l.take (k + 1)) = (bu || (g && !isF x))) := by rw [← unhideE HU, tu]; exact unhideE HU2
      have HD3 : HeldE (anyD (l.take (k + 1)) = (bd || (o && !isF x))) := by rw [← unhideE HD, td]; exact unhideE HD2
      have HN3 : HeldE (anyN (l.take (k + 1)) = (bn || n)) := by rw [← unhideE HN, ← hn]; exact unhideE HN2
      have HM3 : HeldE ((decide (0 < l.length) && allM (l.take (k + 1))) = (bm && m)) := by rw [← unhideE HM, ← hm', Bool.and_assoc]; exact congrArg _ (unhideE HM2)
      clear HU HD HN HM HU2 HD2 HN2 HM2 tu td hn hm'
      cases hf : isF x with
      | false =>
        rw [hf] at hfi HU3 HD3
        simp only [Bool.not_false, Bool.and_true] at HU3 HD3
        have HS2 : SumAt l (k + 1) v := ⟨by rw [hsz, ← HS.sum, ofF_none hf]; omega, fun i => by have := HS.bound i; omega⟩
        clear hsz HS hf
        go_wp2_with fail
        refine (hfi _).mono ?_
        rintro e w1 ⟨rfl, n1, rfl⟩
        have HL2 := hideE ((unhideE HL).drawn n1)
        have HW2 := hideE (below_drewN (unhideE HW) n1)
        clear HL HW hfi
        go_wp2
        all_goals exact ⟨⟨_, _, _, _, k + 1, v, by omega, rfl, rfl, rfl, rfl, by go_num, (unhideE HU3).trans (by first | rfl | (rw [show bu = true by assumption]; rfl) | (rw [show bu = false from Bool.eq_false_iff.2 (by assumption)]; rfl) | (rw [show bu = true by assumption, show g = true by assumption]; rfl) | (rw [show bu = true by assumption, show g = false from Bool.eq_false_iff.2 (by assumption)]; rfl) | (rw [show bu = false from Bool.eq_false_iff.2 (by assumption), show g = true by assumption]; rfl) | (rw [show bu = false from Bool.eq_false_iff.2 (by assumption), show g = false from Bool.eq_false_iff.2 (by assumption)]; rfl)), (unhideE HD3).trans (by first | rfl | (rw [show bd = true by assumption]; rfl) | (rw [show bd = false from Bool.eq_false_iff.2 (by assumption)]; rfl) | (rw [show bd = true by assumption, show o = true by assumption]; rfl) | (rw [show bd = true by assumption, show o = false from Bool.eq_false_iff.2 (by assumption)]; rfl) | (rw [show bd = false from Bool.eq_false_iff.2 (by assumption), show o = true by assumption]; rfl) | (rw [show bd = false from Bool.eq_false_iff.2 (by assumption), show o = false from Bool.eq_false_iff.2 (by assumption)]; rfl)), (unhideE HN3).trans (by first | rfl | (rw [show bn = true by assumption]; rfl) | (rw [show bn = false from Bool.eq_false_iff.2 (by assumption)]; rfl) | (rw [show bn = true by assumption, show n = true by assumption]; rfl) | (rw [show bn = true by assumption, show n = false from Bool.eq_false_iff.2 (by assumption)]; rfl) | (rw [show bn = false from Bool.eq_false_iff.2 (by assumption), show n = true by assumption]; rfl) | (rw [show bn = false from Bool.eq_false_iff.2 (by assumption), show n = false from Bool.eq_false_iff.2 (by assumption)]; rfl)), (unhideE HM3).trans (by first | rfl | (rw [show bm = true by assumption]; rfl) | (rw [show bm = false from Bool.eq_false_iff.2 (by assumption)]; rfl) | (rw [show bm = true by assumption, show m = true by assumption]; rfl) | (rw [show bm = true by assumption, show m = false from Bool.eq_false_iff.2 (by assumption)]; rfl) | (rw [show bm = false from Bool.eq_false_iff.2 (by assumption), show m = true by assumption]; rfl) | (rw [show bm = false from Bool.eq_false_iff.2 (by assumption), show m = false from Bool.eq_false_iff.2 (by assumption)]; rfl)), HS2, HL2, HW2⟩, by simp [intOf]; omega⟩
      | true =>
        rw [hf] at hfi HU3 HD3
        simp only [Bool.not_true, Bool.and_false, Bool.or_false] at HU3 HD3
        have HS2 : SumAt l (k + 1) (takeL v (if sgB x then -1 else 1) x) := ⟨by rw [takeL_is _ _ _ _ (by have := upU_le x hf; omega), hsz, ← HS.sum, ofF_some hf], fun i => by have := takeL_bound v (if sgB x then -1 else 1) x _ (by split <;> simp) HS.bound i; omega⟩
        have hbd := HS.bound
        clear hsz HS
        go_wp2_with fail
        refine (hfi _).mono ?_
        rintro e w1 ⟨rfl, n1, rfl⟩
        have HT := hideE (take_any (w.heap.size + 1) w.heap.size x v _ _ ((unhideE HL).drawn n1) hxk hf ⟨by omega, by omega⟩ hbd)
        have HW2 := hideE (below_drewN (unhideE HW) n1)
        clear HL HW hfi hbd hf
        go_wp2_with fail
        refine (unhideE HT).mono ?_
        rintro e w2 ⟨rfl, hL2, hO2⟩
        have HL2 := hideE hL2
        have HW3 := hideE ((unhideE HW2).trans (hO2.below (Nat.le_refl _)))
        clear hL2 hO2 HT HW2
        go_wp2
        all_goals exact ⟨⟨_, _, _, _, k + 1, _, by omega, rfl, rfl, rfl, rfl, by go_num, (unhideE HU3).trans (by first | rfl | assumption | exact Bool.eq_false_iff.2 (by assumption)), (unhideE HD3).trans (by first | rfl | assumption | exact Bool.eq_false_iff.2 (by assumption)), (unhideE HN3).trans (by first | rfl | (rw [show bn = true by assumption]; rfl) | (rw [show bn = false from Bool.eq_false_iff.2 (by assumption)]; rfl) | (rw [show bn = true by assumption, show n = true by assumption]; rfl) | (rw [show bn = true by assumption, show n = false from Bool.eq_false_iff.2 (by assumption)]; rfl) | (rw [show bn = false from Bool.eq_false_iff.2 (by assumption), show n = true by assumption]; rfl) | (rw [show bn = false from Bool.eq_false_iff.2 (by assumption), show n = false from Bool.eq_false_iff.2 (by assumption)]; rfl)), (unhideE HM3).trans (by first | rfl | (rw [show bm = true by assumption]; rfl) | (rw [show bm = false from Bool.eq_false_iff.2 (by assumption)]; rfl) | (rw [show bm = true by assumption, show m = true by assumption]; rfl) | (rw [show bm = true by assumption, show m = false from Bool.eq_false_iff.2 (by assumption)]; rfl) | (rw [show bm = false from Bool.eq_false_iff.2 (by assumption), show m = true by assumption]; rfl) | (rw [show bm = false from Bool.eq_false_iff.2 (by assumption), show m = false from Bool.eq_false_iff.2 (by assumption)]; rfl)), HS2, HL2, HW3⟩, by simp [intOf]; omega⟩
    · obtain rfl : k = l.length := by omega
      have hs2 := HS.sum
      rw [List.take_length] at HU HD HN HM hs2
      have hend : endV l = if bn || (bu && bd) then nanX else if bu then infU else if bd then infD else 0 := by unfold endV; rw [unhideE HU, unhideE HD, unhideE HN]
      have hsv := sumV_def l
      cases bn
      case true =>
        have HE : HeldE (sumV l = 9221120237041090561) := by rw [hsv.1 (by rw [hend]; cases bu <;> cases bd <;> decide), hend]; rfl
        clear hsv hend
        go_wp2_with fail
        refine (nan_any _).mono ?_
        rintro e w1 ⟨rfl, rfl⟩
        go_wp2
        go_ret
        exact ⟨_, rfl, .inl (unhideE HE).symm, unhideE HW⟩
      case false =>
        cases bu
        case true =>
          cases bd
          case true =>
            have HE : HeldE (sumV l = 9221120237041090561) := by rw [hsv.1 (by rw [hend]; decide), hend]; rfl
            clear hsv hend
            go_wp2_with fail
            refine (nan_any _).mono ?_
            rintro e w1 ⟨rfl, rfl⟩
            go_wp2
            go_ret
            exact ⟨_, rfl, .inl (unhideE HE).symm, unhideE HW⟩
          case false =>
            have HE : HeldE (sumV l = 9218868437227405312) := by rw [hsv.1 (by rw [hend]; decide), hend]; rfl
            clear hsv hend
            go_wp2_with fail
            refine (inf_any _).mono ?_
            rintro e w1 ⟨rfl, rfl⟩
            go_wp2
            go_ret
            exact ⟨_, rfl, .inl (unhideE HE).symm, unhideE HW⟩
        case false =>
          cases bd
          case true =>
            have HE : HeldE (sumV l = 18442240474082181120) := by rw [hsv.1 (by rw [hend]; decide), hend]; rfl
            clear hsv hend
            go_wp2_with fail
            refine (infm_any _).mono ?_
            rintro e w1 ⟨rfl, rfl⟩
            go_wp2
            go_ret
            exact ⟨_, rfl, .inl (unhideE HE).symm, unhideE HW⟩
          case false =>
            have h0 : endV l = 0 := by rw [hend]; rfl
            obtain ⟨N, sg, F⟩ := fin_pre hl hs2 h0 (unhideE HM)
            have hlev := level_any (w.heap.size + 1) w.heap.size v (8589934592 * (l.length : Int)) _ (unhideE HL) (unhideE HMM) HS.bound N sg F.iv F.pos F.lt
            have F0 := hideE F.zero
            have F1 := hideE F.some
            clear hsv hend hs2 h0 HS F HM HU HD HN HMM
            have HLV := hideE hlev
            clear hlev
            obtain ⟨R, hR⟩ : ∃ R, R = rnd N := ⟨_, rfl⟩
            have HR := hideE hR
            rw [← hR] at F0 F1
            clear hR
            by_cases hN0 : N = 0
            · obtain ⟨rfl, hR0, hsv⟩ := unhideE F0 hN0
              subst hR0
              have HE := hideE hsv
              have ho : FloatKind.f64.format.order 0 0 = some .eq := by decide
              clear F0 F1 hsv hN0
              go_wp2_with fail
              refine (unhideE HLV).mono ?_
              rintro e w2 ⟨rfl, d, hLd, hd, hLv, hO⟩
              have HRR := hideE (rrounded_any _ _ d w2 N 0 hLd hd hLv (unhideE HR))
              have HW2 := hideE ((unhideE HW).trans (hO.below (Nat.le_refl _)))
              clear hLd hd hLv hO HLV HW HL HR
              go_wp2_with fail
              refine (unhideE HRR).mono ?_
              rintro e w3 ⟨rfl, n3, rfl⟩
              clear HRR
              cases bm
              · go_wp2
                go_ret
                exact ⟨_, rfl, .inl (unhideE HE).symm, below_drewN (unhideE HW2) _⟩
              · go_wp2
                go_ret
                exact ⟨_, rfl, .inl (unhideE HE).symm, below_drewN (unhideE HW2) _⟩
            · obtain ⟨rfl, hro, hsv⟩ := unhideE F1 hN0
              have HE := hideE hsv
              clear F0 F1 hsv hN0
              cases sg
              · go_wp2_with fail
                refine (unhideE HLV).mono ?_
                rintro e w2 ⟨rfl, d, hLd, hd, hLv, hO⟩
                have HRR := hideE (rrounded_any _ _ d w2 N R hLd hd hLv (unhideE HR))
                have HW2 := hideE ((unhideE HW).trans (hO.below (Nat.le_refl _)))
                clear hLd hd hLv hO HLV HW HL HR
                go_wp2_with fail
                refine (unhideE HRR).mono ?_
                rintro e w3 ⟨rfl, n3, rfl⟩
                clear HRR
                go_wp2
                go_ret
                exact ⟨_, rfl, .inl (unhideE HE).symm, below_drewN (unhideE HW2) _⟩
              · go_wp2_with fail
                refine (unhideE HLV).mono ?_
                rintro e w2 ⟨rfl, d, hLd, hd, hLv, hO⟩
                have HRR := hideE (rrounded_any _ _ d w2 N R hLd hd hLv (unhideE HR))
                have HW2 := hideE ((unhideE HW).trans (hO.below (Nat.le_refl _)))
                clear hLd hd hLv hO HLV HW HL HR
                go_wp2_with fail
                refine (unhideE HRR).mono ?_
                rintro e w3 ⟨rfl, n3, rfl⟩
                clear HRR
                go_wp2
                go_ret
                exact ⟨_, rfl, .inl (unhideE HE).symm, below_drewN (unhideE HW2) _⟩
end Go.Proofs.Ytmgnobeaacjdjac
