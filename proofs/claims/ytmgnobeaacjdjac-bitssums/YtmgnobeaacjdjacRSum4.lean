/-
  The document's exact sum: rounded, by its contract.
-/
import Derived.Test.YtmgnobeaacjdjacRSum3
namespace Go.Proofs.Ytmgnobeaacjdjac
open Go Go.RowKit

structure Below2 (N t : Nat) : Prop where
  lt : N < 2 ^ t
structure Cut (N m j : Nat) : Prop where
  is : m = N / 2 ^ j
structure Rest (N m j : Nat) : Prop where
  is : m = rs N j
def Dr (w v : World) : Prop := ∃ n, v = w.drewN n
theorem Dr.more {w v : World} (h : Dr w v) (n : Nat) : Dr w (v.drewN n) := by
  obtain ⟨m, rfl⟩ := h
  exact ⟨m + n, World.drewN_drewN ..⟩
theorem rnd_end {R N m low hf r : Nat} {F : Nat → Nat} (hR : R = if 9218868437227405312 ≤ N / 2 ^ low + (roundUp N low).toNat + low * 4503599627370496 then infU else N / 2 ^ low + (roundUp N low).toNat + low * 4503599627370496) (hm : Cut N m low) (hr : Rest N r (low - 1)) (hF : ∀ k, F k = N / 2 ^ k % 2) (hf' : (if 0 < low then F (low - 1) else 0) = hf) (c : Nat) (hc : (decide (hf = 1) && (decide (r = 1) || decide (m % 2 = 1))).toNat = c) :
    R = if 9218868437227405312 ≤ m + c + low * 4503599627370496 then infU else m + c + low * 4503599627370496 := by
  have h := up_is N low hf (by rw [← hf', hF])
  rw [← hr.is, ← hm.is] at h
  rw [← hm.is, h, hc] at hR
  exact hR
theorem rnd_walk {R m low : Nat} {u : Int} (c : Nat) (hR : R = if 9218868437227405312 ≤ m + c + low * 4503599627370496 then infU else m + c + low * 4503599627370496) (hu : (low : Int) = u) (hl : low ≤ 2251) (hm : m < 9007199254740992) (hc : c ≤ 1) :
    ∃ V T : Int, IntKind.u64.wrap (u * 4503599627370496) = V ∧ IntKind.u64.wrap ((m : Int) + (c : Int) + V) = T ∧ ((9218868437227405312 ≤ T ∧ R = 9218868437227405312) ∨ (decide (9218868437227405312 ≤ T) = false ∧ (R : Int) = T)) := by
  subst hu
  unfold infU at hR
  refine ⟨(low : Int) * 4503599627370496, (m : Int) + c + (low : Int) * 4503599627370496, ?_, ?_, ?_⟩
  · rw [IntKind.wrap_u64]; omega
  · rw [IntKind.wrap_u64]; omega
  · by_cases h : 9218868437227405312 ≤ m + c + low * 4503599627370496
    · rw [if_pos h] at hR
      exact .inl ⟨by omega, hR⟩
    · rw [if_neg h] at hR
      exact .inr ⟨by rw [decide_eq_false_iff_not]; omega, by omega⟩
set_option maxHeartbeats 4000000 in
set_option maxRecDepth 100000 in
theorem rrounded_of (e : Nat) (w : World) (N R : Nat) (F : Nat → Nat) (hF : ∀ k, F k = N / 2 ^ k % 2) (hlt : Below2 N 2304) (hR : R = rnd N)
    (hbit : ∀ v, Dr w v → ∀ k : Nat, k < 2304 → Calls Try.prog 43 #[.pointer (some ⟨e, 0, none⟩), .int .i64 k] v fun ev w' => ev = .returned (.int .i64 (F k : Nat)) ∧ w' = v) :
    Calls Try.prog 27 #[.pointer (some ⟨e, 0, none⟩)] w fun ev w' => ev = .returned (.float .f64 R) ∧ Dr w w' := by
  have HF := hideE hF
  have hF2 : ∀ k, F k = 0 ∨ F k = 1 := fun k => by rw [hF]; omega
  have HR := hideE hR
  clear hF hR
  go_enter Try.func27, Try.ntmps27
  go_wp2
  go_loopw [3] (fun tv wl => ∃ (t : Nat), t ≤ 2304 ∧ tv = .int .i64 ((t : Int) - 1) ∧ Below2 N t ∧ HeldE (Dr w wl)) (fun tv _ => ((intOf tv) + 1).toNat)
  case atStart => exact ⟨2304, by omega, rfl, hlt, ⟨0, rfl⟩⟩
  case round =>
    obtain ⟨t, ht, rfl, HB, HW⟩ := hrel
    by_cases h0 : t = 0
    · subst h0
      have hR0 : R = 0 := by rw [unhideE HR]; exact rnd_zero.2 (by have := HB.lt; simp at this; exact this)
      subst hR0
      go_wp2
      go_ret
      exact ⟨rfl, unhideE HW⟩
    · obtain ⟨s, rfl⟩ : ∃ s, t = s + 1 := ⟨t - 1, by omega⟩
      rw [show ((s + 1 : Nat) : Int) - 1 = (s : Int) by omega]
      have hb1 := hbit _ (unhideE HW) s (by omega)
      have hs0 : 0 ≤ (s : Int) := by omega
      rcases hF2 s with h1 | h1
      · rw [h1] at hb1
        have HB2 : Below2 N s := ⟨top_step HB.lt ((unhideE HF s).symm.trans h1)⟩
        go_wp2_with fail
        refine hb1.mono ?_
        rintro e w1 ⟨rfl, rfl⟩
        go_wp2
        exact ⟨⟨s, by omega, rfl, HB2, HW⟩, by simp [intOf]⟩
      · rw [h1] at hb1
        have hL := top_end HB.lt ((unhideE HF s).symm.trans h1)
        have HC0 : Cut N 0 (s + 1) := ⟨(Nat.div_eq_of_lt HB.lt).symm⟩
        go_wp2_with fail
        refine hb1.mono ?_
        rintro e w1 ⟨rfl, rfl⟩
        obtain ⟨low, hlow⟩ : ∃ low, cutN N = low := ⟨_, rfl⟩
        have hl2 : low = s + 1 - 53 := by rw [← hlow]; unfold cutN; rw [hL]
        have hcl : N / 2 ^ low < 9007199254740992 := by rw [← hlow]; exact cut_lt N
        have hup := fun h1 h2 => up_is N low h1 h2
        have HUP := hideE hup
        have HCL := hideE hcl
        have hro := rnd_other N
        unfold rndB at hro
        rw [hlow, ← unhideE HR] at hro
        have HRO := hideE hro
        clear hup hcl hro hL HR hlt hlow hb1 h1 HB
        obtain ⟨u, hu⟩ : ∃ u : Int, (low : Int) = u := ⟨_, rfl⟩
        have hu0 : 0 ≤ u := by omega
        have hu1 : u ≤ 2251 := by omega
        by_cases h52 : (s : Int) - 52 < 0
        case' pos => have hl3 : u = 0 := by omega
        case' neg => have hl3 : (s : Int) - 52 = u := by omega
        all_goals
          go_wp2
          go_loopw [5, 6] (fun mv kv wl => ∃ (m j : Nat), low ≤ j ∧ j ≤ s + 1 ∧ m < 9007199254740992 ∧ mv = .int .u64 (m : Nat) ∧ kv = .int .i64 ((j : Int) - 1) ∧ Cut N m j ∧ HeldE (Dr w wl)) (fun _ kv _ => ((intOf kv) + 1).toNat)
          case atStart => exact ⟨0, s + 1, by omega, by omega, by omega, rfl, by rw [show ((s + 1 : Nat) : Int) - 1 = (s : Int) by omega], HC0, HW⟩
          case round =>
            clear HW HC0
            obtain ⟨m, j, hj1, hj2, hm, rfl, rfl, HC, HW⟩ := hrel
            by_cases hjl : j = low
            · have hq0 : ¬ u ≤ (j : Int) - 1 := by omega
              have HC2 : Cut N m low := hjl ▸ HC
              go_wp2
              go_loopw [7, 8] (fun rv kv wl => ∃ (r k : Nat), k ≤ low - 1 ∧ r ≤ 1 ∧ rv = .int .i64 (r : Nat) ∧ kv = .int .i64 (k : Nat) ∧ Rest N r k ∧ HeldE (Dr w wl)) (fun _ kv _ => low - (intOf kv).toNat)
              case atStart => exact ⟨0, 0, by omega, by omega, rfl, rfl, ⟨(rs_zero N).symm⟩, HW⟩
              case round =>
                clear HW
                obtain ⟨r, k, hk, hr, rfl, rfl, HQ, HW⟩ := hrel
                by_cases hkl : k < low - 1
                · first | omega | skip
                  all_goals
                    have hk2 : (k : Int) < u - 1 := by omega
                    have hb1 := hbit _ (unhideE HW) k (by omega)
                    have hor := rs_or N k
                    rw [← HQ.is, ← unhideE HF k] at hor
                    have hr2 := rs_le N (k + 1)
                    obtain ⟨r2, hr3⟩ : ∃ r2, rs N (k + 1) = r2 := ⟨_, rfl⟩
                    have HQ2 : Rest N r2 (k + 1) := ⟨hr3.symm⟩
                    rw [hr3] at hor hr2
                    clear hr3 HQ
                    generalize F k = x at *
                    go_wp2_with fail
                    refine hb1.mono ?_
                    rintro e w1 ⟨rfl, rfl⟩
                    go_wp2
                    exact ⟨⟨r2, k + 1, by omega, hr2, rfl, by go_num, HQ2, HW⟩, by simp [intOf]; omega⟩
                · have hk2 : ¬ (k : Int) < u - 1 := by omega
                  have hk3 : k = low - 1 := by omega
                  have HQ2 := hideE (hk3 ▸ HQ)
                  have HC3 := hideE HC2
                  clear HQ HC HC2
                  obtain ⟨hf, hhf⟩ : ∃ hf, (if 0 < low then F (low - 1) else 0) = hf := ⟨_, rfl⟩
                  have hcall : Calls Try.prog 43 #[.pointer (some ⟨e, 0, none⟩), .int .i64 (u - 1)] wr fun ev w' => ev = .returned (.int .i64 (hf : Nat)) ∧ w' = wr := by
                    by_cases hl0 : low = 0
                    · rw [if_neg (by omega)] at hhf
                      rw [← hhf, ← hu, hl0]
                      exact rbit_none e wr
                    · rw [if_pos (by omega)] at hhf
                      rw [← hhf, ← hu, show (low : Int) - 1 = ((low - 1 : Nat) : Int) by omega]
                      exact hbit _ (unhideE HW) (low - 1) (by omega)
                  have hfl : hf = 0 ∨ hf = 1 := by
                    rw [← hhf]; split
                    · exact hF2 _
                    · exact .inl rfl
                  have HE := hideE (fun c hc => rnd_end (unhideE HRO) (unhideE HC3) (unhideE HQ2) (unhideE HF) hhf c hc)
                  clear hbit HC3 HQ2 HRO HF HUP HCL hF2
                  by_cases hsel : (s : Int) - 52 < 0
                  · first | omega | skip
                    all_goals
                      have hl0 : low = 0 := by omega
                      have hf0 : hf = 0 := by rw [← hhf, if_neg (by omega)]
                      subst hf0
                      have hRm : R = m := by
                        have h := unhideE HE 0 (by simp)
                        rw [hl0, if_neg (by omega)] at h
                        omega
                      subst hRm
                      subst hl3
                      have hc2 := rbit_none e wr
                      have hfb := run_frombitsI
                      clear HE hcall hhf hl0 hfl hu
                      go_wp2_with fail
                      refine hc2.mono ?_
                      rintro e w1 ⟨rfl, rfl⟩
                      clear hk3 hk2 hk hjl hj1 hj2 hl2 ht h52 hsel hc2 hu0 hu1 hq0
                      have hbig : ¬ (9218868437227405312 : Int) ≤ (R : Int) := by omega
                      have hbig2 : decide ((9218868437227405312 : Int) ≤ (R : Int)) = false := by simpa using hbig
                      have hw1 : IntKind.u64.wrap ((0 : Int) * 4503599627370496) = 0 := by decide
                      have hw2 : IntKind.u64.wrap ((R : Int) + 0) = (R : Int) := by rw [IntKind.wrap_u64]; omega
                      clear hm
                      go_wp2
                      go_ret
                      exact ⟨rfl, unhideE HW⟩
                  · first | omega | skip
                    all_goals
                      rcases (show hf = 0 ∨ (hf = 1 ∧ r = 1) ∨ (hf = 1 ∧ r = 0 ∧ m % 2 = 1) ∨ (hf = 1 ∧ r = 0 ∧ m % 2 = 0) by omega) with h3 | ⟨h3, h4⟩ | ⟨h3, h4, h5⟩ | ⟨h3, h4, h5⟩
                      · have HE2 := unhideE HE 0 (by simp [h3])
                        obtain ⟨V, T, e1, e2, hT⟩ := rnd_walk 0 HE2 hu (by omega) hm (by omega)
                        rw [show (m : Int) + ((0 : Nat) : Int) = (m : Int) by omega] at e2
                        subst h3
                        clear HE HE2 hu hl2 hhf hfl
                        rcases hT with ⟨hT1, hT2⟩ | ⟨hT1, hT2⟩
                        · go_wp2_with fail
                          refine hcall.mono ?_
                          rintro e w1 ⟨rfl, rfl⟩
                          go_wp2_with fail
                          refine (inf_any _).mono ?_
                          rintro e w1 ⟨rfl, rfl⟩
                          go_wp2
                          rw [hT2]
                          go_ret
                          exact ⟨rfl, unhideE HW⟩
                        · have hfb := run_frombitsI R
                          rw [hT2] at hfb
                          clear hT2
                          go_wp2_with fail
                          refine hcall.mono ?_
                          rintro e w1 ⟨rfl, rfl⟩
                          go_wp2
                          go_ret
                          exact ⟨rfl, unhideE HW⟩
                      · have HE2 := unhideE HE 1 (by simp [h3, h4])
                        obtain ⟨V, T, e1, e2, hT⟩ := rnd_walk 1 HE2 hu (by omega) hm (by omega)
                        rw [show ((1 : Nat) : Int) = 1 by rfl] at e2
                        subst h3 h4
                        clear HE HE2 hu hl2 hhf hfl
                        rcases hT with ⟨hT1, hT2⟩ | ⟨hT1, hT2⟩
                        · go_wp2_with fail
                          refine hcall.mono ?_
                          rintro e w1 ⟨rfl, rfl⟩
                          go_wp2_with fail
                          refine (inf_any _).mono ?_
                          rintro e w1 ⟨rfl, rfl⟩
                          go_wp2
                          rw [hT2]
                          go_ret
                          exact ⟨rfl, unhideE HW⟩
                        · have hfb := run_frombitsI R
                          rw [hT2] at hfb
                          clear hT2
                          go_wp2_with fail
                          refine hcall.mono ?_
                          rintro e w1 ⟨rfl, rfl⟩
                          go_wp2
                          go_ret
                          exact ⟨rfl, unhideE HW⟩
                      · have HE2 := unhideE HE 1 (by simp [h3, h4, h5])
                        obtain ⟨V, T, e1, e2, hT⟩ := rnd_walk 1 HE2 hu (by omega) hm (by omega)
                        rw [show ((1 : Nat) : Int) = 1 by rfl] at e2
                        have hm2 : (m : Int) % 2 = 1 := by omega
                        subst h3 h4
                        clear HE HE2 hu hl2 hhf hfl
                        rcases hT with ⟨hT1, hT2⟩ | ⟨hT1, hT2⟩
                        · go_wp2_with fail
                          refine hcall.mono ?_
                          rintro e w1 ⟨rfl, rfl⟩
                          go_wp2_with fail
                          refine (inf_any _).mono ?_
                          rintro e w1 ⟨rfl, rfl⟩
                          go_wp2
                          rw [hT2]
                          go_ret
                          exact ⟨rfl, unhideE HW⟩
                        · have hfb := run_frombitsI R
                          rw [hT2] at hfb
                          clear hT2
                          go_wp2_with fail
                          refine hcall.mono ?_
                          rintro e w1 ⟨rfl, rfl⟩
                          go_wp2
                          go_ret
                          exact ⟨rfl, unhideE HW⟩
                      · have HE2 := unhideE HE 0 (by simp [h3, h4, h5])
                        obtain ⟨V, T, e1, e2, hT⟩ := rnd_walk 0 HE2 hu (by omega) hm (by omega)
                        rw [show (m : Int) + ((0 : Nat) : Int) = (m : Int) by omega] at e2
                        have hm2 : (m : Int) % 2 = 0 := by omega
                        subst h3 h4
                        clear HE HE2 hu hl2 hhf hfl
                        rcases hT with ⟨hT1, hT2⟩ | ⟨hT1, hT2⟩
                        · go_wp2_with fail
                          refine hcall.mono ?_
                          rintro e w1 ⟨rfl, rfl⟩
                          go_wp2_with fail
                          refine (inf_any _).mono ?_
                          rintro e w1 ⟨rfl, rfl⟩
                          go_wp2
                          rw [hT2]
                          go_ret
                          exact ⟨rfl, unhideE HW⟩
                        · have hfb := run_frombitsI R
                          rw [hT2] at hfb
                          clear hT2
                          go_wp2_with fail
                          refine hcall.mono ?_
                          rintro e w1 ⟨rfl, rfl⟩
                          go_wp2
                          go_ret
                          exact ⟨rfl, unhideE HW⟩
            · obtain ⟨i, rfl⟩ : ∃ i, j = i + 1 := ⟨j - 1, by omega⟩
              rw [show ((i + 1 : Nat) : Int) - 1 = (i : Int) by omega]
              have hq0 : u ≤ (i : Int) := by omega
              have hb1 := hbit _ (unhideE HW) i (by omega)
              have hst : m * 2 + F i = N / 2 ^ i := by rw [unhideE HF i, HC.is]; exact (mant_step N i).symm
              have hle := mant_le (show low ≤ i by omega) (unhideE HCL)
              rw [← hst] at hle
              have HC2 : Cut N (m * 2 + F i) i := ⟨hst⟩
              clear hst HC
              generalize F i = x at *
              go_wp2_with fail
              refine hb1.mono ?_
              rintro e w1 ⟨rfl, rfl⟩
              go_wp2
              refine ⟨⟨m * 2 + x, i, by omega, by omega, by omega, ?_, rfl, HC2, HW⟩, by simp [intOf]⟩
              go_num
end Go.Proofs.Ytmgnobeaacjdjac
