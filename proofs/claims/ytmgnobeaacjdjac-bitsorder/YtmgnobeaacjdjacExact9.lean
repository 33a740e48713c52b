/-
  The program's exact sums, rounded, by the contract.
-/
import Derived.Test.YtmgnobeaacjdjacExact8
namespace Go.Proofs.Ytmgnobeaacjdjac
open Go Go.RowKit

theorem round_facts (N : Nat) : N / 2 ^ cutN N % 18446744073709551616 = N / 2 ^ cutN N := Nat.mod_eq_of_lt (by have := cut_lt N; omega)
theorem rnd_at {N : Nat} (h : cutN N < 2046) : rnd N = N / 2 ^ cutN N + (roundUp N (cutN N)).toNat + cutN N * 4503599627370496 := by
  unfold rnd
  rw [if_neg (by omega)]
  rfl
theorem up_zero {N up : Nat} (h : up = 0) : roundUp N up = false := by subst h; rfl
theorem up_half {N up : Nat} (h : N / 2 ^ (up - 1) % 2 = 0) : roundUp N up = false := by
  unfold roundUp
  rw [h]
  simp
theorem up_odd {N up : Nat} (h0 : 0 < up) (h : N / 2 ^ (up - 1) % 2 = 1) (ho : N / 2 ^ up % 2 = 1) : roundUp N up = true := by
  unfold roundUp
  rw [h, ho]
  simp [h0]
theorem up_even {N up : Nat} {B : Bool} (h0 : 0 < up) (h : N / 2 ^ (up - 1) % 2 = 1) (ho : N / 2 ^ up % 2 = 0) (hB : B = decide (N % 2 ^ (up - 1) ≠ 0)) : roundUp N up = B := by
  unfold roundUp
  rw [h, ho, hB]
  simp [h0]
theorem len_bound {n m : Nat} (h : n < 2 ^ m) : bitLen n ≤ m := by
  by_cases h0 : n = 0
  · subst h0; exact Nat.zero_le _
  · have h1 := (bitLen_spec n).2 h0
    rcases Nat.lt_or_ge m (bitLen n) with h2 | h2
    · have h3 : (2 : Nat) ^ m ≤ 2 ^ (bitLen n - 1) := Nat.pow_le_pow_right (by decide) (by omega)
      omega
    · exact h2
theorem len34 {v : Nat → Nat} (h : ∀ j, v j < 18446744073709551616) : bitLen (dv 64 v 34) ≤ 64 * 34 := len_bound (top64 h 34)
theorem bits_odd (b : Nat) (hb : b < 18446744073709551616) : bits .and .u64 (b : Int) 1 = ((b % 2 : Nat) : Int) := by
  have h := u64_and_nat b 1 hb (by omega)
  rw [Nat.and_one_is_mod, show ((1 : Nat) : Int) = 1 by rfl] at h
  exact h
set_option maxHeartbeats 4000000 in
set_option maxRecDepth 100000 in
theorem exact_rounded (g : Nat) (v : Nat → Nat) (w : World) (R : Nat) (hs : Sum64 w g v) (hR : R = rnd (dv 64 v 34)) :
    Calls Try.prog 42 #[.pointer (some ⟨g, 0, none⟩)] w fun e w' => e = .returned (.float .f64 R) ∧ ∃ n, w' = w.drewN n := by
  have hlong := fun w (h : Sum64 w g v) => exact_long g v w _ h rfl
  have hfrom := fun w (h : Sum64 w g v) hu => exact_from g v w (cutN (dv 64 v 34)) _ h hu rfl
  have hbit := fun w (h : Sum64 w g v) hu => exact_bit g v w (cutN (dv 64 v 34) - 1) _ h hu rfl
  have hany := fun w (h : Sum64 w g v) hu => exact_any g v w (cutN (dv 64 v 34) - 1) _ h hu rfl
  rw [round_facts] at hfrom
  have hat := rnd_at (N := dv 64 v 34)
  have hbl := cut_lt (dv 64 v 34)
  have hinf : 2046 ≤ cutN (dv 64 v 34) → R = 9218868437227405312 := fun h => by rw [hR]; unfold rnd; rw [if_pos h]; rfl
  rw [← hR] at hat
  have hLb := len34 hs.lt
  have hcut : cutN (dv 64 v 34) = bitLen (dv 64 v 34) - 53 := rfl
  have hz := fun h => up_zero (N := dv 64 v 34) (up := cutN (dv 64 v 34)) h
  have hh := fun h => up_half (N := dv 64 v 34) (up := cutN (dv 64 v 34)) h
  have ho := fun h0 h1 h2 => up_odd (N := dv 64 v 34) (up := cutN (dv 64 v 34)) h0 h1 h2
  have he := fun h0 h1 h2 => up_even (N := dv 64 v 34) (up := cutN (dv 64 v 34)) (B := decide (dv 64 v 34 % 2 ^ (cutN (dv 64 v 34) - 1) ≠ 0)) h0 h1 h2 rfl
  clear hR
  generalize bitLen (dv 64 v 34) = L at *
  generalize cutN (dv 64 v 34) = up at *
  have hh2 : dv 64 v 34 / 2 ^ (up - 1) % 2 < 2 := Nat.mod_lt _ (by decide)
  generalize dv 64 v 34 / 2 ^ (up - 1) % 2 = hf at *
  generalize dv 64 v 34 / 2 ^ up = b at *
  generalize decide (dv 64 v 34 % 2 ^ (up - 1) ≠ 0) = an at *
  generalize roundUp (dv 64 v 34) up = ru at *
  have hodd := bits_odd b (by omega)
  have hmax : max ((L : Int) - 52 - 1) 0 = (up : Int) := by omega
  have hup : up ≤ 2123 := by omega
  clear hcut
  have hfb := run_frombitsI
  by_cases h1 : 2046 ≤ up
  · have HI := hideE (hinf h1)
    have h1i : 2046 ≤ (up : Int) := by omega
    clear hat hinf hz hh ho he h1
    go_enter Try.func42, Try.ntmps42
    go_wp2_with fail
    refine (hlong _ hs).mono ?_
    rintro e w1 ⟨rfl, n1, rfl⟩
    go_wp2_with fail
    refine (inf_any _).mono ?_
    rintro e w1 ⟨rfl, rfl⟩
    go_wp2
    rw [unhideE HI]
    go_ret
    exact ⟨rfl, _, rfl⟩
  · have hat := hat (by omega)
    clear hinf
    by_cases h2 : up = 0
    · have hS := fun n => (⟨hs.row.drawn n, hs.lt⟩ : Sum64 (w.drewN n) g v)
      have hfr := fun n => hfrom (w.drewN n) (hS n) (by omega)
      clear hfrom hbit hany hS
      have hru := hz h2
      rw [hru] at hat
      simp only [Bool.toNat_false] at hat
      have hRi : (R : Int) = (b : Int) + (up : Int) * 4503599627370496 := by omega
      have hfb2 : ∀ w, (callFunc 28 #[.int .u64 ((b : Int) + (up : Int) * 4503599627370496)]).run Try.prog w = .ok (.value (.float .f64 R)) w := fun w => by
        have h := hfb R w
        rw [hRi] at h
        exact h
      clear hRi
      obtain ⟨u, hu⟩ : ∃ u : Int, (up : Int) = u := ⟨_, rfl⟩
      have hnp : ¬ (0 : Int) < u := by omega
      have hne : u ≤ 2045 := by omega
      have hn0 : 0 ≤ u := by omega
      rw [hu] at hmax hfr hfb2
      have e1 : IntKind.u64.wrap (u * 4503599627370496) = u * 4503599627370496 := by rw [IntKind.wrap_u64]; omega
      have e2 : IntKind.u64.wrap ((b : Int) + u * 4503599627370496) = (b : Int) + u * 4503599627370496 := by rw [IntKind.wrap_u64]; omega
      clear hat hru hh ho he h1 h2 hfb hz hu hup
      go_enter Try.func42, Try.ntmps42
      go_wp2_with (first
        | (go_at_call 50; refine (hlong _ hs).mono ?_; rintro e w1 ⟨rfl, n1, rfl⟩)
        | (go_at_call 51; refine (hfr _).mono ?_; rintro e w1 ⟨rfl, n2, rfl⟩))
      go_ret
      exact ⟨rfl, _, rfl⟩
    · have hS := fun n => (⟨hs.row.drawn n, hs.lt⟩ : Sum64 (w.drewN n) g v)
      have hfr := fun n => hfrom (w.drewN n) (hS n) (by omega)
      have hbt := fun n => hbit (w.drewN n) (hS n) (by omega)
      have han := fun n => hany (w.drewN n) (hS n) (by omega)
      rw [show ((up - 1 : Nat) : Int) = (up : Int) - 1 by omega] at hbt han
      clear hfrom hbit hany hz hS
      rcases (show hf = 0 ∨ (hf = 1 ∧ b % 2 = 1) ∨ (hf = 1 ∧ b % 2 = 0 ∧ an = true) ∨ (hf = 1 ∧ b % 2 = 0 ∧ an = false) by cases an <;> simp <;> omega) with h3 | ⟨h3, h4⟩ | ⟨h3, h4, h5⟩ | ⟨h3, h4, h5⟩
      · have hru := hh h3
        rw [hru] at hat
        simp only [Bool.toNat_false] at hat
        have hRi : (R : Int) = (b : Int) + (up : Int) * 4503599627370496 := by omega
        have hfb2 : ∀ w, (callFunc 28 #[.int .u64 ((b : Int) + (up : Int) * 4503599627370496)]).run Try.prog w = .ok (.value (.float .f64 R)) w := fun w => by
          have h := hfb R w
          rw [hRi] at h
          exact h
        clear hRi
        subst h3
        obtain ⟨u, hu⟩ : ∃ u : Int, (up : Int) = u := ⟨_, rfl⟩
        have hnp : (0 : Int) < u := by omega
        have hne : u ≤ 2045 := by omega
        rw [hu] at hmax hfr hfb2 hbt han
        have e1 : IntKind.u64.wrap (u * 4503599627370496) = u * 4503599627370496 := by rw [IntKind.wrap_u64]; omega
        have e2 : IntKind.u64.wrap ((b : Int) + u * 4503599627370496) = (b : Int) + u * 4503599627370496 := by rw [IntKind.wrap_u64]; omega
        clear hat hru hh ho he h1 h2 hfb hu hup
        go_enter Try.func42, Try.ntmps42
        go_wp2_with (first
          | (go_at_call 50; refine (hlong _ hs).mono ?_; rintro e w1 ⟨rfl, n1, rfl⟩)
          | (go_at_call 51; refine (hfr _).mono ?_; rintro e w1 ⟨rfl, n2, rfl⟩)
          | (go_at_call 52; refine (hbt _).mono ?_; rintro e w1 ⟨rfl, n3, rfl⟩)
          | (go_at_call 53; refine (han _).mono ?_; rintro e w1 ⟨rfl, n4, rfl⟩))
        go_ret
        exact ⟨rfl, _, rfl⟩
      · have hru := ho (by omega) h3 h4
        rw [h4] at hodd
        rw [hru] at hat
        simp only [Bool.toNat_true] at hat
        have hRi : (R : Int) = ((b : Int) + 1) + (up : Int) * 4503599627370496 := by omega
        have hfb2 : ∀ w, (callFunc 28 #[.int .u64 (((b : Int) + 1) + (up : Int) * 4503599627370496)]).run Try.prog w = .ok (.value (.float .f64 R)) w := fun w => by
          have h := hfb R w
          rw [hRi] at h
          exact h
        clear hRi
        subst h3
        obtain ⟨u, hu⟩ : ∃ u : Int, (up : Int) = u := ⟨_, rfl⟩
        have hnp : (0 : Int) < u := by omega
        have hne : u ≤ 2045 := by omega
        rw [hu] at hmax hfr hfb2 hbt han
        have e3 : IntKind.u64.wrap ((b : Int) + 1) = (b : Int) + 1 := by rw [IntKind.wrap_u64]; omega
        have e1 : IntKind.u64.wrap (u * 4503599627370496) = u * 4503599627370496 := by rw [IntKind.wrap_u64]; omega
        have e2 : IntKind.u64.wrap (((b : Int) + 1) + u * 4503599627370496) = ((b : Int) + 1) + u * 4503599627370496 := by rw [IntKind.wrap_u64]; omega
        clear hat hru hh ho he h1 h2 hfb hu hup
        go_enter Try.func42, Try.ntmps42
        go_wp2_with (first
          | (go_at_call 50; refine (hlong _ hs).mono ?_; rintro e w1 ⟨rfl, n1, rfl⟩)
          | (go_at_call 51; refine (hfr _).mono ?_; rintro e w1 ⟨rfl, n2, rfl⟩)
          | (go_at_call 52; refine (hbt _).mono ?_; rintro e w1 ⟨rfl, n3, rfl⟩)
          | (go_at_call 53; refine (han _).mono ?_; rintro e w1 ⟨rfl, n4, rfl⟩))
        go_ret
        exact ⟨rfl, _, rfl⟩
      · have hru := (he (by omega) h3 h4).trans h5
        rw [h4] at hodd
        rw [h5] at han
        rw [hru] at hat
        simp only [Bool.toNat_true] at hat
        have hRi : (R : Int) = ((b : Int) + 1) + (up : Int) * 4503599627370496 := by omega
        have hfb2 : ∀ w, (callFunc 28 #[.int .u64 (((b : Int) + 1) + (up : Int) * 4503599627370496)]).run Try.prog w = .ok (.value (.float .f64 R)) w := fun w => by
          have h := hfb R w
          rw [hRi] at h
          exact h
        clear hRi
        subst h3
        obtain ⟨u, hu⟩ : ∃ u : Int, (up : Int) = u := ⟨_, rfl⟩
        have hnp : (0 : Int) < u := by omega
        have hne : u ≤ 2045 := by omega
        rw [hu] at hmax hfr hfb2 hbt han
        have e3 : IntKind.u64.wrap ((b : Int) + 1) = (b : Int) + 1 := by rw [IntKind.wrap_u64]; omega
        have e1 : IntKind.u64.wrap (u * 4503599627370496) = u * 4503599627370496 := by rw [IntKind.wrap_u64]; omega
        have e2 : IntKind.u64.wrap (((b : Int) + 1) + u * 4503599627370496) = ((b : Int) + 1) + u * 4503599627370496 := by rw [IntKind.wrap_u64]; omega
        clear hat hru hh ho he h1 h2 hfb hu hup
        go_enter Try.func42, Try.ntmps42
        go_wp2_with (first
          | (go_at_call 50; refine (hlong _ hs).mono ?_; rintro e w1 ⟨rfl, n1, rfl⟩)
          | (go_at_call 51; refine (hfr _).mono ?_; rintro e w1 ⟨rfl, n2, rfl⟩)
          | (go_at_call 52; refine (hbt _).mono ?_; rintro e w1 ⟨rfl, n3, rfl⟩)
          | (go_at_call 53; refine (han _).mono ?_; rintro e w1 ⟨rfl, n4, rfl⟩))
        go_ret
        exact ⟨rfl, _, rfl⟩
      · have hru := (he (by omega) h3 h4).trans h5
        rw [h4] at hodd
        rw [h5] at han
        rw [hru] at hat
        simp only [Bool.toNat_false] at hat
        have hRi : (R : Int) = (b : Int) + (up : Int) * 4503599627370496 := by omega
        have hfb2 : ∀ w, (callFunc 28 #[.int .u64 ((b : Int) + (up : Int) * 4503599627370496)]).run Try.prog w = .ok (.value (.float .f64 R)) w := fun w => by
          have h := hfb R w
          rw [hRi] at h
          exact h
        clear hRi
        subst h3
        obtain ⟨u, hu⟩ : ∃ u : Int, (up : Int) = u := ⟨_, rfl⟩
        have hnp : (0 : Int) < u := by omega
        have hne : u ≤ 2045 := by omega
        rw [hu] at hmax hfr hfb2 hbt han
        have e1 : IntKind.u64.wrap (u * 4503599627370496) = u * 4503599627370496 := by rw [IntKind.wrap_u64]; omega
        have e2 : IntKind.u64.wrap ((b : Int) + u * 4503599627370496) = (b : Int) + u * 4503599627370496 := by rw [IntKind.wrap_u64]; omega
        clear hat hru hh ho he h1 h2 hfb hu hup
        go_enter Try.func42, Try.ntmps42
        go_wp2_with (first
          | (go_at_call 50; refine (hlong _ hs).mono ?_; rintro e w1 ⟨rfl, n1, rfl⟩)
          | (go_at_call 51; refine (hfr _).mono ?_; rintro e w1 ⟨rfl, n2, rfl⟩)
          | (go_at_call 52; refine (hbt _).mono ?_; rintro e w1 ⟨rfl, n3, rfl⟩)
          | (go_at_call 53; refine (han _).mono ?_; rintro e w1 ⟨rfl, n4, rfl⟩))
        go_ret
        exact ⟨rfl, _, rfl⟩
end Go.Proofs.Ytmgnobeaacjdjac
