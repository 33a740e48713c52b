/-
  The document's mean by its contract.
-/
import Derived.Test.YtfifbcoedfdnjabMeanWalk
namespace Go.Proofs.Ytfifbcoedfdnjab
open Go.RowKit

theorem floor_facts (s n : Int) (hn : 0 < n) (h1 : -2000000000000000 ≤ s) (h2 : s ≤ 2000000000000000) :
    ∃ P : Int, (s / n) * n = P ∧ (s / n + 1) * n = P + n ∧ P ≤ s ∧ s < P + n ∧ (s.tdiv n = s / n ∨ s.tdiv n = s / n + 1) ∧ -3000000000000000 ≤ s / n ∧ s / n ≤ 3000000000000000 := by
  have a := Int.mul_ediv_add_emod s n
  have b := Int.emod_nonneg s (show n ≠ 0 by omega)
  have c := Int.emod_lt_of_pos s hn
  have f := floor_tdiv s n hn
  have t := tdiv_range s n h1 h2
  rw [Int.mul_comm] at a
  exact ⟨_, rfl, by rw [Int.add_mul, Int.one_mul], by omega, by omega, by omega, by omega, by omega⟩

theorem drew_more {w v : World} (h : ∃ n, v = w.drewN n) (m : Nat) : ∃ n, v.drewN m = w.drewN n := by
  obtain ⟨n, rfl⟩ := h; exact ⟨n + m, by simp⟩

set_option maxHeartbeats 1000000 in
theorem meanOf_some (b off cap : Nat) (L : List Int) (w : World) (h0 : 0 < L.length) (h1 : L.length ≤ 4000) (hc : ∀ j, j < L.length → w.cell? ⟨b, off + j, none⟩ = some (.int .i64 (L.getD j 0))) :
    Calls Try.prog 12 #[.slice (some ⟨b, off, none⟩) L.length cap] w fun e w' => e = .returned (.tuple #[.int .i64 (mean L).1, .bool (mean L).2]) ∧ ∃ n, w' = w.drewN n := by
  have hm : mean L = fin (L.getD 0 0) L.length (sums (L.getD 0 0) L 0) := by unfold mean; rw [if_neg (by omega)]
  generalize mean L = m at hm ⊢
  have HM := hide hm
  clear hm
  have c0 := hc 0 h0
  rw [Nat.add_zero] at c0
  have HC := hide hc
  clear hc
  have HC0 := hide c0
  clear c0
  generalize hz : L.getD 0 0 = z at *
  have HZ := hide hz
  clear hz
  obtain ⟨z1, z2⟩ := nrm_range z
  have hn : ((L.length : Int) == 0) = false := by rw [beq_eq_false_iff_ne]; omega
  have hd4 : decide ((4000 : Int) < (L.length : Int)) = false := by simp; omega
  go_enter Try.func12, Try.ntmps12
  go_wp2
  go_loopw [5, 6] (fun x y wr => ∃ (k : Nat) (s : Int), k ≤ L.length ∧ y = .int .i64 k ∧ x = .int .i64 s ∧ sums z L 0 = sums z (L.drop k) s ∧ -(k * 324000000000) ≤ s ∧ s ≤ k * 324000000000 ∧ ∃ n, wr = w.drewN n) (fun _ y _ => L.length - (intOf y).toNat)
  case atStart => exact ⟨0, 0, Nat.zero_le _, rfl, rfl, rfl, by omega, by omega, 0, rfl⟩
  case round =>
    obtain ⟨k, s, hk, rfl, rfl, hs, s1, s2, hw⟩ := hrel
    have hcw : ∀ a : Addr, wr.cell? a = w.cell? a := by obtain ⟨n, rfl⟩ := hw; intro a; rfl
    have HCW := hide hcw
    have HW := hide hw
    clear hcw hw
    have HS := hide hs
    clear hs
    by_cases hlt : k < L.length
    · have ck : wr.cell? ⟨b, off + k, none⟩ = some (.int .i64 (L.getD k 0)) := (unhide HCW _).trans (unhide HC k hlt)
      have c0 : wr.cell? ⟨b, off, none⟩ = some (.int .i64 z) := (unhide HCW _).trans (unhide HC0)
      have hd := drop_here L k hlt
      have HD := hide hd
      clear hd
      generalize L.getD k 0 = x at *
      obtain ⟨x1, x2⟩ := nrm_range x
      obtain ⟨d1, d2⟩ := dif_range z x
      obtain ⟨f1, f2, f3⟩ := far_range (dif z x)
      have ST : sums z L 0 = if 324000000000 ≤ far (dif z x) then none else sums z (L.drop (k + 1)) (s + dif z x) := by rw [unhide HS, unhide HD]; rfl
      have HT := hide ST
      clear ST
      have hdif : sgd (nrm x - nrm z) = dif z x := rfl
      by_cases hf : 324000000000 ≤ far (dif z x)
      · have hres := unhide HT
        rw [if_pos hf] at hres
        have hm := unhide HM
        rw [hres] at hm
        simp only [fin] at hm
        subst hm
        clear hres
        by_cases hp : 1296000000000 ≤ 4 * dif z x
        · go_wp2
          go_quiet (first | (go_at_call 8; exact Calls.quiet_of_same (normOf_any _ _)) | (go_at_call 9; exact Calls.quiet_of_same (signedOf_any _ _)))
          go_wp2
          go_ret2
          exact ⟨rfl, drew_more (unhide HW) _⟩
        · have hp' : decide (1296000000000 ≤ 4 * dif z x) = false := by simp; omega
          have hq : 4 * dif z x ≤ -1296000000000 := by unfold far at hf; split at hf <;> omega
          go_wp2
          go_quiet (first | (go_at_call 8; exact Calls.quiet_of_same (normOf_any _ _)) | (go_at_call 9; exact Calls.quiet_of_same (signedOf_any _ _)))
          go_wp2
          go_ret2
          exact ⟨rfl, drew_more (unhide HW) _⟩
      · have hres := unhide HT
        rw [if_neg hf] at hres
        have HR := hide hres
        clear hres
        have hp : decide (1296000000000 ≤ 4 * dif z x) = false := by simp; omega
        have hq : decide (4 * dif z x ≤ -1296000000000) = false := by simp; omega
        go_wp2
        go_quiet (first | (go_at_call 8; exact Calls.quiet_of_same (normOf_any _ _)) | (go_at_call 9; exact Calls.quiet_of_same (signedOf_any _ _)))
        go_wp2
        exact ⟨⟨k + 1, s + dif z x, by omega, by go_num, rfl, unhide HR, by omega, by omega, drew_more (unhide HW) _⟩, by simp [intOf]; omega⟩
    · obtain rfl : k = L.length := by omega
      have hres := unhide HS
      rw [List.drop_length] at hres
      simp only [sums] at hres
      have hm := unhide HM
      rw [hres] at hm
      simp only [fin] at hm
      subst hm
      clear hres
      obtain ⟨P, p1, p2, p3, p4, p5, p6, p7⟩ := floor_facts s L.length (by omega) (by omega) (by omega)
      have hne : ¬ L.length = 0 := by omega
      generalize hf : s / (L.length : Int) = f at p1 p2 p5 p6 p7
      have HF := hide hf
      clear hf
      generalize hq : s.tdiv (L.length : Int) = q at p5
      have c0' : wr.cell? ⟨b, off, none⟩ = some (.int .i64 z) := (unhide HCW _).trans (unhide HC0)
      go_wp2
      go_loop [8] (fun x => ∃ q : Int, x = .int .i64 q ∧ (q = f ∨ q = f + 1)) (fun x => (intOf x - f).toNat)
      case atStart => exact ⟨q, rfl, p5⟩
      case round =>
        obtain ⟨q', rfl, hq'⟩ := hrel
        rcases hq' with rfl | rfl
        · go_wp2_with (go_at_call 8; refine (normOf_any _ _).mono ?_; rintro e w' ⟨rfl, rfl⟩)
          go_ret2
          exact ⟨by rw [unhide HF]; rfl, unhide HW⟩
        · go_wp2
          exact ⟨⟨f, by go_num, .inl rfl⟩, by simp [intOf]; omega⟩

theorem meanOf_none (a : Option Addr) (len cap : Nat) (w : World) (h : len = 0 ∨ 4000 < len) (h2 : len ≤ 9223372036854775807) :
    Calls Try.prog 12 #[.slice a len cap] w fun e w' => e = .returned (.tuple #[.int .i64 0, .bool false]) ∧ w' = w := by
  rcases h with rfl | h
  · go_enter Try.func12, Try.ntmps12
    go_wp2
    go_ret2
    exact ⟨rfl, rfl⟩
  · have hn : ¬ len = 0 := by omega
    have hd : decide ((4000 : Int) < (len : Int)) = true := by simp; omega
    go_enter Try.func12, Try.ntmps12
    go_wp2
    go_ret2
    exact ⟨rfl, rfl⟩
end Go.Proofs.Ytfifbcoedfdnjab
