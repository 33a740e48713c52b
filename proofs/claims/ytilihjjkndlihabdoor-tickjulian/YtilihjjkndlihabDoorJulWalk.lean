/-
  tick.divisor and tick.Julian by their contracts.
-/
import Derived.Test.YtilihjjkndlihabDoorBigMore
import Derived.Test.YtilihjjkndlihabDoorCoded
namespace Go.Proofs.YtilihjjkndlihabDoor
open Go.RowKit

theorem rem_small (q p : Int) (h : p ≠ 0) : (q.tmod p).natAbs < p.natAbs := by
  rw [Int.natAbs_tmod]; exact Nat.mod_lt _ (by omega)

set_option maxHeartbeats 400000 in
theorem divisor_any (a b : Int) (w : World) (a1 : -9000000000000000000 ≤ a) (a2 : a ≤ 9000000000000000000) (b1 : -9000000000000000000 ≤ b) (b2 : b ≤ 9000000000000000000) :
    Calls Tryd.prog 9 #[.int .i64 a, .int .i64 b] w fun e w' => e = .returned (.int .i64 (Int.gcd a b)) ∧ w' = w := by
  go_enter Tryd.func9, Tryd.ntmps9
  go_wp2
  go_loop [0, 1] (fun x y => ∃ p q : Int, x = .int .i64 p ∧ y = .int .i64 q ∧ -9000000000000000000 ≤ p ∧ p ≤ 9000000000000000000 ∧ -9000000000000000000 ≤ q ∧ q ≤ 9000000000000000000 ∧ Int.gcd p q = Int.gcd a b) (fun x _ => (intOf x).natAbs)
  case atStart => exact ⟨a, b, rfl, rfl, a1, a2, b1, b2, rfl⟩
  case round =>
    obtain ⟨p, q, rfl, rfl, p1, p2, q1, q2, hg⟩ := hrel
    have HG := hide hg
    clear hg
    by_cases h0 : p = 0
    · subst h0
      have hq : ((Int.gcd a b : Nat) : Int) = if 0 ≤ q then q else -q := by
        rw [← unhide HG, Int.gcd_zero_left]; split <;> omega
      have HQ := hide hq
      clear hq
      by_cases hs : 0 < q
      · go_wp2
        go_ret
        exact ⟨by rw [unhide HQ, if_pos (by omega)]; rfl, rfl⟩
      · by_cases hs' : q = 0
        · subst hs'
          go_wp2
          go_ret
          exact ⟨by rw [unhide HQ]; rfl, rfl⟩
        · go_wp2
          go_ret
          exact ⟨by rw [unhide HQ, if_neg (by omega)]; rfl, rfl⟩
    · have hp : (p != 0) = true := by simp [h0]
      have hr := rem_small q p h0
      go_wp2
      refine ⟨⟨q.tmod p, p, rfl, rfl, by omega, by omega, p1, p2, ?_⟩, by simpa [intOf] using hr⟩
      rw [gcd_rem, unhide HG]

theorem divisor_is (a b : Int) (g : Nat) (w : World) (hg : Int.gcd a b = g) (a1 : -9000000000000000000 ≤ a) (a2 : a ≤ 9000000000000000000) (b1 : -9000000000000000000 ≤ b) (b2 : b ≤ 9000000000000000000) :
    Calls Tryd.prog 9 #[.int .i64 a, .int .i64 b] w fun e w' => e = .returned (.int .i64 g) ∧ w' = w := by
  rw [← hg]; exact divisor_any a b w a1 a2 b1 b2

/-- What the Julian date's numerator is over a day, in microseconds. -/
def wantOf (t : Int) : Int := 211813444800000000 + t + 32184000

theorem lowest (x y : Int) (hy : y ≠ 0) : ∃ q r : Int, x = Int.gcd x y * q ∧ y = Int.gcd x y * r ∧ Int.gcd q r = 1 ∧ (0 : Int) < Int.gcd x y := by
  obtain ⟨q, hq⟩ := Int.gcd_dvd_left x y
  obtain ⟨r, hr⟩ := Int.gcd_dvd_right x y
  have hpos := Int.gcd_pos_of_ne_zero_right x hy
  refine ⟨q, r, hq, hr, ?_, by omega⟩
  have h := Int.gcd_mul_left (Int.gcd x y) q r
  rw [← hq, ← hr, Int.natAbs_natCast] at h
  exact (Nat.eq_of_mul_eq_mul_left hpos (by rw [Nat.mul_one]; exact h)).symm

set_option maxHeartbeats 400000 in
theorem julian_yes (t : Int) (w : World) (h1 : -300000000000000000 ≤ t) (h2 : t ≤ 300000000000000000) :
    Calls Tryd.prog 4 #[.int .i64 t] w fun e w' => ∃ q r : Int, e = .returned (.tuple #[.int .i64 q, .int .i64 r, .nilIface]) ∧ (∃ g : Int, 0 < g ∧ wantOf t = g * q ∧ 86400000000 = g * r ∧ Int.gcd q r = 1) ∧ ∃ n, w' = w.drewN n := by
  obtain ⟨q, r, e1, e2, e3, e4⟩ := lowest (211813444800000000 + t + 32184000) 86400000000 (by decide)
  have n0 : Int.gcd (211813444800000000 + t + 32184000) 86400000000 ≠ 0 := by omega
  generalize hgg : Int.gcd (211813444800000000 + t + 32184000) 86400000000 = gg at *
  have hg1 : (gg : Int) ≤ 86400000000 := Int.le_of_dvd (by decide) ⟨r, e2⟩
  have HG := hide hgg
  have d1 : (211813444800000000 + t + 32184000 : Int).tdiv gg = q := by
    rw [e1, Int.mul_tdiv_cancel_left _ (by omega)]
  have d2 : (86400000000 : Int) / gg = r := by
    rw [e2, Int.mul_ediv_cancel_left _ (by omega)]
  have E1 := hide e1
  have E2 := hide e2
  have E3 := hide e3
  have D1 := hide d1
  have D2 := hide d2
  clear hgg e1 e2 e3 d1 d2
  go_enter Tryd.func4, Tryd.ntmps4
  go_wp2_with (first | (go_at_call 9; refine (divisor_is _ _ gg _ (unhide HG) (by omega) (by omega) (by omega) (by omega)).mono ?_; rintro e w' ⟨rfl, rfl⟩) | go_in)
  go_quiet (fail)
  go_wp2
  rw [unhide D1, unhide D2]
  go_ret3
  exact ⟨q, r, rfl, ⟨gg, e4, unhide E1, unhide E2, unhide E3⟩, nq, rfl⟩

theorem julian_no (t : Int) (w : World) (v : Value) (h : t < -300000000000000000 ∨ 300000000000000000 < t) (hv : w.cell? ⟨0, 0, none⟩ = some v) :
    Calls Tryd.prog 4 #[.int .i64 t] w fun e w' => e = .returned (.tuple #[.int .i64 0, .int .i64 0, v]) ∧ ∃ n, w' = w.drewN n := by
  rcases h with h | h
  · go_enter Tryd.func4, Tryd.ntmps4
    go_wp2
    go_quiet (fail)
    go_wp2
    go_ret3
    exact ⟨rfl, _, rfl⟩
  · have h' : ¬ t < -300000000000000000 := by omega
    have hd : decide (t ≤ 300000000000000000) = false := by simp; omega
    go_enter Tryd.func4, Tryd.ntmps4
    go_wp2
    go_quiet (fail)
    go_wp2
    go_ret3
    exact ⟨rfl, _, rfl⟩

/-- A fraction in its lowest terms is the Julian date. -/
theorem same_product {W q r g d : Int} (hg : 0 < g) (h1 : W = g * q) (h2 : d = g * r) (hd : 0 < d) : abs1 q * d = abs1 W * r ∧ sgn1 q = sgn1 W ∧ 0 < r ∧ r ≤ d := by
  have hr : 0 < r := by
    rcases (show 0 < r ∨ r ≤ 0 by omega) with h | h
    · exact h
    · have := Int.mul_nonpos_of_nonneg_of_nonpos (Int.le_of_lt hg) h
      omega
  have hrd : r ≤ d := by
    rw [h2]
    have := Int.mul_le_mul_of_nonneg_right (show (1 : Int) ≤ g by omega) (Int.le_of_lt hr)
    omega
  have hs : (W < 0) = (q < 0) := by
    rw [h1]
    refine propext ⟨fun h => ?_, fun h => Int.mul_neg_of_pos_of_neg hg h⟩
    rcases (show q < 0 ∨ 0 ≤ q by omega) with h' | h'
    · exact h'
    · have := Int.mul_nonneg (Int.le_of_lt hg) h'
      omega
  refine ⟨?_, ?_, hr, hrd⟩
  · unfold abs1
    simp only [hs]
    split
    · rw [h1, h2, ← Int.mul_neg]; ac_rfl
    · rw [h1, h2]; ac_rfl
  · unfold sgn1
    simp only [hs]

theorem isTime_yes (t : Int) (w : World) (h1 : -300000000000000000 ≤ t) (h2 : t ≤ 300000000000000000) :
    Calls Tryd.prog 5 #[.int .i64 t] w fun e w' => e = .returned (.bool true) ∧ w' = w := by
  go_enter Tryd.func5, Tryd.ntmps5
  go_wp2
  go_ret
  exact ⟨rfl, rfl⟩
theorem isTime_no (t : Int) (w : World) (h : t < -300000000000000000 ∨ 300000000000000000 < t) :
    Calls Tryd.prog 5 #[.int .i64 t] w fun e w' => e = .returned (.bool false) ∧ w' = w := by
  rcases h with h | h
  · go_enter Tryd.func5, Tryd.ntmps5
    go_wp2
    go_ret
    exact ⟨rfl, rfl⟩
  · have h' : ¬ t < -300000000000000000 := by omega
    have hd : decide (t ≤ 300000000000000000) = false := by simp; omega
    go_enter Tryd.func5, Tryd.ntmps5
    go_wp2
    go_ret
    exact ⟨rfl, rfl⟩

set_option maxHeartbeats 1000000 in
theorem isJulian_any (t q r g : Int) (w : World) (h1 : -300000000000000000 ≤ t) (h2 : t ≤ 300000000000000000) (hg : 0 < g) (e1 : wantOf t = g * q) (e2 : 86400000000 = g * r) (e3 : Int.gcd q r = 1) :
    Calls Tryd.prog 7 #[.int .i64 t, .int .i64 q, .int .i64 r] w fun e w' => e = .returned (.bool true) ∧ Below w.heap.size w w' := by
  have SP := same_product hg e1 e2 (by decide)
  obtain ⟨sp1, sp2, r0, r1⟩ := SP
  have hw1 : -300000000000000000 ≤ wantOf t ∧ wantOf t ≤ 600000000000000000 := by unfold wantOf; omega
  have q1 : -600000000000000000 ≤ q ∧ q ≤ 600000000000000000 := by
    rcases (show 0 ≤ q ∨ q < 0 by omega) with h | h
    · have := Int.mul_le_mul_of_nonneg_right (show (1 : Int) ≤ g by omega) h
      omega
    · have := Int.mul_le_mul_of_nonpos_right (show (1 : Int) ≤ g by omega) (Int.le_of_lt h)
      omega
  obtain ⟨q1, q2⟩ := q1
  obtain ⟨w1, w2⟩ := hw1
  unfold wantOf at sp1 sp2 w1 w2
  have hpq : (sgn1 q == sgn1 (211813444800000000 + t + 32184000)) = true := by rw [sp2]; simp
  have SP1 := hide sp1
  have E3 := hide e3
  clear e1 e2 e3 sp1 sp2 hg
  go_enter Tryd.func7, Tryd.ntmps7
  go_wp2
  go_loopw [7, 8] (fun x y wr => ∃ a b : Int, x = .int .i64 a ∧ y = .int .i64 b ∧ -600000000000000000 ≤ a ∧ a ≤ 600000000000000000 ∧ -600000000000000000 ≤ b ∧ b ≤ 600000000000000000 ∧ Int.gcd a b = 1 ∧ Below w.heap.size w wr) (fun _ y _ => (intOf y).natAbs)
  case atStart => exact ⟨q, r, rfl, rfl, q1, q2, by omega, by omega, unhide E3, Below.refl _ _⟩
  case round =>
    obtain ⟨a, b, rfl, rfl, a1, a2, b1, b2, hgc, hb⟩ := hrel
    have HG := hide hgc
    clear hgc
    by_cases h0 : b = 0
    · subst h0
      have ha : a = 1 ∨ a = -1 := by
        have := unhide HG
        rw [Int.gcd_comm, Int.gcd_zero_left] at this
        omega
      have hz := hb.size
      rcases ha with rfl | rfl
      all_goals
        go_wp2_with fail
        refine (product_any _ _ _ (by omega) (by omega) (by omega) (by omega)).mono ?_
        rintro e w1 ⟨v, rfl, ⟨ga, ca, L, rfl, ho1, hd1, ht1, hv1, hl1⟩, hb1⟩
        have HV1 := hide hv1
        clear hv1
        go_wp2_with fail
        refine (product_any _ _ _ (by omega) (by omega) (by omega) (by omega)).mono ?_
        rintro e w2 ⟨v, rfl, ⟨gb, cb, L2, rfl, ho2, hd2, ht2, hv2, hl2⟩, hb2⟩
        have eL : L2 = L := canon_unique L2 L hd2 hd1 ht2 ht1 (by rw [hv2, unhide HV1, unhide SP1])
        subst eL
        clear hv2
        have z1 := (own_cap ho1).2.2
        have z2 := (own_cap ho2).2.2
        have ho1' := own_below ho1 hb2 z1.2
        have y1 := hb1.size
        have y2 := hb2.size
        go_wp2_with fail
        refine (bigCmp_same _ _ _ _ _ _ (by omega) (own_cell ho1') (own_cell ho2) (by omega) (by omega)).mono ?_
        rintro e w3 ⟨rfl, hb3⟩
        go_wp2
        go_ret
        exact ⟨rfl, hb.trans ((hb1.trans (hb2.mono y1)).trans (hb3.mono (by omega)) |>.mono hz)⟩
    · have hp : (b != 0) = true := by simp [h0]
      have hr := rem_small a b h0
      go_wp2
      go_quiet (fail)
      go_wp2
      refine ⟨⟨b, a.tmod b, rfl, rfl, b1, b2, by omega, by omega, ?_, below_drewN hb _⟩, by simpa [intOf] using hr⟩
      rw [gcd_rem', unhide HG]
end Go.Proofs.YtilihjjkndlihabDoor
