/-
  The document's numbers over each other: Product, divided, FloorOf, by contracts.
-/
import Derived.Test.YtlhjmmcimhceeagDoorBigV
import Derived.Test.YtlhjmmcimhceeagDoorEvNum
namespace Go.Proofs.YtlhjmmcimhceeagDoor
open Go Go.RowKit

theorem absI_neg {a : Int} (h : a < 0) : absI a = -a := by unfold absI; rw [if_pos h]
theorem absI_pos {a : Int} (h : ¬ a < 0) : absI a = a := by unfold absI; rw [if_neg h]
theorem sgnI_neg {a : Int} (h : a < 0) : sgnI a = -1 := by unfold sgnI; rw [if_pos h]
theorem sgnI_pos {a : Int} (h : ¬ a < 0) : sgnI a = 1 := by unfold sgnI; rw [if_neg h]
set_option maxHeartbeats 800000 in
theorem productV (a b : Int) (w : World) (h1 : -9223372036854775807 ≤ a) (h2 : a ≤ 9223372036854775807) (h3 : -9223372036854775807 ≤ b) (h4 : b ≤ 9223372036854775807) :
    Calls Tryd.prog 74 #[.int .i64 a, .int .i64 b] w fun e w' => ∃ ad cap L, e = .returned (.tuple #[.int .i64 (sgnI a * sgnI b), .slice ad L.length cap]) ∧ BigV w' ad L ∧ val L = absI a * absI b ∧ L.length ≤ 8 ∧ Below w.heap.size w w' := by
  have ha := fun u => bigOfV (absI a) u (absI_nonneg a) (by unfold absI; split <;> omega)
  have hb := fun u => bigOfV (absI b) u (absI_nonneg b) (by unfold absI; split <;> omega)
  generalize hx : absI a = x at *
  generalize hy : absI b = y at *
  have HX := hideR hx
  have HY := hideR hy
  clear hx hy
  by_cases ca : a < 0 <;> by_cases cb : b < 0
  all_goals
    first | rw [sgnI_neg ca] | rw [sgnI_pos ca]
    first | rw [sgnI_neg cb] | rw [sgnI_pos cb]
    have e1 := unhideR HX
    have e2 := unhideR HY
    first | rw [absI_neg ca] at e1 | rw [absI_pos ca] at e1
    first | rw [absI_neg cb] at e2 | rw [absI_pos cb] at e2
    clear HX HY
    go_enter Tryd.func74, Tryd.ntmps74
    go_wp2_with fail
    first | (rw [e1]) | (subst e1)
    refine (ha _).mono ?_
    rintro e w1 ⟨ad1, c1, A, rfl, hA, hvA, hlA, k1⟩
    have HA := hideR hA
    have HvA := hideR hvA
    have HW := hideR k1
    clear hA hvA k1
    go_wp2_with fail
    first | (rw [e2]) | (subst e2)
    refine (hb _).mono ?_
    rintro e w2 ⟨ad2, c2, B, rfl, hB, hvB, hlB, k2⟩
    replace HA := hideR ((unhideR HA).below k2)
    have HB := hideR hB
    have HvB := hideR hvB
    replace HW := hideR (below_go (unhideR HW) k2)
    clear hB hvB k2
    go_wp2_with fail
    refine (bigMulV ad1 ad2 c1 c2 A B _ (by omega) (by omega) (unhideR HA) (unhideR HB)).mono ?_
    rintro e w3 ⟨ad3, c3, L, rfl, hL, hvL, hlL, k3⟩
    have HL := hideR hL
    have HvL := hideR hvL
    replace HW := hideR (below_go (unhideR HW) k3)
    clear hL hvL k3
    go_wp2
    go_ret2
    refine ⟨ad3, c3, L, rfl, unhideR HL, ?_, by omega, unhideR HW⟩
    rw [unhideR HvL, unhideR HvA, unhideR HvB]
def bJ : Nat → Int
  | 0 => 0
  | j + 1 => 2 ^ j
theorem bJ_half (j : Nat) : (bJ (j + 1)).tdiv 2 = bJ j := by
  cases j with
  | zero => decide
  | succ j =>
    show ((2 : Int) ^ (j + 1)).tdiv 2 = 2 ^ j
    rw [Int.pow_succ, Int.mul_tdiv_cancel _ (by decide)]
theorem bJ_lt (j : Nat) : 0 ≤ bJ j ∧ bJ j < 2 ^ j := by
  cases j with
  | zero => decide
  | succ i =>
    have q : (0 : Int) < 2 ^ i := Int.pow_pos (by decide)
    have q2 : (2 : Int) ^ (i + 1) = 2 ^ i + 2 ^ i := by rw [Int.pow_succ]; omega
    show 0 ≤ (2 : Int) ^ i ∧ (2 : Int) ^ i < 2 ^ (i + 1)
    omega
theorem cmp3_le {a b : Int} : decide (cmp3 a b ≤ 0) = decide (a ≤ b) := by
  unfold cmp3
  by_cases h : a < b
  · rw [if_pos h, decide_eq_true (show a ≤ b by omega)]
    rfl
  · rw [if_neg h]
    by_cases k : b < a
    · rw [if_pos k, decide_eq_false (show ¬ a ≤ b by omega)]
      rfl
    · rw [if_neg k, decide_eq_true (show a ≤ b by omega)]
      rfl
theorem cmp3_ne {a b : Int} : (cmp3 a b != 0) = !decide (a = b) := by
  unfold cmp3
  by_cases h : a < b
  · rw [if_pos h, decide_eq_false (show ¬ a = b by omega)]
    rfl
  · rw [if_neg h]
    by_cases k : b < a
    · rw [if_pos k, decide_eq_false (show ¬ a = b by omega)]
      rfl
    · rw [if_neg k, decide_eq_true (show a = b by omega)]
      rfl
set_option maxRecDepth 100000 in
set_option maxHeartbeats 1600000 in
theorem dividedV (ad : Option Addr) (cap : Nat) (A : List Int) (c : Int) (w : World) (hA : BigV w ad A) (_hl : A.length ≤ 1000) (hc : 0 < c) (hc2 : c ≤ 4611686018427387904) (hP : val A < c * 4611686018427387904) :
    Calls Tryd.prog 75 #[.slice ad A.length cap, .int .i64 c] w fun e w' => e = .returned (.tuple #[.int .i64 (val A / c), .bool (!decide (c * (val A / c) = val A))]) ∧ Below w.heap.size w w' := by
  have hR := divB_div hc (val_nonneg A hA.dg) hP
  have hr := div_range (val_nonneg A hA.dg) hc hP
  generalize val A / c = R at *
  have hbc := fun u => bigOfV c u (by omega) (by omega)
  have HV : HeldR (val A = val A) := rfl
  generalize hPv : val A = P at *
  replace HV := hideR hPv
  have HR := hideR hR
  have HP := hideR hA
  clear hA hPv hR hP
  go_enter Tryd.func75, Tryd.ntmps75
  go_wp2_with fail
  refine (hbc _).mono ?_
  rintro e w1 ⟨ad1, c1, D, rfl, hD, hvD, hlD, k1⟩
  have HD := hideR hD
  have HvD := hideR hvD
  have HW := hideR k1
  clear hD hvD k1 hbc
  go_wp2
  go_loopw [6, 8] (fun qv bv wl => ∃ (j : Nat) (q : Int), j ≤ 62 ∧ qv = .int .i64 q ∧ bv = .int .i64 (bJ j) ∧ HeldR (divB P c j q = R) ∧ 0 ≤ q ∧ HeldR (q + 2 ^ j ≤ 4611686018427387904) ∧ HeldR (BigV wl ad1 D) ∧ HeldR (Below w.heap.size w wl)) (fun _ bv _ => (intOf bv).toNat)
  case atStart => exact ⟨62, 0, by omega, rfl, rfl, HR, by omega, by unfold HeldR; decide, HD, HW⟩
  case round =>
    clear HD HW
    obtain ⟨j, q, hj, rfl, rfl, HJ, h0, H1, HD, HW⟩ := hrel
    cases j with
    | zero =>
      have hq : q = R := unhideR HJ
      subst hq
      have hbq := fun u => bigOfV q u (by omega) (by omega)
      unfold bJ
      clear HJ H1
      go_wp2_with fail
      refine (hbq _).mono ?_
      rintro e w2 ⟨ad2, c2, B, rfl, hB, hvB, hlB, k2⟩
      have HB := hideR hB
      have HvB := hideR hvB
      replace HD := hideR ((unhideR HD).below k2)
      replace HW := hideR (below_go (unhideR HW) k2)
      clear hB hvB k2 hbq
      go_wp2_with fail
      refine (bigMulV ad1 ad2 c1 c2 D B _ (by omega) (by omega) (unhideR HD) (unhideR HB)).mono ?_
      rintro e w3 ⟨ad3, c3, X, rfl, hX, hvX, hlX, k3⟩
      have HX := hideR hX
      have HvX := hideR hvX
      replace HW := hideR (below_go (unhideR HW) k3)
      clear hX hvX k3
      have hcm := bigCmpV ad3 ad c3 cap X A _ (by omega) (unhideR HX) ((unhideR HP).below (unhideR HW))
      rw [unhideR HvX, unhideR HvD, unhideR HvB, unhideR HV] at hcm
      have hne := cmp3_ne (a := c * q) (b := P)
      generalize cmp3 (c * q) P = k at *
      generalize hb : decide (c * q = P) = bb at *
      have HBB := hideR hb
      clear hb
      go_wp2_with fail
      refine hcm.mono ?_
      rintro e w4 ⟨rfl, k4⟩
      replace HW := hideR (below_go (unhideR HW) k4)
      clear k4 hcm
      go_wp2
      go_ret2
      refine ⟨?_, unhideR HW⟩
      rw [unhideR HBB]
      rfl
    | succ j =>
      have hp : (0 : Int) < 2 ^ j := Int.pow_pos (by decide)
      have e : (2 : Int) ^ (j + 1) = 2 ^ j + 2 ^ j := by rw [Int.pow_succ]; omega
      have h1 := unhideR H1
      rw [e] at h1
      have hh := bJ_half j
      have hs : divB P c (j + 1) q = divB P c j (if c * (q + 2 ^ j) ≤ P then q + 2 ^ j else q) := rfl
      rw [unhideR HJ] at hs
      have hbj : bJ (j + 1) = 2 ^ j := rfl
      rw [hbj] at hh ⊢
      have hb0 := bJ_lt j
      have HK := hideR (fun q' (h : divB P c j q' = R) (k0 : 0 ≤ q') (k1 : q' + 2 ^ j ≤ 4611686018427387904) (wl : World) (kD : HeldR (BigV wl ad1 D)) (kW : HeldR (Below w.heap.size w wl)) => (⟨j, q', by omega, rfl, rfl, hideR h, k0, hideR k1, kD, kW⟩ : ∃ (i : Nat) (q2 : Int), i ≤ 62 ∧ Value.int .i64 q' = .int .i64 q2 ∧ Value.int .i64 (bJ j) = .int .i64 (bJ i) ∧ HeldR (divB P c i q2 = R) ∧ 0 ≤ q2 ∧ HeldR (q2 + 2 ^ i ≤ 4611686018427387904) ∧ HeldR (BigV wl ad1 D) ∧ HeldR (Below w.heap.size w wl)))
      clear HJ hbj e H1
      generalize (2 : Int) ^ j = b at *
      generalize bJ j = b2 at *
      have hbq := fun u => bigOfV (q + b) u (by omega) (by omega)
      go_wp2_with fail
      refine (hbq _).mono ?_
      rintro e w2 ⟨ad2, c2, B, rfl, hB, hvB, hlB, k2⟩
      have HB := hideR hB
      have HvB := hideR hvB
      replace HD := hideR ((unhideR HD).below k2)
      replace HW := hideR (below_go (unhideR HW) k2)
      clear hB hvB k2 hbq
      go_wp2_with fail
      refine (bigMulV ad1 ad2 c1 c2 D B _ (by omega) (by omega) (unhideR HD) (unhideR HB)).mono ?_
      rintro e w3 ⟨ad3, c3, X, rfl, hX, hvX, hlX, k3⟩
      have HX := hideR hX
      have HvX := hideR hvX
      replace HD := hideR ((unhideR HD).below k3)
      replace HW := hideR (below_go (unhideR HW) k3)
      clear hX hvX k3
      have hcm := bigCmpV ad3 ad c3 cap X A _ (by omega) (unhideR HX) ((unhideR HP).below (unhideR HW))
      rw [unhideR HvX, unhideR HvD, unhideR HvB, unhideR HV] at hcm
      have hle := cmp3_le (a := c * (q + b)) (b := P)
      generalize cmp3 (c * (q + b)) P = k at *
      by_cases hcc : c * (q + b) ≤ P
      · rw [if_pos hcc] at hs
        have hs2 := hs.symm
        rw [decide_eq_true hcc] at hle
        have hk : k ≤ 0 := of_decide_eq_true hle
        clear hcc hs
        go_wp2_with fail
        refine hcm.mono ?_
        rintro e w4 ⟨rfl, k4⟩
        replace HD := hideR ((unhideR HD).below k4)
        replace HW := hideR (below_go (unhideR HW) k4)
        clear k4 hcm
        go_wp2
        exact ⟨unhideR HK _ hs2 (by omega) (by omega) _ HD HW, by simp [intOf]; omega⟩
      · rw [if_neg hcc] at hs
        have hs2 := hs.symm
        rw [decide_eq_false hcc] at hle
        have hk : ¬ k ≤ 0 := of_decide_eq_false hle
        clear hcc hs
        go_wp2_with fail
        refine hcm.mono ?_
        rintro e w4 ⟨rfl, k4⟩
        replace HD := hideR ((unhideR HD).below k4)
        replace HW := hideR (below_go (unhideR HW) k4)
        clear k4 hcm
        go_wp2
        exact ⟨unhideR HK _ hs2 (by omega) (by omega) _ HD HW, by simp [intOf]; omega⟩
set_option maxHeartbeats 800000 in
theorem floorOf_any (a b c : Int) (w : World) (h1 : -4611686018427387904 ≤ a) (h2 : a ≤ 4611686018427387904) (h3 : -4611686018427387904 ≤ b) (h4 : b ≤ 4611686018427387904) (hc : 0 < c) (hc2 : c ≤ 4611686018427387904) (hP : absI a * absI b < c * 4611686018427387904) :
    Calls Tryd.prog 48 #[.int .i64 a, .int .i64 b, .int .i64 c] w fun e w' => e = .returned (.int .i64 (a * b / c)) ∧ Below w.heap.size w w' := by
  have hn : 0 ≤ absI a * absI b := Int.mul_nonneg (absI_nonneg a) (absI_nonneg b)
  have hr := div_range hn hc hP
  have hF := floor_by a b hc
  have hpr := fun u => productV a b u (by omega) (by omega) (by omega) (by omega)
  have hdv := fun ad cap A u (hA : BigV u ad A) (hl : A.length ≤ 1000) (hv : val A = absI a * absI b) => dividedV ad cap A c u hA hl hc hc2 (by rw [hv]; exact hP)
  have HSG := hideR (sgn_mul_two a b)
  have HDV : HeldR (∀ ad cap A u (_ : BigV u ad A) (_ : A.length ≤ 1000) (_ : val A = absI a * absI b), Calls Tryd.prog 75 #[.slice ad A.length cap, .int .i64 c] u fun e w' => e = .returned (.tuple #[.int .i64 (absI a * absI b / c), .bool (!decide (c * (absI a * absI b / c) = absI a * absI b))]) ∧ Below u.heap.size u w') := fun ad cap A u hA hl hv => by
    have := hdv ad cap A u hA hl hv
    rwa [hv] at this
  clear hdv hP
  generalize absI a * absI b = n at *
  generalize n / c = q at *
  generalize sgnI a * sgnI b = s at *
  generalize a * b / c = F at *
  go_enter Tryd.func48, Tryd.ntmps48
  go_wp2_with fail
  refine (hpr _).mono ?_
  rintro e w1 ⟨ad1, c1, A, rfl, hA, hvA, hlA, k1⟩
  have HA := hideR hA
  have HvA := hideR hvA
  have HW := hideR k1
  clear hA hvA k1 hpr
  go_wp2_with fail
  refine (unhideR HDV ad1 c1 A _ (unhideR HA) (by omega) (unhideR HvA)).mono ?_
  rintro e w2 ⟨rfl, k2⟩
  replace HW := hideR (below_go (unhideR HW) k2)
  clear k2 HDV HA HvA
  by_cases hs : 0 < s
  · rw [if_pos hs] at hF
    subst hF
    go_wp2
    go_ret
    exact ⟨rfl, unhideR HW⟩
  · rw [if_neg hs] at hF
    by_cases hz : c * q = n
    · rw [if_pos hz] at hF
      subst hF
      have hb : decide (c * q = n) = true := decide_eq_true hz
      rw [hb]
      clear hz
      go_wp2
      go_ret
      exact ⟨rfl, unhideR HW⟩
    · rw [if_neg hz] at hF
      subst hF
      have hb : decide (c * q = n) = false := decide_eq_false hz
      rw [hb]
      clear hz
      go_wp2
      go_ret
      exact ⟨rfl, unhideR HW⟩
end Go.Proofs.YtlhjmmcimhceeagDoor
