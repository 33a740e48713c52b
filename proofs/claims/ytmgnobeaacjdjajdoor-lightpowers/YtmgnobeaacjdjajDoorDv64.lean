/-
  math/bits.Mul64 and Div64, by contract.
-/
import Derived.Test.YtmgnobeaacjdjajDoorDivQ
import Derived.Test.YtmgnobeaacjdjajDoorKitA
import Derived.Test.YtmgnobeaacjdjajDoorShelf
import Derived.Lib.Mul64
import Derived.Deep.QuietTactic
namespace Go.Proofs.YtmgnobeaacjdjajDoor
open Go Go.RowKit

theorem mulNN (a b : Nat) : (a : Int) * (b : Int) = ((a * b : Nat) : Int) := (Int.natCast_mul a b).symm
theorem addNN (a b : Nat) : (a : Int) + (b : Int) = ((a + b : Nat) : Int) := (Int.natCast_add a b).symm
theorem divKN (a : Nat) : (a : Int) / 4294967296 = ((a / 4294967296 : Nat) : Int) := by omega
set_option maxHeartbeats 1000000 in
theorem mul64_any (x y : Nat) (hx : x < 18446744073709551616) (hy : y < 18446744073709551616) (w : World) :
    Calls Tryd.prog 73 #[.int .u64 x, .int .u64 y] w fun e w' => e = .returned (.tuple #[.int .u64 ((x * y / 18446744073709551616 : Nat) : Int), .int .u64 ((x * y % 18446744073709551616 : Nat) : Int)]) ∧ w' = w := by
  obtain ⟨bd, bt, bw, hhi⟩ := Lib.mul64_hi x y hx hy
  have ba := Lib.half_mul_le (a := x / 4294967296) (b := y / 4294967296) (by omega) (by omega)
  have bb := Lib.half_mul_le (a := x / 4294967296) (b := y % 4294967296) (by omega) (by omega)
  have bc := Lib.half_mul_le (a := x % 4294967296) (b := y / 4294967296) (by omega) (by omega)
  have ba' : x / 4294967296 * (y / 4294967296) < 18446744073709551616 := by omega
  have bb' : x / 4294967296 * (y % 4294967296) < 18446744073709551616 := by omega
  have bc' : x % 4294967296 * (y / 4294967296) < 18446744073709551616 := by omega
  have bh1 : x / 4294967296 * (y / 4294967296) + (x / 4294967296 * (y % 4294967296) + x % 4294967296 * (y % 4294967296) / 4294967296) / 4294967296 < 18446744073709551616 := by omega
  have bh : x / 4294967296 * (y / 4294967296) + (x / 4294967296 * (y % 4294967296) + x % 4294967296 * (y % 4294967296) / 4294967296) / 4294967296 + ((x / 4294967296 * (y % 4294967296) + x % 4294967296 * (y % 4294967296) / 4294967296) % 4294967296 + x % 4294967296 * (y / 4294967296)) / 4294967296 < 18446744073709551616 := by omega
  go_enter Tryd.func73, Tryd.ntmps73
  go_wp2
  simp only [maskK hx, maskK hy, divKN, mulNN, addNN, wrapU bd, wrapU bb', wrapU bt, maskK bt, wrapU bc', wrapU bw, wrapU ba', wrapU bh1, wrapU bh, wrapM (x * y)]
  rw [hhi]
  go_ret2
  exact ⟨rfl, rfl⟩
theorem quoU (a b : Nat) (ha : a < 18446744073709551616) : IntKind.u64.wrap ((a : Int) / (b : Int)) = ((a / b : Nat) : Int) := by
  rw [← Int.natCast_ediv]
  exact wrapU (Nat.lt_of_le_of_lt (Nat.div_le_self _ _) ha)
theorem remU (a b : Nat) (ha : a < 18446744073709551616) : IntKind.u64.wrap ((a : Int) % (b : Int)) = ((a % b : Nat) : Int) := by
  rw [← Int.natCast_emod]
  exact wrapU (Nat.lt_of_le_of_lt (Nat.mod_le _ _) ha)
theorem div_mid {hi lo y s Y y1 y0 A B u v e1 e0 q : Nat} (D : DivS hi lo y s Y y1 y0 A B u v e1 e0) (hq : q = (u * 4294967296 + e1) / (y1 * 4294967296 + y0)) :
    ∃ U1 U2 U3 u2 q2 r2 : Nat, IntKind.u64.wrap ((u : Int) * 4294967296) = (U1 : Int) ∧ IntKind.u64.wrap ((U1 : Int) + (e1 : Int)) = (U2 : Int) ∧ IntKind.u64.wrap ((q : Int) * (Y : Int)) = (U3 : Int) ∧ IntKind.u64.wrap ((U2 : Int) - (U3 : Int)) = (u2 : Int) ∧
      IntKind.u64.wrap ((u2 : Int) / (y1 : Int)) = (q2 : Int) ∧ IntKind.u64.wrap ((q2 : Int) * (y1 : Int)) = (u2 : Int) - (r2 : Int) ∧ IntKind.u64.wrap ((u2 : Int) - ((u2 : Int) - (r2 : Int))) = (r2 : Int) ∧ Digit u2 e0 y1 y0 4294967296 q2 r2 ∧ u2 = (u * 4294967296 + e1) % Y ∧ u2 < Y := by
  rw [← D.sum] at hq
  have y1g := D.y1g
  have hY0 : 0 < Y := by have := D.sum; omega
  have hr := digit_rest hq
  have hlt := Nat.mod_lt (u * 4294967296 + e1) hY0
  have Y2 := D.Y2
  generalize hu2 : (u * 4294967296 + e1) % Y = u2 at *
  have qs : u2 / y1 * y1 + u2 % y1 = u2 := Nat.div_add_mod' u2 y1
  refine ⟨u * 4294967296 % 18446744073709551616, (u * 4294967296 + e1) % 18446744073709551616, q * Y % 18446744073709551616, u2, u2 / y1, u2 % y1, ?_, ?_, ?_, ?_, ?_, ?_, ?_, ?_, ?_, hlt⟩
  · rw [IntKind.wrap_u64]; omega
  · rw [IntKind.wrap_u64]; omega
  · rw [mulNN, wrapM]
  · rw [IntKind.wrap_u64]; omega
  · exact quoU u2 y1 (by omega)
  · rw [mulNN, wrapU (by omega)]
    omega
  · rw [show (u2 : Int) - ((u2 : Int) - ((u2 % y1 : Nat) : Int)) = ((u2 % y1 : Nat) : Int) by omega]
    exact wrapU (by omega)
  · exact digit_first (by omega) D.y1l D.e0l
  · rfl
theorem div_end {hi lo y s Y y1 y0 A B u v e1 e0 q u2 q0 : Nat} (D : DivS hi lo y s Y y1 y0 A B u v e1 e0) (hq : q = (u * 4294967296 + e1) / (y1 * 4294967296 + y0)) (hu2 : u2 = (u * 4294967296 + e1) % Y) (hq0 : q0 = (u2 * 4294967296 + e0) / (y1 * 4294967296 + y0)) :
    ∃ V1 V2 V3 V4 V5 : Nat, IntKind.u64.wrap ((q : Int) * 4294967296) = (V1 : Int) ∧ IntKind.u64.wrap ((V1 : Int) + (q0 : Int)) = (((u * 18446744073709551616 + v) / Y : Nat) : Int) ∧ IntKind.u64.wrap ((u2 : Int) * 4294967296) = (V2 : Int) ∧ IntKind.u64.wrap ((V2 : Int) + (e0 : Int)) = (V3 : Int) ∧
      IntKind.u64.wrap ((q0 : Int) * (Y : Int)) = (V4 : Int) ∧ IntKind.u64.wrap ((V3 : Int) - (V4 : Int)) = (V5 : Int) ∧ (V5 : Int) / 2 ^ s = (((u * 18446744073709551616 + v) % Y / 2 ^ s : Nat) : Int) := by
  rw [← D.sum] at hq hq0
  have y1g := D.y1g
  have hY0 : 0 < Y := by have := D.sum; omega
  have Y2 := D.Y2
  have hlt := Nat.mod_lt (u * 4294967296 + e1) hY0
  have hlt2 := Nat.mod_lt (u2 * 4294967296 + e0) hY0
  have hql : q < 4294967296 := by rw [hq]; exact digit_less D.ul D.e1l
  have hq0l : q0 < 4294967296 := by rw [hq0]; exact digit_less (by omega) D.e0l
  have hr := digit_rest hq0
  have two := two_digits (u := u) (e1 := e1) (e0 := e0) (K := 4294967296) hY0
  rw [← hq, ← hu2, ← hq0, ← D.vsum, show 4294967296 * 4294967296 = 18446744073709551616 from rfl] at two
  rw [two.1, two.2]
  obtain ⟨R, hR⟩ : ∃ R, (u2 * 4294967296 + e0) % Y = R := ⟨_, rfl⟩
  rw [hR] at hr hlt2 ⊢
  clear two
  refine ⟨q * 4294967296, u2 * 4294967296 % 18446744073709551616, (u2 * 4294967296 + e0) % 18446744073709551616, q0 * Y % 18446744073709551616, R, ?_, ?_, ?_, ?_, ?_, ?_, ?_⟩
  · rw [IntKind.wrap_u64]; omega
  · rw [IntKind.wrap_u64]; omega
  · rw [IntKind.wrap_u64]; omega
  · rw [IntKind.wrap_u64]; omega
  · rw [mulNN, wrapM]
  · rw [IntKind.wrap_u64]; omega
  · rw [castDiv]
set_option maxRecDepth 100000 in
set_option maxHeartbeats 4000000 in
theorem div64_any (hi lo y : Nat) (hy : hi < y) (hyl : y < 18446744073709551616) (hlo : lo < 18446744073709551616) (w : World) :
    Calls Tryd.prog 93 #[.int .u64 hi, .int .u64 lo, .int .u64 y] w fun e w' => e = .returned (.tuple #[.int .u64 (((hi * 18446744073709551616 + lo) / y : Nat) : Int), .int .u64 (((hi * 18446744073709551616 + lo) % y : Nat) : Int)]) ∧ Below w.heap.size w w' := by
  by_cases h0 : hi = 0
  · subst h0
    have ny : ¬ (y : Int) = 0 := by omega
    have ny' : ¬ y = 0 := by omega
    have e1 : IntKind.u64.wrap ((lo : Int) / (y : Int)) = ((lo / y : Nat) : Int) := quoU lo y hlo
    have e2 : IntKind.u64.wrap ((lo : Int) % (y : Int)) = ((lo % y : Nat) : Int) := remU lo y hlo
    rw [Nat.zero_mul, Nat.zero_add]
    have t0 : ((y : Int) == 0) = false := by simp; omega
    have t1 : decide ((y : Int) ≤ 0) = false := decide_eq_false (by omega)
    go_enter Tryd.func93, Tryd.ntmps93
    go_wp2
    go_quiet (fail)
    go_wp2
    go_ret2
    exact ⟨rfl, drawn_below _ _⟩
  · obtain ⟨Y, y1, y0, A, B, u, v, e1, e0, hb, D⟩ := divS_of hy hyl hlo
    rw [D.quo, D.rem]
    obtain ⟨Z1, HZ1⟩ : ∃ Z1, HeldR ((u * 18446744073709551616 + v) / Y = Z1) := ⟨_, rfl⟩
    obtain ⟨Z2, HZ2⟩ : ∃ Z2, HeldR ((u * 18446744073709551616 + v) % Y / 2 ^ (64 - Lib.bitLen y) = Z2) := ⟨_, rfl⟩
    rw [unhideR HZ1, unhideR HZ2]
    have hlz := fun x => Tryd.bits_LeadingZeros64 (y : Int) x (by omega) (by omega)
    have e64 : 64 - (Lib.bitLen (y : Int).toNat : Int) = ((64 - Lib.bitLen y : Nat) : Int) := by
      rw [Int.toNat_natCast]
      omega
    rw [e64] at hlz
    generalize 64 - Lib.bitLen y = s at *
    have t0 : ((y : Int) == 0) = false := by simp; omega
    have t1 : decide ((y : Int) ≤ (hi : Int)) = false := decide_eq_false (by omega)
    have t2 : ((hi : Int) == 0) = false := by simp; omega
    have s64 := D.s64
    have x1 := D.shY
    have x2 := D.shA
    have x3 := D.shB
    have x4 := D.orU
    have x5 := D.shV
    have x6 := D.dY
    have x7 := D.mY
    have x8 := D.dV
    have x9 := D.mV
    have HD := hideR D
    clear D e64 hb
    have ws : IntKind.u64.wrap (s : Int) = (s : Int) := wrapU (by omega)
    have wt : IntKind.u64.wrap (64 - (s : Int)) = ((64 - s : Nat) : Int) := by
      rw [IntKind.wrap_u64]
      omega
    have ny1 : ¬ (y1 : Int) = 0 := by have := (unhideR HD).y1g; omega
    have ny1' : ¬ y1 = 0 := by have := (unhideR HD).y1g; omega
    obtain ⟨q, hq⟩ : ∃ q, q = u / y1 := ⟨_, rfl⟩
    obtain ⟨r, hr⟩ : ∃ r, r = u % y1 := ⟨_, rfl⟩
    have ul : u < 18446744073709551616 := by have := (unhideR HD).ul; have := (unhideR HD).Y2; omega
    have hqr : q * y1 + r = u := by rw [hq, hr]; exact Nat.div_add_mod' u y1
    have HDg : HeldR (Digit u e1 y1 y0 4294967296 q r) := by
      rw [hq, hr]
      exact digit_first (by omega) (unhideR HD).y1l (unhideR HD).e1l
    have z1 : IntKind.u64.wrap ((u : Int) / (y1 : Int)) = (q : Int) := by rw [hq]; exact quoU u y1 ul
    have z2 : IntKind.u64.wrap ((q : Int) * (y1 : Int)) = (u : Int) - (r : Int) := by
      rw [mulNN, wrapU (by omega)]
      omega
    have z3 : IntKind.u64.wrap ((u : Int) - ((u : Int) - (r : Int))) = (r : Int) := by
      rw [show (u : Int) - ((u : Int) - (r : Int)) = (r : Int) by omega]
      exact wrapU (by omega)
    clear hq hr hqr
    go_enter Tryd.func93, Tryd.ntmps93
    go_wp2_with fail
    refine (hlz _).mono ?_
    rintro e w1 ⟨rfl, rfl⟩
    go_wp2
    go_loop [15, 16] (fun qv rv => ∃ q r : Nat, qv = .int .u64 (q : Nat) ∧ rv = .int .u64 (r : Nat) ∧ HeldR (Digit u e1 y1 y0 4294967296 q r)) (fun qv _ => (intOf qv).toNat)
    case atStart => exact ⟨q, r, rfl, rfl, HDg⟩
    case round =>
      clear HDg z1 z2 z3
      obtain ⟨q, r, rfl, rfl, HDg⟩ := hrel
      have ul1 := (unhideR HD).ul
      clear ul hlz x1 x2 x3 x4 x5 x6 x7 x8 x9 ws wt
      have HQl : HeldR (q ≤ 18446744073709551615) := by
        have h1 := (unhideR HDg).sum
        have h2 : q * 1 ≤ q * y1 := Nat.mul_le_mul_left q (by omega)
        unfold HeldR
        have := ul1
        have := (unhideR HD).Y2
        omega
      by_cases hk : 4294967296 ≤ q
      · have tk : decide (4294967296 ≤ (q : Int)) = true := decide_eq_true (by omega)
        have ho := (unhideR HDg).over (by rw [← (unhideR HD).sum]; exact ul1) (unhideR HD).e1l (.inl hk)
        have hq0 : 0 < q := Nat.lt_of_le_of_lt (Nat.zero_le _) ho
        obtain ⟨m, HM⟩ : ∃ m, HeldR (q = m + 1) := ⟨q - 1, by unfold HeldR; omega⟩
        have wq : IntKind.u64.wrap ((q : Int) - 1) = (m : Int) := by
          rw [unhideR HM, show ((m + 1 : Nat) : Int) - 1 = (m : Int) by omega]
          exact wrapU (by have := unhideR HM; have := unhideR HQl; omega)
        obtain ⟨r2, HR2⟩ : ∃ r2, HeldR (r2 = r + y1) := ⟨_, rfl⟩
        have wr2 : IntKind.u64.wrap ((r : Int) + (y1 : Int)) = (r2 : Int) := by
          rw [addNN, ← unhideR HR2]
          exact wrapU (by have := unhideR HR2; have := (unhideR HDg).rl; have := (unhideR HD).y1l; omega)
        by_cases hb : 4294967296 ≤ r2
        · have tb : decide (4294967296 ≤ (r2 : Int)) = true := decide_eq_true (by omega)
          have HQ : HeldR (m = (u * 4294967296 + e1) / (y1 * 4294967296 + y0)) := by
            have := (unhideR HDg).broke (unhideR HD).y0l (by rw [← (unhideR HD).sum]; exact ul1) ho (by have := unhideR HR2; omega)
            have := unhideR HM
            unfold HeldR
            omega
          clear HDg HM HR2 HQl ho hq0 hb
          have HQ1 := HQ
          obtain ⟨U1, U2, U3, u2, q2, r2', m1, m2, m3, m4, m5, m6, m7, dg, hu2, ul2⟩ := div_mid (unhideR HD) (unhideR HQ)
          have HDg2 := hideR dg
          have HU2 := hideR hu2
          clear dg hu2 HQ
          go_wp2
          go_loop [18, 16] (fun qv rv => ∃ q r : Nat, qv = .int .u64 (q : Nat) ∧ rv = .int .u64 (r : Nat) ∧ HeldR (Digit u2 e0 y1 y0 4294967296 q r)) (fun qv _ => (intOf qv).toNat)
          case atStart => exact ⟨q2, r2', rfl, rfl, HDg2⟩
          case round =>
            clear HDg2 m1 m2 m3 m4 m5 m6 m7
            obtain ⟨p, r3, rfl, rfl, HDg⟩ := hrel
            have HQl : HeldR (p ≤ 18446744073709551615) := by
              have h1 := (unhideR HDg).sum
              have h2 : p * 1 ≤ p * y1 := Nat.mul_le_mul_left p (by omega)
              unfold HeldR
              have := ul2
              have := (unhideR HD).Y2
              omega
            by_cases hk : 4294967296 ≤ p
            · have tk : decide (4294967296 ≤ (p : Int)) = true := decide_eq_true (by omega)
              have ho := (unhideR HDg).over (by rw [← (unhideR HD).sum]; exact ul2) (unhideR HD).e0l (.inl hk)
              have hq0 : 0 < p := Nat.lt_of_le_of_lt (Nat.zero_le _) ho
              obtain ⟨m, HM⟩ : ∃ m, HeldR (p = m + 1) := ⟨p - 1, by unfold HeldR; omega⟩
              have wq : IntKind.u64.wrap ((p : Int) - 1) = (m : Int) := by
                rw [unhideR HM, show ((m + 1 : Nat) : Int) - 1 = (m : Int) by omega]
                exact wrapU (by have := unhideR HM; have := unhideR HQl; omega)
              obtain ⟨r2, HR2⟩ : ∃ r2, HeldR (r2 = r3 + y1) := ⟨_, rfl⟩
              have wr2 : IntKind.u64.wrap ((r3 : Int) + (y1 : Int)) = (r2 : Int) := by
                rw [addNN, ← unhideR HR2]
                exact wrapU (by have := unhideR HR2; have := (unhideR HDg).rl; have := (unhideR HD).y1l; omega)
              by_cases hb : 4294967296 ≤ r2
              · have tb : decide (4294967296 ≤ (r2 : Int)) = true := decide_eq_true (by omega)
                have HQ : HeldR (m = (u2 * 4294967296 + e0) / (y1 * 4294967296 + y0)) := by
                  have := (unhideR HDg).broke (unhideR HD).y0l (by rw [← (unhideR HD).sum]; exact ul2) ho (by have := unhideR HR2; omega)
                  have := unhideR HM
                  unfold HeldR
                  omega
                clear HDg HM HR2 HQl ho hq0 hb
                obtain ⟨V1, V2, V3, V4, V5, v1, v2, v3, v4, v5, v6, v7⟩ := div_end (unhideR HD) (unhideR HQ1) (unhideR HU2) (unhideR HQ)
                clear HQ HQ1 HU2 ul2
                rw [unhideR HZ1] at v2
                rw [unhideR HZ2] at v7
                go_wp2
                go_ret2
                exact ⟨rfl, Below.refl _ _⟩
              · have tb : decide (4294967296 ≤ (r2 : Int)) = false := decide_eq_false (by omega)
                have HN : HeldR (Digit u2 e0 y1 y0 4294967296 m r2) := by
                  have := (unhideR HDg).next ho (by have := unhideR HR2; omega)
                  rw [unhideR HM, Nat.add_sub_cancel, ← unhideR HR2] at this
                  exact this
                go_wp2
                exact ⟨⟨m, r2, rfl, rfl, HN⟩, by have := unhideR HM; simp [intOf]; omega⟩
            · have tk : decide (4294967296 ≤ (p : Int)) = false := decide_eq_false (by omega)
              have hsm := (unhideR HDg).small (by omega) (unhideR HD).y0l
              obtain ⟨P, HP⟩ : ∃ P, HeldR (P = p * y0) := ⟨_, rfl⟩
              obtain ⟨R, HRR⟩ : ∃ R, HeldR (R = 4294967296 * r3) := ⟨_, rfl⟩
              obtain ⟨T, HT⟩ : ∃ T, HeldR (T = R + e0) := ⟨_, rfl⟩
              have w1' : IntKind.u64.wrap ((p : Int) * (y0 : Int)) = (P : Int) := by
                rw [mulNN, ← unhideR HP]
                exact wrapU (by have := unhideR HP; omega)
              have w2' : IntKind.u64.wrap (4294967296 * (r3 : Int)) = (R : Int) := by
                rw [IntKind.wrap_u64]
                have := unhideR HRR
                have := (unhideR HDg).rl
                omega
              have w3' : IntKind.u64.wrap ((R : Int) + (e0 : Int)) = (T : Int) := by
                rw [addNN, ← unhideR HT]
                exact wrapU (by have := unhideR HT; have := unhideR HRR; have := (unhideR HDg).rl; have := (unhideR HD).e0l; omega)
              by_cases ht : T < P
              · have tp : decide ((T : Int) < (P : Int)) = true := decide_eq_true (by omega)
                have ho := (unhideR HDg).over (by rw [← (unhideR HD).sum]; exact ul2) (unhideR HD).e0l (.inr (by have := unhideR HT; have := unhideR HP; have := unhideR HRR; omega))
                clear hsm HP HRR HT
                have hq0 : 0 < p := Nat.lt_of_le_of_lt (Nat.zero_le _) ho
                obtain ⟨m, HM⟩ : ∃ m, HeldR (p = m + 1) := ⟨p - 1, by unfold HeldR; omega⟩
                have wq : IntKind.u64.wrap ((p : Int) - 1) = (m : Int) := by
                  rw [unhideR HM, show ((m + 1 : Nat) : Int) - 1 = (m : Int) by omega]
                  exact wrapU (by have := unhideR HM; have := unhideR HQl; omega)
                obtain ⟨r2, HR2⟩ : ∃ r2, HeldR (r2 = r3 + y1) := ⟨_, rfl⟩
                have wr2 : IntKind.u64.wrap ((r3 : Int) + (y1 : Int)) = (r2 : Int) := by
                  rw [addNN, ← unhideR HR2]
                  exact wrapU (by have := unhideR HR2; have := (unhideR HDg).rl; have := (unhideR HD).y1l; omega)
                by_cases hb : 4294967296 ≤ r2
                · have tb : decide (4294967296 ≤ (r2 : Int)) = true := decide_eq_true (by omega)
                  have HQ : HeldR (m = (u2 * 4294967296 + e0) / (y1 * 4294967296 + y0)) := by
                    have := (unhideR HDg).broke (unhideR HD).y0l (by rw [← (unhideR HD).sum]; exact ul2) ho (by have := unhideR HR2; omega)
                    have := unhideR HM
                    unfold HeldR
                    omega
                  clear HDg HM HR2 HQl ho hq0 hb
                  obtain ⟨V1, V2, V3, V4, V5, v1, v2, v3, v4, v5, v6, v7⟩ := div_end (unhideR HD) (unhideR HQ1) (unhideR HU2) (unhideR HQ)
                  clear HQ HQ1 HU2 ul2
                  rw [unhideR HZ1] at v2
                  rw [unhideR HZ2] at v7
                  go_wp2
                  go_ret2
                  exact ⟨rfl, Below.refl _ _⟩
                · have tb : decide (4294967296 ≤ (r2 : Int)) = false := decide_eq_false (by omega)
                  have HN : HeldR (Digit u2 e0 y1 y0 4294967296 m r2) := by
                    have := (unhideR HDg).next ho (by have := unhideR HR2; omega)
                    rw [unhideR HM, Nat.add_sub_cancel, ← unhideR HR2] at this
                    exact this
                  go_wp2
                  exact ⟨⟨m, r2, rfl, rfl, HN⟩, by have := unhideR HM; simp [intOf]; omega⟩
              · have tp : decide ((T : Int) < (P : Int)) = false := decide_eq_false (by omega)
                have HQ : HeldR (p = (u2 * 4294967296 + e0) / (y1 * 4294967296 + y0)) :=
                  (unhideR HDg).done (by omega) (by decide) (by have := unhideR HT; have := unhideR HP; have := unhideR HRR; omega)
                clear hsm HP HRR HT HDg HQl
                obtain ⟨V1, V2, V3, V4, V5, v1, v2, v3, v4, v5, v6, v7⟩ := div_end (unhideR HD) (unhideR HQ1) (unhideR HU2) (unhideR HQ)
                clear HQ HQ1 HU2 ul2
                rw [unhideR HZ1] at v2
                rw [unhideR HZ2] at v7
                go_wp2
                go_ret2
                exact ⟨rfl, Below.refl _ _⟩
        · have tb : decide (4294967296 ≤ (r2 : Int)) = false := decide_eq_false (by omega)
          have HN : HeldR (Digit u e1 y1 y0 4294967296 m r2) := by
            have := (unhideR HDg).next ho (by have := unhideR HR2; omega)
            rw [unhideR HM, Nat.add_sub_cancel, ← unhideR HR2] at this
            exact this
          go_wp2
          exact ⟨⟨m, r2, rfl, rfl, HN⟩, by have := unhideR HM; simp [intOf]; omega⟩
      · have tk : decide (4294967296 ≤ (q : Int)) = false := decide_eq_false (by omega)
        have hsm := (unhideR HDg).small (by omega) (unhideR HD).y0l
        obtain ⟨P, HP⟩ : ∃ P, HeldR (P = q * y0) := ⟨_, rfl⟩
        obtain ⟨R, HRR⟩ : ∃ R, HeldR (R = 4294967296 * r) := ⟨_, rfl⟩
        obtain ⟨T, HT⟩ : ∃ T, HeldR (T = R + e1) := ⟨_, rfl⟩
        have w1' : IntKind.u64.wrap ((q : Int) * (y0 : Int)) = (P : Int) := by
          rw [mulNN, ← unhideR HP]
          exact wrapU (by have := unhideR HP; omega)
        have w2' : IntKind.u64.wrap (4294967296 * (r : Int)) = (R : Int) := by
          rw [IntKind.wrap_u64]
          have := unhideR HRR
          have := (unhideR HDg).rl
          omega
        have w3' : IntKind.u64.wrap ((R : Int) + (e1 : Int)) = (T : Int) := by
          rw [addNN, ← unhideR HT]
          exact wrapU (by have := unhideR HT; have := unhideR HRR; have := (unhideR HDg).rl; have := (unhideR HD).e1l; omega)
        by_cases ht : T < P
        · have tp : decide ((T : Int) < (P : Int)) = true := decide_eq_true (by omega)
          have ho := (unhideR HDg).over (by rw [← (unhideR HD).sum]; exact ul1) (unhideR HD).e1l (.inr (by have := unhideR HT; have := unhideR HP; have := unhideR HRR; omega))
          clear hsm HP HRR HT
          have hq0 : 0 < q := Nat.lt_of_le_of_lt (Nat.zero_le _) ho
          obtain ⟨m, HM⟩ : ∃ m, HeldR (q = m + 1) := ⟨q - 1, by unfold HeldR; omega⟩
          have wq : IntKind.u64.wrap ((q : Int) - 1) = (m : Int) := by
            rw [unhideR HM, show ((m + 1 : Nat) : Int) - 1 = (m : Int) by omega]
            exact wrapU (by have := unhideR HM; have := unhideR HQl; omega)
          obtain ⟨r2, HR2⟩ : ∃ r2, HeldR (r2 = r + y1) := ⟨_, rfl⟩
          have wr2 : IntKind.u64.wrap ((r : Int) + (y1 : Int)) = (r2 : Int) := by
            rw [addNN, ← unhideR HR2]
            exact wrapU (by have := unhideR HR2; have := (unhideR HDg).rl; have := (unhideR HD).y1l; omega)
          by_cases hb : 4294967296 ≤ r2
          · have tb : decide (4294967296 ≤ (r2 : Int)) = true := decide_eq_true (by omega)
            have HQ : HeldR (m = (u * 4294967296 + e1) / (y1 * 4294967296 + y0)) := by
              have := (unhideR HDg).broke (unhideR HD).y0l (by rw [← (unhideR HD).sum]; exact ul1) ho (by have := unhideR HR2; omega)
              have := unhideR HM
              unfold HeldR
              omega
            clear HDg HM HR2 HQl ho hq0 hb
            have HQ1 := HQ
            obtain ⟨U1, U2, U3, u2, q2, r2', m1, m2, m3, m4, m5, m6, m7, dg, hu2, ul2⟩ := div_mid (unhideR HD) (unhideR HQ)
            have HDg2 := hideR dg
            have HU2 := hideR hu2
            clear dg hu2 HQ
            go_wp2
            go_loop [18, 16] (fun qv rv => ∃ q r : Nat, qv = .int .u64 (q : Nat) ∧ rv = .int .u64 (r : Nat) ∧ HeldR (Digit u2 e0 y1 y0 4294967296 q r)) (fun qv _ => (intOf qv).toNat)
            case atStart => exact ⟨q2, r2', rfl, rfl, HDg2⟩
            case round =>
              clear HDg2 m1 m2 m3 m4 m5 m6 m7
              obtain ⟨p, r3, rfl, rfl, HDg⟩ := hrel
              have HQl : HeldR (p ≤ 18446744073709551615) := by
                have h1 := (unhideR HDg).sum
                have h2 : p * 1 ≤ p * y1 := Nat.mul_le_mul_left p (by omega)
                unfold HeldR
                have := ul2
                have := (unhideR HD).Y2
                omega
              by_cases hk : 4294967296 ≤ p
              · have tk : decide (4294967296 ≤ (p : Int)) = true := decide_eq_true (by omega)
                have ho := (unhideR HDg).over (by rw [← (unhideR HD).sum]; exact ul2) (unhideR HD).e0l (.inl hk)
                have hq0 : 0 < p := Nat.lt_of_le_of_lt (Nat.zero_le _) ho
                obtain ⟨m, HM⟩ : ∃ m, HeldR (p = m + 1) := ⟨p - 1, by unfold HeldR; omega⟩
                have wq : IntKind.u64.wrap ((p : Int) - 1) = (m : Int) := by
                  rw [unhideR HM, show ((m + 1 : Nat) : Int) - 1 = (m : Int) by omega]
                  exact wrapU (by have := unhideR HM; have := unhideR HQl; omega)
                obtain ⟨r2, HR2⟩ : ∃ r2, HeldR (r2 = r3 + y1) := ⟨_, rfl⟩
                have wr2 : IntKind.u64.wrap ((r3 : Int) + (y1 : Int)) = (r2 : Int) := by
                  rw [addNN, ← unhideR HR2]
                  exact wrapU (by have := unhideR HR2; have := (unhideR HDg).rl; have := (unhideR HD).y1l; omega)
                by_cases hb : 4294967296 ≤ r2
                · have tb : decide (4294967296 ≤ (r2 : Int)) = true := decide_eq_true (by omega)
                  have HQ : HeldR (m = (u2 * 4294967296 + e0) / (y1 * 4294967296 + y0)) := by
                    have := (unhideR HDg).broke (unhideR HD).y0l (by rw [← (unhideR HD).sum]; exact ul2) ho (by have := unhideR HR2; omega)
                    have := unhideR HM
                    unfold HeldR
                    omega
                  clear HDg HM HR2 HQl ho hq0 hb
                  obtain ⟨V1, V2, V3, V4, V5, v1, v2, v3, v4, v5, v6, v7⟩ := div_end (unhideR HD) (unhideR HQ1) (unhideR HU2) (unhideR HQ)
                  clear HQ HQ1 HU2 ul2
                  rw [unhideR HZ1] at v2
                  rw [unhideR HZ2] at v7
                  go_wp2
                  go_ret2
                  exact ⟨rfl, Below.refl _ _⟩
                · have tb : decide (4294967296 ≤ (r2 : Int)) = false := decide_eq_false (by omega)
                  have HN : HeldR (Digit u2 e0 y1 y0 4294967296 m r2) := by
                    have := (unhideR HDg).next ho (by have := unhideR HR2; omega)
                    rw [unhideR HM, Nat.add_sub_cancel, ← unhideR HR2] at this
                    exact this
                  go_wp2
                  exact ⟨⟨m, r2, rfl, rfl, HN⟩, by have := unhideR HM; simp [intOf]; omega⟩
              · have tk : decide (4294967296 ≤ (p : Int)) = false := decide_eq_false (by omega)
                have hsm := (unhideR HDg).small (by omega) (unhideR HD).y0l
                obtain ⟨P, HP⟩ : ∃ P, HeldR (P = p * y0) := ⟨_, rfl⟩
                obtain ⟨R, HRR⟩ : ∃ R, HeldR (R = 4294967296 * r3) := ⟨_, rfl⟩
                obtain ⟨T, HT⟩ : ∃ T, HeldR (T = R + e0) := ⟨_, rfl⟩
                have w1' : IntKind.u64.wrap ((p : Int) * (y0 : Int)) = (P : Int) := by
                  rw [mulNN, ← unhideR HP]
                  exact wrapU (by have := unhideR HP; omega)
                have w2' : IntKind.u64.wrap (4294967296 * (r3 : Int)) = (R : Int) := by
                  rw [IntKind.wrap_u64]
                  have := unhideR HRR
                  have := (unhideR HDg).rl
                  omega
                have w3' : IntKind.u64.wrap ((R : Int) + (e0 : Int)) = (T : Int) := by
                  rw [addNN, ← unhideR HT]
                  exact wrapU (by have := unhideR HT; have := unhideR HRR; have := (unhideR HDg).rl; have := (unhideR HD).e0l; omega)
                by_cases ht : T < P
                · have tp : decide ((T : Int) < (P : Int)) = true := decide_eq_true (by omega)
                  have ho := (unhideR HDg).over (by rw [← (unhideR HD).sum]; exact ul2) (unhideR HD).e0l (.inr (by have := unhideR HT; have := unhideR HP; have := unhideR HRR; omega))
                  clear hsm HP HRR HT
                  have hq0 : 0 < p := Nat.lt_of_le_of_lt (Nat.zero_le _) ho
                  obtain ⟨m, HM⟩ : ∃ m, HeldR (p = m + 1) := ⟨p - 1, by unfold HeldR; omega⟩
                  have wq : IntKind.u64.wrap ((p : Int) - 1) = (m : Int) := by
                    rw [unhideR HM, show ((m + 1 : Nat) : Int) - 1 = (m : Int) by omega]
                    exact wrapU (by have := unhideR HM; have := unhideR HQl; omega)
                  obtain ⟨r2, HR2⟩ : ∃ r2, HeldR (r2 = r3 + y1) := ⟨_, rfl⟩
                  have wr2 : IntKind.u64.wrap ((r3 : Int) + (y1 : Int)) = (r2 : Int) := by
                    rw [addNN, ← unhideR HR2]
                    exact wrapU (by have := unhideR HR2; have := (unhideR HDg).rl; have := (unhideR HD).y1l; omega)
                  by_cases hb : 4294967296 ≤ r2
                  · have tb : decide (4294967296 ≤ (r2 : Int)) = true := decide_eq_true (by omega)
                    have HQ : HeldR (m = (u2 * 4294967296 + e0) / (y1 * 4294967296 + y0)) := by
                      have := (unhideR HDg).broke (unhideR HD).y0l (by rw [← (unhideR HD).sum]; exact ul2) ho (by have := unhideR HR2; omega)
                      have := unhideR HM
                      unfold HeldR
                      omega
                    clear HDg HM HR2 HQl ho hq0 hb
                    obtain ⟨V1, V2, V3, V4, V5, v1, v2, v3, v4, v5, v6, v7⟩ := div_end (unhideR HD) (unhideR HQ1) (unhideR HU2) (unhideR HQ)
                    clear HQ HQ1 HU2 ul2
                    rw [unhideR HZ1] at v2
                    rw [unhideR HZ2] at v7
                    go_wp2
                    go_ret2
                    exact ⟨rfl, Below.refl _ _⟩
                  · have tb : decide (4294967296 ≤ (r2 : Int)) = false := decide_eq_false (by omega)
                    have HN : HeldR (Digit u2 e0 y1 y0 4294967296 m r2) := by
                      have := (unhideR HDg).next ho (by have := unhideR HR2; omega)
                      rw [unhideR HM, Nat.add_sub_cancel, ← unhideR HR2] at this
                      exact this
                    go_wp2
                    exact ⟨⟨m, r2, rfl, rfl, HN⟩, by have := unhideR HM; simp [intOf]; omega⟩
                · have tp : decide ((T : Int) < (P : Int)) = false := decide_eq_false (by omega)
                  have HQ : HeldR (p = (u2 * 4294967296 + e0) / (y1 * 4294967296 + y0)) :=
                    (unhideR HDg).done (by omega) (by decide) (by have := unhideR HT; have := unhideR HP; have := unhideR HRR; omega)
                  clear hsm HP HRR HT HDg HQl
                  obtain ⟨V1, V2, V3, V4, V5, v1, v2, v3, v4, v5, v6, v7⟩ := div_end (unhideR HD) (unhideR HQ1) (unhideR HU2) (unhideR HQ)
                  clear HQ HQ1 HU2 ul2
                  rw [unhideR HZ1] at v2
                  rw [unhideR HZ2] at v7
                  go_wp2
                  go_ret2
                  exact ⟨rfl, Below.refl _ _⟩
          · have tb : decide (4294967296 ≤ (r2 : Int)) = false := decide_eq_false (by omega)
            have HN : HeldR (Digit u e1 y1 y0 4294967296 m r2) := by
              have := (unhideR HDg).next ho (by have := unhideR HR2; omega)
              rw [unhideR HM, Nat.add_sub_cancel, ← unhideR HR2] at this
              exact this
            go_wp2
            exact ⟨⟨m, r2, rfl, rfl, HN⟩, by have := unhideR HM; simp [intOf]; omega⟩
        · have tp : decide ((T : Int) < (P : Int)) = false := decide_eq_false (by omega)
          have HQ : HeldR (q = (u * 4294967296 + e1) / (y1 * 4294967296 + y0)) :=
            (unhideR HDg).done (by omega) (by decide) (by have := unhideR HT; have := unhideR HP; have := unhideR HRR; omega)
          clear hsm HP HRR HT HDg HQl
          have HQ1 := HQ
          obtain ⟨U1, U2, U3, u2, q2, r2', m1, m2, m3, m4, m5, m6, m7, dg, hu2, ul2⟩ := div_mid (unhideR HD) (unhideR HQ)
          have HDg2 := hideR dg
          have HU2 := hideR hu2
          clear dg hu2 HQ
          go_wp2
          go_loop [18, 16] (fun qv rv => ∃ q r : Nat, qv = .int .u64 (q : Nat) ∧ rv = .int .u64 (r : Nat) ∧ HeldR (Digit u2 e0 y1 y0 4294967296 q r)) (fun qv _ => (intOf qv).toNat)
          case atStart => exact ⟨q2, r2', rfl, rfl, HDg2⟩
          case round =>
            clear HDg2 m1 m2 m3 m4 m5 m6 m7
            obtain ⟨p, r3, rfl, rfl, HDg⟩ := hrel
            have HQl : HeldR (p ≤ 18446744073709551615) := by
              have h1 := (unhideR HDg).sum
              have h2 : p * 1 ≤ p * y1 := Nat.mul_le_mul_left p (by omega)
              unfold HeldR
              have := ul2
              have := (unhideR HD).Y2
              omega
            by_cases hk : 4294967296 ≤ p
            · have tk : decide (4294967296 ≤ (p : Int)) = true := decide_eq_true (by omega)
              have ho := (unhideR HDg).over (by rw [← (unhideR HD).sum]; exact ul2) (unhideR HD).e0l (.inl hk)
              have hq0 : 0 < p := Nat.lt_of_le_of_lt (Nat.zero_le _) ho
              obtain ⟨m, HM⟩ : ∃ m, HeldR (p = m + 1) := ⟨p - 1, by unfold HeldR; omega⟩
              have wq : IntKind.u64.wrap ((p : Int) - 1) = (m : Int) := by
                rw [unhideR HM, show ((m + 1 : Nat) : Int) - 1 = (m : Int) by omega]
                exact wrapU (by have := unhideR HM; have := unhideR HQl; omega)
              obtain ⟨r2, HR2⟩ : ∃ r2, HeldR (r2 = r3 + y1) := ⟨_, rfl⟩
              have wr2 : IntKind.u64.wrap ((r3 : Int) + (y1 : Int)) = (r2 : Int) := by
                rw [addNN, ← unhideR HR2]
                exact wrapU (by have := unhideR HR2; have := (unhideR HDg).rl; have := (unhideR HD).y1l; omega)
              by_cases hb : 4294967296 ≤ r2
              · have tb : decide (4294967296 ≤ (r2 : Int)) = true := decide_eq_true (by omega)
                have HQ : HeldR (m = (u2 * 4294967296 + e0) / (y1 * 4294967296 + y0)) := by
                  have := (unhideR HDg).broke (unhideR HD).y0l (by rw [← (unhideR HD).sum]; exact ul2) ho (by have := unhideR HR2; omega)
                  have := unhideR HM
                  unfold HeldR
                  omega
                clear HDg HM HR2 HQl ho hq0 hb
                obtain ⟨V1, V2, V3, V4, V5, v1, v2, v3, v4, v5, v6, v7⟩ := div_end (unhideR HD) (unhideR HQ1) (unhideR HU2) (unhideR HQ)
                clear HQ HQ1 HU2 ul2
                rw [unhideR HZ1] at v2
                rw [unhideR HZ2] at v7
                go_wp2
                go_ret2
                exact ⟨rfl, Below.refl _ _⟩
              · have tb : decide (4294967296 ≤ (r2 : Int)) = false := decide_eq_false (by omega)
                have HN : HeldR (Digit u2 e0 y1 y0 4294967296 m r2) := by
                  have := (unhideR HDg).next ho (by have := unhideR HR2; omega)
                  rw [unhideR HM, Nat.add_sub_cancel, ← unhideR HR2] at this
                  exact this
                go_wp2
                exact ⟨⟨m, r2, rfl, rfl, HN⟩, by have := unhideR HM; simp [intOf]; omega⟩
            · have tk : decide (4294967296 ≤ (p : Int)) = false := decide_eq_false (by omega)
              have hsm := (unhideR HDg).small (by omega) (unhideR HD).y0l
              obtain ⟨P, HP⟩ : ∃ P, HeldR (P = p * y0) := ⟨_, rfl⟩
              obtain ⟨R, HRR⟩ : ∃ R, HeldR (R = 4294967296 * r3) := ⟨_, rfl⟩
              obtain ⟨T, HT⟩ : ∃ T, HeldR (T = R + e0) := ⟨_, rfl⟩
              have w1' : IntKind.u64.wrap ((p : Int) * (y0 : Int)) = (P : Int) := by
                rw [mulNN, ← unhideR HP]
                exact wrapU (by have := unhideR HP; omega)
              have w2' : IntKind.u64.wrap (4294967296 * (r3 : Int)) = (R : Int) := by
                rw [IntKind.wrap_u64]
                have := unhideR HRR
                have := (unhideR HDg).rl
                omega
              have w3' : IntKind.u64.wrap ((R : Int) + (e0 : Int)) = (T : Int) := by
                rw [addNN, ← unhideR HT]
                exact wrapU (by have := unhideR HT; have := unhideR HRR; have := (unhideR HDg).rl; have := (unhideR HD).e0l; omega)
              by_cases ht : T < P
              · have tp : decide ((T : Int) < (P : Int)) = true := decide_eq_true (by omega)
                have ho := (unhideR HDg).over (by rw [← (unhideR HD).sum]; exact ul2) (unhideR HD).e0l (.inr (by have := unhideR HT; have := unhideR HP; have := unhideR HRR; omega))
                clear hsm HP HRR HT
                have hq0 : 0 < p := Nat.lt_of_le_of_lt (Nat.zero_le _) ho
                obtain ⟨m, HM⟩ : ∃ m, HeldR (p = m + 1) := ⟨p - 1, by unfold HeldR; omega⟩
                have wq : IntKind.u64.wrap ((p : Int) - 1) = (m : Int) := by
                  rw [unhideR HM, show ((m + 1 : Nat) : Int) - 1 = (m : Int) by omega]
                  exact wrapU (by have := unhideR HM; have := unhideR HQl; omega)
                obtain ⟨r2, HR2⟩ : ∃ r2, HeldR (r2 = r3 + y1) := ⟨_, rfl⟩
                have wr2 : IntKind.u64.wrap ((r3 : Int) + (y1 : Int)) = (r2 : Int) := by
                  rw [addNN, ← unhideR HR2]
                  exact wrapU (by have := unhideR HR2; have := (unhideR HDg).rl; have := (unhideR HD).y1l; omega)
                by_cases hb : 4294967296 ≤ r2
                · have tb : decide (4294967296 ≤ (r2 : Int)) = true := decide_eq_true (by omega)
                  have HQ : HeldR (m = (u2 * 4294967296 + e0) / (y1 * 4294967296 + y0)) := by
                    have := (unhideR HDg).broke (unhideR HD).y0l (by rw [← (unhideR HD).sum]; exact ul2) ho (by have := unhideR HR2; omega)
                    have := unhideR HM
                    unfold HeldR
                    omega
                  clear HDg HM HR2 HQl ho hq0 hb
                  obtain ⟨V1, V2, V3, V4, V5, v1, v2, v3, v4, v5, v6, v7⟩ := div_end (unhideR HD) (unhideR HQ1) (unhideR HU2) (unhideR HQ)
                  clear HQ HQ1 HU2 ul2
                  rw [unhideR HZ1] at v2
                  rw [unhideR HZ2] at v7
                  go_wp2
                  go_ret2
                  exact ⟨rfl, Below.refl _ _⟩
                · have tb : decide (4294967296 ≤ (r2 : Int)) = false := decide_eq_false (by omega)
                  have HN : HeldR (Digit u2 e0 y1 y0 4294967296 m r2) := by
                    have := (unhideR HDg).next ho (by have := unhideR HR2; omega)
                    rw [unhideR HM, Nat.add_sub_cancel, ← unhideR HR2] at this
                    exact this
                  go_wp2
                  exact ⟨⟨m, r2, rfl, rfl, HN⟩, by have := unhideR HM; simp [intOf]; omega⟩
              · have tp : decide ((T : Int) < (P : Int)) = false := decide_eq_false (by omega)
                have HQ : HeldR (p = (u2 * 4294967296 + e0) / (y1 * 4294967296 + y0)) :=
                  (unhideR HDg).done (by omega) (by decide) (by have := unhideR HT; have := unhideR HP; have := unhideR HRR; omega)
                clear hsm HP HRR HT HDg HQl
                obtain ⟨V1, V2, V3, V4, V5, v1, v2, v3, v4, v5, v6, v7⟩ := div_end (unhideR HD) (unhideR HQ1) (unhideR HU2) (unhideR HQ)
                clear HQ HQ1 HU2 ul2
                rw [unhideR HZ1] at v2
                rw [unhideR HZ2] at v7
                go_wp2
                go_ret2
                exact ⟨rfl, Below.refl _ _⟩
end Go.Proofs.YtmgnobeaacjdjajDoor
