/-
  The program's angle of a point, by its contract.
-/
import Derived.Test.YtfamndjiaebmbaeDSin
import Derived.Test.YtfamndjiaebmbaeAbsZ
import Derived.Test.YtfamndjiaebmbaeLwOf
import Derived.Deep.RegionWith
import Derived.Deep.QuietTactic
import Derived.Laws.FloatBits
namespace Go.Proofs.Ytfamndjiaebmbae
open Go Go.RowKit

theorem isFinite_any (x : Nat) (w : World) (hx : Lw x) : Calls Try.prog 46 #[.float .f64 x] w fun e w' => e = .returned (.bool (finB x)) ∧ w' = w := by
  rw [fin_parts]
  have hn := fun v => isNaN_any x v
  cases h : nanI x with
  | true =>
    rw [h] at hn
    go_enter Try.func46, Try.ntmps46
    go_wp2_with (first
      | (go_at_call 52; refine (hn _).mono ?_; rintro e w1 ⟨rfl, rfl⟩))
    go_ret
    exact ⟨rfl, rfl⟩
  | false =>
    rw [h] at hn
    have hi := fun v => isInf_any x v (hx.resolve_left (by rw [h]; exact Bool.false_ne_true)) h
    go_enter Try.func46, Try.ntmps46
    go_wp2_with (first
      | (go_at_call 52; refine (hn _).mono ?_; rintro e w1 ⟨rfl, rfl⟩)
      | (go_at_call 53; refine (hi _).mono ?_; rintro e w1 ⟨rfl, rfl⟩))
    go_ret
    exact ⟨rfl, rfl⟩

set_option maxHeartbeats 4000000 in
theorem first_any (u v : Nat) (w : World) :
    Calls Try.prog 47 #[.float .f64 v, .float .f64 u] w fun e w' => e = .returned (.int .i64 (bisV u v)) ∧ Below w.heap.size w w' := by
  have hR := bisV_range u v
  have hR2 : bis (tst u v) 39 0 324000000001 = bisV u v := rfl
  generalize bisV u v = R at *
  have htst := fun (m : Int) (wa wb : World) => tst_is (u := u) (v := v) (m := m) (fnum_is .mul (sinV m) u wa) (fnum_is .mul (cosV m) v wb)
  generalize tst u v = T at hR2 htst
  have hm := fun t x y v => run_fmul (P := Try.prog) t x y v
  have HR := hideF hR2
  clear hR2
  go_enter Try.func47, Try.ntmps47
  go_wp2
  go_loopw [5, 6, 7] (fun lo hi _ wl => ∃ a b : Int, lo = .int .i64 a ∧ hi = .int .i64 b ∧ 0 ≤ a ∧ a < b ∧ b ≤ 324000000001 ∧ HeldF (bis T 39 a b = R) ∧ HeldF (Below w.heap.size w wl)) (fun lo hi _ _ => (RowKit.intOf hi - RowKit.intOf lo).toNat)
  case atStart => exact ⟨0, 324000000001, rfl, rfl, by omega, by omega, by omega, HR, Below.refl _ _⟩
  case round =>
    obtain ⟨a, b, rfl, rfl, ha, hab, hb, HB, hbe⟩ := hrel
    by_cases hgt : 1 < b - a
    · have hst := bis_step T a b hgt (by omega)
      rw [unhideF HB] at hst
      have hm1 : a < (a + b) / 2 := by omega
      have hm2 : (a + b) / 2 < b := by omega
      go_wp2_with fail
      refine (sin_any _ _).mono ?_
      rintro e w2 ⟨rfl, b2⟩
      have B2 := hideF ((unhideF hbe).trans (b2.mono (unhideF hbe).size))
      clear b2 hbe
      go_wp2_with fail
      refine (cos_any _ _).mono ?_
      rintro e w3 ⟨rfl, b3⟩
      have B3 := hideF (below_on (unhideF B2) b3 (unhideF B2).size)
      clear b3 B2
      generalize (a + b) / 2 = mid at *
      have ht := htst mid
      clear htst
      cases hT : T mid
      · rw [hT] at ht hst
        simp only [Bool.false_eq_true, if_false] at hst
        have HS := hideF hst.symm
        clear hst
        go_wp2
        go_roundw
        case rel => exact ⟨a, mid, rfl, rfl, by omega, by omega, by omega, HS, below_drewN (unhideF B3) _⟩
        case measure => simp [RowKit.intOf]; omega
      · rw [hT] at ht hst
        simp only [if_true] at hst
        have HS := hideF hst.symm
        clear hst
        go_wp2
        go_roundw
        case rel => exact ⟨mid, b, rfl, rfl, by omega, by omega, by omega, HS, below_drewN (unhideF B3) _⟩
        case measure => simp [RowKit.intOf]; omega
    · have hst := bis_stop T 39 a b hgt
      rw [unhideF HB] at hst
      have hst2 : a = R := hst.symm
      clear hst HB
      rw [hst2] at hgt ⊢
      clear hst2
      go_wp2
      go_ret
      exact ⟨rfl, unhideF hbe⟩

set_option maxHeartbeats 4000000 in
theorem angle_no (y x : Nat) (w : World) (hy : Lw y) (hx : Lw x) (h : hasV y x = false) :
    Calls Try.prog 24 #[.float .f64 y, .float .f64 x] w fun e w' => e = .returned (.tuple #[.int .i64 0, .bool false]) ∧ Below w.heap.size w w' := by
  have h : finB x = false ∨ (finB x = true ∧ finB y = false) ∨ (finB x = true ∧ finB y = true ∧ eqz x = true ∧ eqz y = true) := by
    unfold hasV at h
    revert h
    cases finB x <;> cases finB y <;> cases eqz x <;> cases eqz y <;> simp
  have fx := fun v => isFinite_any x v hx
  have fy := fun v => isFinite_any y v hy
  unfold eqz at h
  generalize finB x = bx at *
  generalize finB y = bY at *
  rcases h with rfl | ⟨rfl, rfl⟩ | ⟨rfl, rfl, h1, h2⟩
  all_goals
    go_enter Try.func24, Try.ntmps24
    go_wp2_with (first
      | (go_at_call_of 46 (Value.float .f64 x); refine (fx _).mono ?_; rintro e w1 ⟨rfl, rfl⟩)
      | (go_at_call_of 46 (Value.float .f64 y); refine (fy _).mono ?_; rintro e w1 ⟨rfl, rfl⟩))
    go_ret2
    exact ⟨rfl, Below.refl _ _⟩
theorem any_ord (o : Ordering) : o = .lt ∨ o = .eq ∨ o = .gt := by cases o <;> simp
theorem fin_order (x : Nat) (h : finB x = true) : FloatKind.f64.format.order x 0 = some .lt ∨ FloatKind.f64.format.order x 0 = some .eq ∨ FloatKind.f64.format.order x 0 = some .gt := by
  obtain ⟨_, m, i, e, _⟩ := read_rung x h
  obtain ⟨t, e0⟩ := read_zero (z := 0) (.inl rfl)
  unfold Ieee.Format.order
  rw [e, e0]
  simp only [Ieee.Datum.order, Option.some.injEq]
  exact any_ord _

set_option maxHeartbeats 4000000 in
theorem angle_yes (y x : Nat) (w : World) (hy : Lw y) (hx : Lw x) (h : hasV y x = true) :
    Calls Try.prog 24 #[.float .f64 y, .float .f64 x] w fun e w' => e = .returned (.tuple #[.int .i64 (quad (ltz x) (ltz y) (bisV (szB x) (szB y))), .bool true]) ∧ Below w.heap.size w w' := by
  have h : finB x = true ∧ finB y = true ∧ (eqz x && eqz y) = false := by
    unfold hasV at h
    revert h
    cases finB x <;> cases finB y <;> cases eqz x <;> cases eqz y <;> simp
  obtain ⟨gx, gy, he⟩ := h
  have fx := fun v => isFinite_any x v hx
  have fy := fun v => isFinite_any y v hy
  rw [gx] at fx
  rw [gy] at fy
  replace hx := hx.lt gx
  replace hy := hy.lt gy
  have hR := bisV_range (szB x) (szB y)
  have hcall := fun v => first_any (absB x) (absB y) v
  rw [bisV_abs hx hy gx gy] at hcall
  generalize bisV (szB x) (szB y) = R at *
  have ax := fun v => abs_any x v hx
  have ay := fun v => abs_any y v hy
  generalize absB x = x' at *
  generalize absB y = y' at *
  have hmod : (1296000000000 - R).tmod 1296000000000 = nrm (1296000000000 - R) := Int.tmod_eq_emod_of_nonneg (by omega)
  have ox := fin_order x gx
  have oy := fin_order y gy
  unfold ltz
  unfold eqz at he
  clear gx gy
  rcases ox with ox | ox | ox <;> rcases oy with oy | oy | oy <;> rw [ox, oy] at he ⊢ <;> simp [quad] at he ⊢
  all_goals
    generalize nrm (1296000000000 - R) = N at *
    go_enter Try.func24, Try.ntmps24
    go_wp2_with (first
      | (go_at_call_of 46 (Value.float .f64 x); refine (fx _).mono ?_; rintro e w1 ⟨rfl, rfl⟩)
      | (go_at_call_of 46 (Value.float .f64 y); refine (fy _).mono ?_; rintro e w1 ⟨rfl, rfl⟩)
      | (go_at_call_of 48 (Value.float .f64 x); refine (ax _).mono ?_; rintro e w1 ⟨rfl, rfl⟩)
      | (go_at_call_of 48 (Value.float .f64 y); refine (ay _).mono ?_; rintro e w1 ⟨rfl, rfl⟩)
      | (go_at_call 47; refine (hcall _).mono ?_; rintro e w2 ⟨rfl, b2⟩; have B2 := hideF b2; clear b2))
    go_ret2
    exact ⟨rfl, unhideF B2⟩
theorem angle_lw (y x : Nat) (w : World) (hy : Lw y) (hx : Lw x) :
    Calls Try.prog 24 #[.float .f64 y, .float .f64 x] w fun e w' => e = .returned (.tuple #[.int .i64 (angV y x), .bool (hasV y x)]) ∧ Below w.heap.size w w' := by
  cases h : hasV y x
  · have e : angV y x = 0 := by unfold angV; rw [h]; rfl
    rw [e]
    exact angle_no y x w hy hx h
  · have e : angV y x = quad (ltz x) (ltz y) (bisV (szB x) (szB y)) := by unfold angV; rw [h, if_pos rfl]
    rw [e]
    exact angle_yes y x w hy hx h
theorem angle_any (y x : Nat) (w : World) (hy : y < 18446744073709551616) (hx : x < 18446744073709551616) :
    Calls Try.prog 24 #[.float .f64 y, .float .f64 x] w fun e w' => e = .returned (.tuple #[.int .i64 (angV y x), .bool (hasV y x)]) ∧ Below w.heap.size w w' := angle_lw y x w (.inr hy) (.inr hx)
end Go.Proofs.Ytfamndjiaebmbae
