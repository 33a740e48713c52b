/-
  A wave's angle at a time: the program's, by contract.
-/
import Derived.Test.YtmgnobeaacjdjajDoorDv64
import Derived.Test.YtmgnobeaacjdjajDoorNrm
import Derived.Test.YtmgnobeaacjdjajDoorKitA
namespace Go.Proofs.YtmgnobeaacjdjajDoor
open Go Go.RowKit

set_option maxRecDepth 100000 in
theorem rem64_any (hi lo y : Nat) (hy : 0 < y) (hyl : y < 18446744073709551616) (hlo : lo < 18446744073709551616) (w : World) :
    Calls Tryd.prog 75 #[.int .u64 hi, .int .u64 lo, .int .u64 y] w fun e w' => e = .returned (.int .u64 (((hi * 18446744073709551616 + lo) % y : Nat) : Int)) ∧ Below w.heap.size w w' := by
  have hlt : hi % y < y := Nat.mod_lt _ hy
  have hd := div64_any (hi % y) lo y hlt hyl hlo w
  have e : (hi % y * 18446744073709551616 + lo) % y = (hi * 18446744073709551616 + lo) % y := by
    rw [Nat.add_mod, Nat.mul_mod, Nat.mod_mod, ← Nat.mul_mod, ← Nat.add_mod]
  rw [e] at hd
  have r1 : (hi : Int) % (y : Int) = ((hi % y : Nat) : Int) := (Int.natCast_emod hi y).symm
  have r2 : (hi : Int).tmod (y : Int) = ((hi % y : Nat) : Int) := (Int.tmod_eq_emod_of_nonneg (Int.natCast_nonneg hi)).trans r1
  have r3 : IntKind.u64.wrap ((hi % y : Nat) : Int) = ((hi % y : Nat) : Int) := wrapU (by omega)
  obtain ⟨r, hr⟩ : ∃ r, (hi * 18446744073709551616 + lo) % y = r := ⟨_, rfl⟩
  obtain ⟨q, hq⟩ : ∃ q, (hi % y * 18446744073709551616 + lo) / y = q := ⟨_, rfl⟩
  obtain ⟨m, hm⟩ : ∃ m, hi % y = m := ⟨_, rfl⟩
  rw [hr] at hd ⊢
  rw [hq] at hd
  rw [hm] at hd r1 r2 r3
  clear hr hq hm hlt
  have hy0 : (y : Int) ≠ 0 := by omega
  have hy1 : y ≠ 0 := by omega
  clear e hlo hyl
  go_enter Tryd.func75, Tryd.ntmps75
  go_wp2_with fail
  refine hd.mono ?_
  rintro e w1 ⟨rfl, k1⟩
  have HB := hideR k1
  clear hd k1
  go_wp2
  go_ret
  exact ⟨rfl, unhideR HB⟩
theorem nrm_prod (w t : Int) (a b : Nat) (ha : nrm w = (a : Nat)) (hb : nrm t = (b : Nat)) : nrm (w * t) = ((a * b % 1296000000000 : Nat) : Int) := by
  unfold nrm at *
  rw [Int.mul_emod, ha, hb, ← Int.natCast_mul]
  exact (Int.natCast_emod _ 1296000000000).symm
set_option maxRecDepth 100000 in
set_option maxHeartbeats 1600000 in
theorem turned_any (w t : Int) (u : World) : Calls Tryd.prog 56 #[.int .i64 w, .int .i64 t] u fun e u' => e = .returned (.int .i64 (nrm (w * t))) ∧ Below u.heap.size u u' := by
  have hn1 := fun u => norm_any w u
  have hn2 := fun u => norm_any t u
  have g1 := nrm_range w
  have g2 := nrm_range t
  obtain ⟨a, ha⟩ : ∃ a : Nat, nrm w = (a : Nat) := ⟨(nrm w).toNat, by omega⟩
  obtain ⟨b, hb⟩ : ∃ b : Nat, nrm t = (b : Nat) := ⟨(nrm t).toNat, by omega⟩
  rw [nrm_prod w t a b ha hb]
  rw [ha] at hn1 g1
  rw [hb] at hn2 g2
  have hm := fun u => mul64_any a b (by omega) (by omega) u
  have hlim : a * b < 1296000000000 * 1296000000000 := Nat.mul_lt_mul'' (by omega) (by omega)
  have hr := fun u => rem64_any (a * b / 18446744073709551616) (a * b % 18446744073709551616) 1296000000000 (by decide) (by decide) (by omega) u
  have e : a * b / 18446744073709551616 * 18446744073709551616 + a * b % 18446744073709551616 = a * b := by omega
  rw [e] at hr
  have hrl : a * b % 1296000000000 < 1296000000000 := Nat.mod_lt _ (by decide)
  have ca : IntKind.u64.wrap (a : Int) = (a : Int) := wrapU (by omega)
  have cb : IntKind.u64.wrap (b : Int) = (b : Int) := wrapU (by omega)
  clear e hlim
  obtain ⟨r, hr0⟩ : ∃ r, a * b % 1296000000000 = r := ⟨_, rfl⟩
  obtain ⟨h, hh0⟩ : ∃ h, a * b / 18446744073709551616 = h := ⟨_, rfl⟩
  obtain ⟨l, hl0⟩ : ∃ l, a * b % 18446744073709551616 = l := ⟨_, rfl⟩
  rw [hr0] at hr hrl ⊢
  rw [hh0] at hm hr
  rw [hl0] at hm hr
  clear hr0 hh0 hl0
  have cr : IntKind.i64.wrap (r : Int) = (r : Int) := iwrap (by omega) (by omega)
  clear g1 g2 ha hb
  go_enter Tryd.func56, Tryd.ntmps56
  go_wp2_with fail
  refine (hn1 _).mono ?_
  rintro e w1 ⟨rfl, rfl⟩
  go_wp2_with fail
  refine (hn2 _).mono ?_
  rintro e w1 ⟨rfl, rfl⟩
  go_wp2_with fail
  refine (hm _).mono ?_
  rintro e w1 ⟨rfl, rfl⟩
  go_wp2_with fail
  refine (hr _).mono ?_
  rintro e w2 ⟨rfl, k2⟩
  have HB := hideR k2
  clear hn1 hn2 hm hr k2
  go_wp2
  go_ret
  exact ⟨rfl, unhideR HB⟩
end Go.Proofs.YtmgnobeaacjdjajDoor
