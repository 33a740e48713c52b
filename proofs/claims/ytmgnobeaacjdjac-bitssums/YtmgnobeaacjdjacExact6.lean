/-
  The program's exact sums: their bits, by the contracts.
-/
import Derived.Test.YtmgnobeaacjdjacExact5
import Derived.Test.YtmgnobeaacjdjacShelf
namespace Go.Proofs.Ytmgnobeaacjdjac
open Go Go.RowKit

theorem or_low {m a b : Nat} (ha : a < 2 ^ m) : a ||| 2 ^ m * b = a + 2 ^ m * b := by
  have h := Nat.two_pow_add_eq_or_of_lt ha b
  rw [Nat.or_comm, ← h, Nat.add_comm]
theorem from_or {x y j : Nat} (hx : x < 18446744073709551616) (hj : j < 64) : x / 2 ^ j ||| y * 2 ^ (64 - j) % 18446744073709551616 = x / 2 ^ j + y * 2 ^ (64 - j) % 18446744073709551616 := by
  have e : (18446744073709551616 : Nat) = 2 ^ (64 - j) * 2 ^ j := by rw [← Nat.pow_add, show 64 - j + j = 64 by omega]
  have e3 : y * 2 ^ (64 - j) % 18446744073709551616 = 2 ^ (64 - j) * (y % 2 ^ j) := by
    rw [e, Nat.mul_comm y, Nat.mul_mod_mul_left]
  have h1 : x / 2 ^ j < 2 ^ (64 - j) := Nat.div_lt_of_lt_mul (by rw [Nat.mul_comm, ← e]; exact hx)
  rw [e3, or_low h1]
theorem from_is {v : Nat → Nat} (hv : ∀ j, v j < 18446744073709551616) {k j : Nat} (hk : k + 1 < 34) (hj : j < 64) :
    v k / 2 ^ j ||| v (k + 1) * 2 ^ (64 - j) % 18446744073709551616 = dv 64 v 34 / 2 ^ (64 * k + j) % 18446744073709551616 := by
  rw [from_or (hv k) hj]
  have h := dv_from (b := 64) (v := v) (k := k) (j := j) (n := 34) hk hj fun i _ => by rw [two64]; exact hv i
  rw [two64] at h
  exact h.symm
theorem bit_is {v : Nat → Nat} (hv : ∀ j, v j < 18446744073709551616) {k j : Nat} (hk : k < 34) (hj : j < 64) : v k / 2 ^ j % 2 = dv 64 v 34 / 2 ^ (64 * k + j) % 2 :=
  (dv_bit (b := 64) (v := v) hk hj fun i _ => by rw [two64]; exact hv i).symm
theorem below_is {v : Nat → Nat} (hv : ∀ j, v j < 18446744073709551616) {k j : Nat} (hk : k < 34) (hj : j < 64) :
    dv 64 v 34 % 2 ^ (64 * k + j) = dv 64 v k + 2 ^ (64 * k) * (v k % 2 ^ j) := dv_below (b := 64) (v := v) hk hj fun i _ => by rw [two64]; exact hv i

set_option maxHeartbeats 2000000 in
theorem exact_from (g : Nat) (v : Nat → Nat) (w : World) (up r : Nat) (hs : Sum64 w g v) (hu : up ≤ 2045) (hr : r = dv 64 v 34 / 2 ^ up % 18446744073709551616) :
    Calls Try.prog 51 #[.pointer (some ⟨g, 0, none⟩), .int .i64 up] w fun e w' => e = .returned (.int .u64 r) ∧ ∃ n, w' = w.drewN n := by
  have h1 : (up : Int).tdiv 64 = ((up / 64 : Nat) : Int) := by rw [Int.tdiv_eq_ediv_of_nonneg (by omega)]; omega
  have h2 : (up : Int).tmod 64 = ((up % 64 : Nat) : Int) := by rw [Int.tmod_eq_emod_of_nonneg (by omega)]; omega
  have hup2 : up = 64 * (up / 64) + up % 64 := by omega
  have hk : up / 64 ≤ 31 := by omega
  have hn : up % 64 < 64 := by omega
  have HR := hideE hr
  clear hr
  generalize up / 64 = k at *
  generalize up % 64 = j at *
  have c0 := hs.row.cell k (by omega)
  have c1 := hs.row.cell (k + 1) (by omega)
  unfold u64v at c0 c1
  have l0 := hs.lt k
  have l1 := hs.lt (k + 1)
  have hf := from_is hs.lt (k := k) (j := j) (by omega) hn
  rw [← hup2] at hf
  have a1 : v k / 2 ^ j < 18446744073709551616 := Nat.lt_of_le_of_lt (Nat.div_le_self _ _) l0
  have a2 : v (k + 1) * 2 ^ (64 - j) % 18446744073709551616 < 18446744073709551616 := Nat.mod_lt _ (by decide)
  have e1 : (v k : Int) / 2 ^ j = ((v k / 2 ^ j : Nat) : Int) := by simp
  have e2 : IntKind.u64.wrap ((v (k + 1) : Int) * 2 ^ (64 - j)) = ((v (k + 1) * 2 ^ (64 - j) % 18446744073709551616 : Nat) : Int) := by
    rw [IntKind.wrap_u64]
    simp
  have e3 := u64_or_nat (v k / 2 ^ j) (v (k + 1) * 2 ^ (64 - j) % 18446744073709551616) a1 a2
  rw [hf, ← unhideE HR] at e3
  clear hf HR hup2
  generalize v (k + 1) * 2 ^ (64 - j) % 18446744073709551616 = y at *
  generalize v k / 2 ^ j = x at *
  have k34 : (k : Int) < 34 := by omega
  have k35 : (k : Int) + 1 < 34 := by omega
  go_enter Try.func51, Try.ntmps51
  go_wp2
  go_region
  go_wp2
  go_ret
  exact ⟨rfl, _, rfl⟩
set_option maxHeartbeats 2000000 in
theorem exact_bit (g : Nat) (v : Nat → Nat) (w : World) (up r : Nat) (hs : Sum64 w g v) (hu : up ≤ 2045) (hr : r = dv 64 v 34 / 2 ^ up % 2) :
    Calls Try.prog 52 #[.pointer (some ⟨g, 0, none⟩), .int .i64 up] w fun e w' => e = .returned (.int .u64 r) ∧ ∃ n, w' = w.drewN n := by
  have h1 : (up : Int).tdiv 64 = ((up / 64 : Nat) : Int) := by rw [Int.tdiv_eq_ediv_of_nonneg (by omega)]; omega
  have h2 : (up : Int).tmod 64 = ((up % 64 : Nat) : Int) := by rw [Int.tmod_eq_emod_of_nonneg (by omega)]; omega
  have hup2 : up = 64 * (up / 64) + up % 64 := by omega
  have hk : up / 64 ≤ 31 := by omega
  have hn : up % 64 < 64 := by omega
  have HR := hideE hr
  clear hr
  generalize up / 64 = k at *
  generalize up % 64 = j at *
  have c0 := hs.row.cell k (by omega)
  unfold u64v at c0
  have l0 := hs.lt k
  have hf := bit_is hs.lt (k := k) (j := j) (by omega) hn
  rw [← hup2] at hf
  have a1 : v k / 2 ^ j < 18446744073709551616 := Nat.lt_of_le_of_lt (Nat.div_le_self _ _) l0
  have e1 : (v k : Int) / 2 ^ j = ((v k / 2 ^ j : Nat) : Int) := by simp
  have e3 := u64_and_nat (v k / 2 ^ j) 1 a1 (by omega)
  rw [Nat.and_one_is_mod, hf, ← unhideE HR, show ((1 : Nat) : Int) = 1 by rfl] at e3
  clear hf HR hup2
  generalize v k / 2 ^ j = x at *
  have k34 : (k : Int) < 34 := by omega
  go_enter Try.func52, Try.ntmps52
  go_wp2
  go_ret
  exact ⟨rfl, 0, rfl⟩
end Go.Proofs.Ytmgnobeaacjdjac
