/-
  The program's exact sums: add, by its contract.
-/
import Derived.Test.YtbobnmaeiohnnacExact2
namespace Go.Proofs.Ytbobnmaeiohnnac
open Go Go.RowKit

set_option maxHeartbeats 4000000 in
theorem exact_add (g x : Nat) (v : Nat → Nat) (w : World) (hs : Sum64 w g v) (hx : x < 18446744073709551616) (hf : isF x = true) (hb : dv 64 v 34 + U x < cap34) :
    Calls Try.prog 22 #[.pointer (some ⟨g, 0, none⟩), .float .f64 x] w fun e w' => e = .returned (.tuple #[]) ∧ ∃ v', Sum64 w' g v' ∧ dv 64 v' 34 = dv 64 v 34 + U x ∧ Only g w w' := by
  have HBB := hideE hb
  clear hb
  have hup := upU_le x hf
  have hsl := szU_lt x
  have hU : U x = szU x * 2 ^ upU x := rfl
  have hparts := fun v => parts_any x v hx
  generalize szU x = s at *
  generalize upU x = up at *
  have h1 : (up : Int).tdiv 64 = ((up / 64 : Nat) : Int) := by rw [Int.tdiv_eq_ediv_of_nonneg (by omega)]; omega
  have h2 : (up : Int).tmod 64 = ((up % 64 : Nat) : Int) := by rw [Int.tmod_eq_emod_of_nonneg (by omega)]; omega
  have hup2 : up = 64 * (up / 64) + up % 64 := by omega
  have hk : up / 64 ≤ 31 := by omega
  have hn : up % 64 < 64 := by omega
  generalize up / 64 = k at *
  generalize up % 64 = n at *
  have hlh := lo_hi s n hn
  have HT : HeldE ((s * 2 ^ n % 18446744073709551616 + s / 2 ^ (64 - n) * 18446744073709551616) * 2 ^ (64 * k) = U x) := by
    rw [hlh, hU, hup2, Nat.mul_assoc, ← Nat.pow_add, Nat.add_comm]
    exact rfl
  have hlo : s * 2 ^ n % 18446744073709551616 < 18446744073709551616 := Nat.mod_lt _ (by decide)
  have hhi : s / 2 ^ (64 - n) < 18446744073709551616 := Nat.lt_of_le_of_lt (Nat.div_le_self _ _) (by omega)
  have e1 : IntKind.u64.wrap ((s : Int) * 2 ^ n) = ((s * 2 ^ n % 18446744073709551616 : Nat) : Int) := by
    rw [IntKind.wrap_u64]
    simp
  have e2 : (s : Int) / 2 ^ (64 - n) = ((s / 2 ^ (64 - n) : Nat) : Int) := by
    simp
  clear hlh hU hup2 hup hsl
  generalize s * 2 ^ n % 18446744073709551616 = lo at *
  generalize s / 2 ^ (64 - n) = hi at *
  have c0 := hs.row.cell k (by omega)
  have c1 := hs.row.cell (k + 1) (by omega)
  have f0 := hs.row.free k (by omega)
  have f1 := hs.row.free (k + 1) (by omega)
  have l0 := hs.lt k
  have l1 := hs.lt (k + 1)
  have r0 : ∀ w, (callFunc 44 #[.int .u64 (v k), .int .u64 lo, .int .u64 0]).run Try.prog w = .ok (.value (.tuple #[.int .u64 ((v k + lo) % 18446744073709551616 : Nat), .int .u64 ((v k + lo) / 18446744073709551616 : Nat)])) w := fun w => by have h := run_add64 (v k) lo 0 (by omega) w; simpa using h
  have q0 : (v k + lo) / 18446744073709551616 ≤ 1 := by omega
  have r1 := run_add64 (v (k + 1)) hi ((v k + lo) / 18446744073709551616) q0
  have A2 := hideE (add_two (v := v) (k := k) (lo := lo) (hi := hi) (by omega))
  have m0 : (v k + lo) % 18446744073709551616 < 18446744073709551616 := Nat.mod_lt _ (by decide)
  have m1 : (v (k + 1) + hi + (v k + lo) / 18446744073709551616) % 18446744073709551616 < 18446744073709551616 := Nat.mod_lt _ (by decide)
  have q1 : (v (k + 1) + hi + (v k + lo) / 18446744073709551616) / 18446744073709551616 ≤ 1 := by omega
  generalize (v (k + 1) + hi + (v k + lo) / 18446744073709551616) % 18446744073709551616 = s1 at *
  generalize (v (k + 1) + hi + (v k + lo) / 18446744073709551616) / 18446744073709551616 = y1 at *
  generalize (v k + lo) % 18446744073709551616 = s0 at *
  generalize (v k + lo) / 18446744073709551616 = y0 at *
  have k34 : (k : Int) < 34 := by omega
  have k35 : (k : Int) + 1 < 34 := by omega
  have S2 := hideE ((hs.set (k := k) (by omega) m0).set (k := k + 1) (by omega) m1)
  unfold u64v at c0 c1
  go_enter Try.func22, Try.ntmps22
  go_wp2_with fail
  refine (hparts _).mono ?_
  rintro e w1 ⟨rfl, rfl⟩
  go_wp2
  go_region
  go_wp2
  go_region
  go_wp2
  have SS := hideE (unhideE S2).drew.drew
  have OO := hideE (((Only.refl g w1).set k (.int .u64 (s0 : Nat))).set (k + 1) (.int .u64 (s1 : Nat))).drew.drew
  generalize ((w1.setCell ⟨g, k, none⟩ (.int .u64 (s0 : Nat))).setCell ⟨g, k + 1, none⟩ (.int .u64 (s1 : Nat))).drew.drew = W2 at *
  clear S2 c0 c1 f0 f1 r0 r1
  go_loopw [8, 9] (fun cv iv wl => ∃ (c i : Nat) (v' : Nat → Nat), c ≤ 1 ∧ iv = .int .i64 i ∧ cv = .int .u64 (c : Nat) ∧ i ≤ 34 ∧ HeldE (Sum64 wl g v') ∧ HeldE (dv 64 v' 34 + c * 2 ^ (64 * i) = dv 64 v 34 + U x) ∧ HeldE (Only g w1 wl)) (fun _ i _ => 40 - (intOf i).toNat)
  case atStart =>
    refine ⟨y1, k + 2, _, q1, by go_num, rfl, by omega, SS, ?_, OO⟩
    exact two_total (unhideE A2) (unhideE HT)
  case round =>
    obtain ⟨c, i, v', hc, rfl, rfl, hi, HS, HD, HO⟩ := hrel
    rcases (show c = 0 ∨ c = 1 by omega) with rfl | rfl
    · have H0 := hideE (no_carry (unhideE HD))
      clear HD
      go_wp2
      go_end0
      exact ⟨rfl, v', unhideE HS, unhideE H0, unhideE HO⟩
    · have hi34 : i < 34 := in34_of (unhideE HD) (unhideE HBB)
      have c0 := (unhideE HS).row.cell i hi34
      have f0 := (unhideE HS).row.free i hi34
      have l0 := (unhideE HS).lt i
      have r0 : ∀ w, (callFunc 44 #[.int .u64 (v' i), .int .u64 0, .int .u64 1]).run Try.prog w = .ok (.value (.tuple #[.int .u64 ((v' i + 1) % 18446744073709551616 : Nat), .int .u64 ((v' i + 1) / 18446744073709551616 : Nat)])) w := fun w => by have h := run_add64 (v' i) 0 1 (by omega) w; simpa using h
      have A1 := hideE (add_one (v := v') (i := i) (c := 1) hi34)
      have m0 : (v' i + 1) % 18446744073709551616 < 18446744073709551616 := Nat.mod_lt _ (by decide)
      have q2 : (v' i + 1) / 18446744073709551616 ≤ 1 := by omega
      generalize (v' i + 1) % 18446744073709551616 = s2 at *
      generalize (v' i + 1) / 18446744073709551616 = y2 at *
      have hii : (i : Int) < 34 := by omega
      unfold u64v at c0
      have S3 := hideE ((unhideE HS).set hi34 m0)
      have O3 := hideE ((unhideE HO).set i (.int .u64 (s2 : Nat)))
      go_wp2
      go_region
      go_wp2
      refine ⟨⟨y2, i + 1, _, q2, by go_num, rfl, by omega, (unhideE S3).drew, ?_, (unhideE O3).drew⟩, by simp [intOf]; omega⟩
      exact (unhideE A1).trans (unhideE HD)
end Go.Proofs.Ytbobnmaeiohnnac
