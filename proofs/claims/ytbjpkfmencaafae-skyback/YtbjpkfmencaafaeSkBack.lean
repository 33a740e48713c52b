/-
  The law SkyBack: its walk.
-/
import Derived.Test.YtbjpkfmencaafaeSkLaw
import Derived.Test.YtbjpkfmencaafaeApart
import Derived.Test.YtbjpkfmencaafaeSkyBackM
namespace Go.Proofs.Ytbjpkfmencaafae
open Go Go.RowKit

theorem lw_evl {o : BinOp} {a b : FE} : Lw (evl (.op o a b)) := lw_op (fop_val o (evl a) (evl b))
theorem lw_ng {x : Nat} (h : Lw x) : Lw (ngB x) := by
  rcases h with h | h
  · refine .inl ?_
    unfold nanI at *
    rw [neg_read]
    cases e : FloatKind.f64.format.read x with
    | number s m i => rw [e] at h; cases h
    | infinity s => rw [e] at h; cases h
    | nan s f => rfl
  · refine .inr ?_
    show x ^^^ 2 ^ 63 < _
    exact Nat.xor_lt_two_pow (n := 64) h (by decide)
theorem lw_sin (a : Int) : Lw (sinV a) := by
  have h1 : Lw (sV (rOf a)) := lw_evl
  have h2 : Lw (cV (rOf a)) := lw_evl
  unfold sinV turnS
  split
  · exact h1
  · split
    · exact h2
    · split
      · exact lw_ng h1
      · exact lw_ng h2
theorem apt_swap {a b : Int} (h : apt a b ≤ 1) : apt (sgd b) (sgd a) ≤ 1 ∧ apt b a ≤ 1 := by
  unfold apt far sgd nrm at *
  omega
set_option maxHeartbeats 8000000 in
theorem back_walk (a b : Int) (w : World) :
    Calls Try.prog 4 #[.agg #[.int .i64 a, .int .i64 b]] w fun e w' => e = .returned (.bool true) ∧ Below w.heap.size w w' := by
  have hpp := fun v => pointed_any v
  have hs := fun v => signedOf_any b v
  have hap := fun a b v => apart_any a b v
  have HL : HeldR (∀ x y z, PointIs a b x y z → -259200000000 ≤ sgd b → sgd b ≤ 259200000000 → ∀ v, Calls Try.prog 12 #[.agg #[.float .f64 x, .float .f64 y, .float .f64 z]] v fun e w' => (∃ la lo, e = .returned (.tuple #[.agg #[.int .i64 lo, .int .i64 la], .bool true]) ∧ HeldR (apt la (sgd b) ≤ 1 ∧ apt lo a ≤ 1)) ∧ Below v.heap.size v w') := by
    intro x y z hp h1 h2 v
    refine (where_any x y z v (lw_op hp.x) (lw_op hp.y) (hp.z ▸ lw_sin b)).mono ?_
    rintro e w' ⟨⟨r, t, ht, hr, h⟩, k⟩
    refine ⟨?_, k⟩
    obtain ⟨n1, n2⟩ := lat_near h1 h2 hp.x hp.y ht hr
    obtain ⟨n3, n4⟩ := lon_near h1 h2 hp.x hp.y
    rw [hp.z] at h
    rcases h with ⟨_, h⟩ | ⟨h, _⟩
    · exact ⟨_, _, h, (apt_swap n2).1, (apt_swap n4).2⟩
    · unfold hasV at n1 n3
      rw [Bool.and_eq_true, Bool.and_eq_true] at n1 n3
      have h' : hasV (sinV b) r = true := (lat_near h1 h2 hp.x hp.y ht hr).1
      rw [n3.1.1, n3.1.2, n1.1.2, h'] at h
      cases h
  generalize sgd b = sb at *
  go_enter Try.func4, Try.ntmps4
  go_wp2_with fail
  refine (hpp _).mono ?_
  rintro e w1 ⟨rfl, k1⟩
  have A0 := hideR (keepB (alloc_last w _) k1)
  have HW := hideR (below_go ((Below.refl w.heap.size w).alloc (Nat.le_refl _) _) k1)
  clear k1 hpp
  obtain ⟨⟨c0, c1⟩, _⟩ := pair_at (unhideR A0)
  go_wp2_with fail
  refine (hs _).mono ?_
  rintro e w2 ⟨rfl, rfl⟩
  by_cases h1 : 259200000000 < sb
  · go_wp2
    go_ret
    exact ⟨rfl, unhideR HW⟩
  by_cases h2 : sb < -259200000000
  · go_wp2
    go_ret
    exact ⟨rfl, unhideR HW⟩
  have HC : HeldR _ := hideR (fun x y z hp => unhideR HL x y z hp (by omega) (by omega))
  clear HL hs
  go_wp2_with fail
  refine (place_any _ _ _).mono ?_
  rintro e w2 ⟨rfl, k2⟩
  replace A0 := hideR (keepB (unhideR A0) k2)
  replace HW := hideR (below_go (unhideR HW) k2)
  clear k2 c0 c1
  go_wp2_with fail
  refine (point_any _ _ _).mono ?_
  rintro e w3 ⟨x, y, z, rfl, hp, k3⟩
  replace A0 := hideR (keepB (unhideR A0) k3)
  replace HW := hideR (below_go (unhideR HW) k3)
  have HD := hideR (unhideR HC x y z hp)
  clear k3 hp HC
  go_wp2_with fail
  refine (unhideR HD _).mono ?_
  rintro e w4 ⟨⟨la, lo, rfl, HN⟩, k4⟩
  replace A0 := hideR (keepB (unhideR A0) k4)
  replace HW := hideR (below_go (unhideR HW) k4)
  clear k4 HD
  obtain ⟨⟨c0, c1⟩, _⟩ := pair_at (unhideR A0)
  have l0 := ltB (unhideR A0)
  go_wp2_with fail
  refine (hap _ _ _).mono ?_
  rintro e w5 ⟨rfl, rfl⟩
  have n1 := (unhideR HN).1
  generalize apt la sb = d1 at *
  go_wp2_with fail
  refine (hap _ _ _).mono ?_
  rintro e w5 ⟨rfl, rfl⟩
  have n2 := (unhideR HN).2
  clear HN
  generalize apt lo a = d2 at *
  have e2 : decide (d2 ≤ 16) = true := decide_eq_true (by omega)
  go_wp2
  go_ret
  exact ⟨rfl, (unhideR HW).alloc (unhideR HW).size _⟩
end Go.Proofs.Ytbjpkfmencaafae
