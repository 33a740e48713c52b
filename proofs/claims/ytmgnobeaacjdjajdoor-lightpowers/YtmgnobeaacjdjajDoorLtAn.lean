/-
  A whole number of times an angle: the document's, by contract.
-/
import Derived.Test.YtmgnobeaacjdjajDoorNrm0
import Derived.Test.YtmgnobeaacjdjajDoorKitA
import Derived.Deep.CutRange
namespace Go.Proofs.YtmgnobeaacjdjajDoor
open Go Go.RowKit

theorem times_mod (W h l : Int) : (W * h % 1296000000000 * 1048576 % 1296000000000 + W * l % 1296000000000) % 1296000000000 = W * (h * 1048576 + l) % 1296000000000 := by
  rw [Int.mul_add, ← Int.mul_assoc, Int.add_emod (W * h * 1048576), Int.mul_emod (W * h) 1048576]
  rw [Int.mul_emod (W * h % 1296000000000) 1048576, Int.emod_emod]
theorem nrm_times {w t n : Int} (h : n % 1296000000000 = nrm w * t % 1296000000000) : nrm n = nrm (w * t) := by
  unfold nrm at *
  rw [h, Int.mul_emod, Int.emod_emod, ← Int.mul_emod]
theorem nrm_neg {w t n : Int} (h : n % 1296000000000 = nrm w * t % 1296000000000) : nrm (-n) = nrm (w * -t) := by
  unfold nrm at *
  rw [Int.mul_neg]
  have e : ∀ a b : Int, a % 1296000000000 = b % 1296000000000 → (-a) % 1296000000000 = (-b) % 1296000000000 := fun a b q => by omega
  refine e _ _ ?_
  rw [h, Int.mul_emod, Int.emod_emod, ← Int.mul_emod]
set_option maxRecDepth 100000 in
set_option maxHeartbeats 1600000 in
theorem angleTimes_any (w t : Int) (h0 : -1099511627776 ≤ t) (h1 : t ≤ 1099511627776) (u : World) : Calls Tryd.prog 39 #[.int .i64 w, .int .i64 t] u fun e u' => e = .returned (.int .i64 (nrm (w * t))) ∧ u' = u := by
  have hn1 := normOf_any w u
  have hr := nrm_range w
  obtain ⟨W, hW⟩ : ∃ W, nrm w = W := ⟨_, rfl⟩
  rw [hW] at hn1 hr
  have key : ∀ a : Int, 0 ≤ a → a ≤ 1099511627776 → ∃ h l p q r n : Int, a.tdiv 1048576 = h ∧ a.tmod 1048576 = l ∧ IntKind.i64.wrap (W * h) = p ∧ p.tmod 1296000000000 = q ∧ IntKind.i64.wrap (q * 1048576) = r ∧ IntKind.i64.wrap (W * l) = n ∧ 0 ≤ p ∧ 0 ≤ r ∧ 0 ≤ n ∧ 0 ≤ h ∧ 0 ≤ l ∧ (r % 1296000000000 + n % 1296000000000) % 1296000000000 = W * a % 1296000000000 := fun a ha hb => by
    have d1 : a.tdiv 1048576 = a / 1048576 := Int.tdiv_eq_ediv_of_nonneg ha
    have d2 : a.tmod 1048576 = a % 1048576 := Int.tmod_eq_emod_of_nonneg ha
    have e1 : 0 ≤ a / 1048576 ∧ a / 1048576 ≤ 1048576 := by omega
    have e2 : 0 ≤ a % 1048576 ∧ a % 1048576 < 1048576 := by omega
    have m1 : 0 ≤ W * (a / 1048576) ∧ W * (a / 1048576) ≤ 1296000000000 * 1048576 := ⟨Int.mul_nonneg hr.1 e1.1, Int.mul_le_mul (by omega) e1.2 e1.1 (by omega)⟩
    have m2 : 0 ≤ W * (a % 1048576) ∧ W * (a % 1048576) ≤ 1296000000000 * 1048576 := ⟨Int.mul_nonneg hr.1 e2.1, Int.mul_le_mul (by omega) (by omega) e2.1 (by omega)⟩
    have p1 : IntKind.i64.wrap (W * (a / 1048576)) = W * (a / 1048576) := iwrap (by omega) (by omega)
    have n1 : IntKind.i64.wrap (W * (a % 1048576)) = W * (a % 1048576) := iwrap (by omega) (by omega)
    have q1 : (W * (a / 1048576)).tmod 1296000000000 = W * (a / 1048576) % 1296000000000 := Int.tmod_eq_emod_of_nonneg m1.1
    have q2 : 0 ≤ W * (a / 1048576) % 1296000000000 ∧ W * (a / 1048576) % 1296000000000 < 1296000000000 := by omega
    have r1 : IntKind.i64.wrap (W * (a / 1048576) % 1296000000000 * 1048576) = W * (a / 1048576) % 1296000000000 * 1048576 := iwrap (by omega) (by omega)
    refine ⟨_, _, _, _, _, _, d1, d2, p1, q1, r1, n1, m1.1, by omega, m2.1, e1.1, e2.1, ?_⟩
    have := times_mod W (a / 1048576) (a % 1048576)
    rw [show a / 1048576 * 1048576 + a % 1048576 = a by omega] at this
    exact this
  clear hr
  by_cases ht : t < 0
  · obtain ⟨h, l, p, q, r, n, k1, k2, k3, k4, k5, k6, z1, z2, z3, z4, z5, kk⟩ := key (-t) (by omega) (by omega)
    have hfin : nrm (-(r % 1296000000000 + n % 1296000000000)) = nrm (w * t) := by
      have := nrm_neg (w := w) (t := -t) (n := r % 1296000000000 + n % 1296000000000) (by rw [hW]; exact kk)
      rw [Int.neg_neg] at this
      exact this
    have hn2 := normOf_any (-(r % 1296000000000 + n % 1296000000000)) u
    rw [hfin] at hn2
    have t1 : decide (t < 0) = true := decide_eq_true ht
    have wt : IntKind.i64.wrap (-t) = -t := iwrap (by omega) (by omega)
    have rn1 : r.tmod 1296000000000 = r % 1296000000000 := Int.tmod_eq_emod_of_nonneg z2
    have rn2 : n.tmod 1296000000000 = n % 1296000000000 := Int.tmod_eq_emod_of_nonneg z3
    have b1 : 0 ≤ r % 1296000000000 ∧ r % 1296000000000 < 1296000000000 := by omega
    have b2 : 0 ≤ n % 1296000000000 ∧ n % 1296000000000 < 1296000000000 := by omega
    generalize nrm (w * t) = res at *
    obtain ⟨rm, hrm⟩ : ∃ rm, r % 1296000000000 = rm := ⟨_, rfl⟩
    obtain ⟨nm, hnm⟩ : ∃ nm, n % 1296000000000 = nm := ⟨_, rfl⟩
    rw [hrm] at rn1 b1 hn2
    rw [hnm] at rn2 b2 hn2
    obtain ⟨t', ht'⟩ : ∃ t', -t = t' := ⟨_, rfl⟩
    rw [ht'] at wt k1 k2
    have ws : IntKind.i64.wrap (rm + nm) = rm + nm := iwrap (by omega) (by omega)
    have wn : IntKind.i64.wrap (-1 * (rm + nm)) = -(rm + nm) := by rw [show -1 * (rm + nm) = -(rm + nm) by omega]; exact iwrap (by omega) (by omega)
    have wn' : IntKind.i64.wrap (-(rm + nm)) = -(rm + nm) := iwrap (by omega) (by omega)
    have wh : IntKind.i64.wrap h = h := by rw [← k1]; rw [← k1] at z4; exact iwrap (by omega) (by have := Int.tdiv_eq_ediv_of_nonneg (a := t') (b := 1048576) (by omega); omega)
    have k1' : t' / 1048576 = h := by rw [← k1]; exact (Int.tdiv_eq_ediv_of_nonneg (by omega)).symm
    have k2' : t' % 1048576 = l := by rw [← k2]; exact (Int.tmod_eq_emod_of_nonneg (by omega)).symm
    have k4' : p % 1296000000000 = q := by rw [← k4]; exact (Int.tmod_eq_emod_of_nonneg z1).symm
    clear key hfin kk hW z1 z2 z3 z4 z5 b1 b2 h0 h1
    go_enter Tryd.func39, Tryd.ntmps39
    go_wp2_with fail
    refine hn1.mono ?_
    rintro e u1 ⟨rfl, rfl⟩
    go_upto_region 6 with fail
    clear ht' ht t1
    go_wp2_with fail
    refine hn2.mono ?_
    rintro e u1 ⟨rfl, rfl⟩
    go_wp2
    go_ret
    exact ⟨rfl, rfl⟩
  · obtain ⟨h, l, p, q, r, n, k1, k2, k3, k4, k5, k6, z1, z2, z3, z4, z5, kk⟩ := key t (by omega) (by omega)
    have hfin : nrm (r % 1296000000000 + n % 1296000000000) = nrm (w * t) := nrm_times (w := w) (t := t) (by rw [hW]; exact kk)
    have hn2 := normOf_any (r % 1296000000000 + n % 1296000000000) u
    rw [hfin] at hn2
    have t1 : decide (t < 0) = false := decide_eq_false ht
    have rn1 : r.tmod 1296000000000 = r % 1296000000000 := Int.tmod_eq_emod_of_nonneg z2
    have rn2 : n.tmod 1296000000000 = n % 1296000000000 := Int.tmod_eq_emod_of_nonneg z3
    have b1 : 0 ≤ r % 1296000000000 ∧ r % 1296000000000 < 1296000000000 := by omega
    have b2 : 0 ≤ n % 1296000000000 ∧ n % 1296000000000 < 1296000000000 := by omega
    generalize nrm (w * t) = res at *
    obtain ⟨rm, hrm⟩ : ∃ rm, r % 1296000000000 = rm := ⟨_, rfl⟩
    obtain ⟨nm, hnm⟩ : ∃ nm, n % 1296000000000 = nm := ⟨_, rfl⟩
    rw [hrm] at rn1 b1 hn2
    rw [hnm] at rn2 b2 hn2
    have ws : IntKind.i64.wrap (rm + nm) = rm + nm := iwrap (by omega) (by omega)
    have wn : IntKind.i64.wrap (1 * (rm + nm)) = rm + nm := by rw [Int.one_mul]; exact ws
    have wh : IntKind.i64.wrap h = h := by rw [← k1]; rw [← k1] at z4; exact iwrap (by omega) (by have := Int.tdiv_eq_ediv_of_nonneg (a := t) (b := 1048576) (by omega); omega)
    have k1' : t / 1048576 = h := by rw [← k1]; exact (Int.tdiv_eq_ediv_of_nonneg (by omega)).symm
    have k2' : t % 1048576 = l := by rw [← k2]; exact (Int.tmod_eq_emod_of_nonneg (by omega)).symm
    have k4' : p % 1296000000000 = q := by rw [← k4]; exact (Int.tmod_eq_emod_of_nonneg z1).symm
    clear key hfin kk hW z1 z2 z3 z4 z5 b1 b2 h0 h1
    go_enter Tryd.func39, Tryd.ntmps39
    go_wp2_with fail
    refine hn1.mono ?_
    rintro e u1 ⟨rfl, rfl⟩
    go_wp2_with fail
    refine hn2.mono ?_
    rintro e u1 ⟨rfl, rfl⟩
    go_wp2
    go_ret
    exact ⟨rfl, rfl⟩
end Go.Proofs.YtmgnobeaacjdjajDoor
