/-
  Exact sums that lie within a greater block: at an offset. Added to, held against each other, taken away, by their contracts.
-/
import Derived.Test.YtmgnobeaacjdjacExact5
namespace Go.Proofs.Ytmgnobeaacjdjac
open Go Go.RowKit

/-- an exact sum at block g, from the cell o on. -/
structure SumO (w : World) (g o : Nat) (v : Nat → Nat) : Prop where
  cell : ∀ j, j < 34 → w.cell? ⟨g, o + j, none⟩ = some (.int .u64 (v j : Nat))
  free : ∀ j, j < 34 → w.frozen? ⟨g, o + j, none⟩ = false
  blk : g < w.heap.size
  lt : ∀ j, v j < 18446744073709551616
/-- of the block g only 34 cells from o on are written. -/
structure OnlyO (g o : Nat) (w w' : World) : Prop where
  only : Only g w w'
  cell : ∀ j, j < o ∨ o + 34 ≤ j → w'.cell? ⟨g, j, none⟩ = w.cell? ⟨g, j, none⟩
  free : ∀ j, j < o ∨ o + 34 ≤ j → w'.frozen? ⟨g, j, none⟩ = w.frozen? ⟨g, j, none⟩
theorem OnlyO.refl (g o : Nat) (w : World) : OnlyO g o w w := ⟨Only.refl _ _, fun _ _ => rfl, fun _ _ => rfl⟩
theorem OnlyO.drew {g o : Nat} {a w : World} (h : OnlyO g o a w) : OnlyO g o a w.drew := ⟨h.only.drew, h.cell, h.free⟩
theorem OnlyO.set {g o : Nat} {a w : World} (h : OnlyO g o a w) {k : Nat} (hk : k < 34) (u : Value) : OnlyO g o a (w.setCell ⟨g, o + k, none⟩ u) := ⟨h.only.set _ u, fun j hj => by
  rw [World.cell?_setCell_other]
  · exact h.cell j hj
  · intro e
    injection e with _ e
    omega, fun j hj => by
  rw [World.frozen?_setCell]
  exact h.free j hj⟩
theorem SumO.set {w : World} {g o : Nat} {v : Nat → Nat} (s : SumO w g o v) {k x : Nat} (hk : k < 34) (hx : x < 18446744073709551616) : SumO (w.setCell ⟨g, o + k, none⟩ (.int .u64 (x : Nat))) g o (upd v k x) where
  cell j hj := by
    by_cases e : j = k
    · subst e
      rw [World.cell?_setCell_same w _ _ (s.cell j hj)]
      simp [upd]
    · rw [World.cell?_setCell_other]
      · rw [s.cell j hj]
        simp [upd, e]
      · intro q
        injection q with _ q
        omega
  free j hj := by
    rw [World.frozen?_setCell]
    exact s.free j hj
  blk := by simpa [World.setCell] using s.blk
  lt j := by
    unfold upd
    split
    · exact hx
    · exact s.lt j
theorem SumO.drew {w : World} {g o : Nat} {v : Nat → Nat} (s : SumO w g o v) : SumO w.drew g o v := ⟨s.cell, s.free, s.blk, s.lt⟩
theorem SumO.drawn {w : World} {g o : Nat} {v : Nat → Nat} (s : SumO w g o v) (n : Nat) : SumO (w.drewN n) g o v := ⟨s.cell, s.free, s.blk, s.lt⟩
theorem SumO.out {w w' : World} {g o p : Nat} {v : Nat → Nat} (s : SumO w g o v) (h : OnlyO g p w w') (hp : o + 34 ≤ p ∨ p + 34 ≤ o) : SumO w' g o v where
  cell j hj := by rw [h.cell _ (by omega)]; exact s.cell j hj
  free j hj := by rw [h.free _ (by omega)]; exact s.free j hj
  blk := by rw [h.only.size]; exact s.blk
  lt := s.lt
set_option maxHeartbeats 4000000 in
theorem addO (g o x : Nat) (v : Nat → Nat) (w : World) (hs : SumO w g o v) (hx : x < 18446744073709551616) (hf : isF x = true) (hb : dv 64 v 34 + U x < cap34) :
    Calls Try.prog 38 #[.pointer (some ⟨g, o, none⟩), .float .f64 x] w fun e w' => e = .returned (.tuple #[]) ∧ ∃ v', SumO w' g o v' ∧ dv 64 v' 34 = dv 64 v 34 + U x ∧ OnlyO g o w w' := by
  have HBB := hideE hb
  clear hb
  have hup := upU_le x hf
  have hsl := szU_lt x
  have hU : U x = szU x * 2 ^ upU x := rfl
  have hparts := fun v => parts_any x v hx
  generalize szU x = s at *
  generalize upU x = up at *
  have h1 : (up : Int).tdiv 64 = ((up / 64 : Nat) : Int) := by rw [Int.tdiv_eq_ediv_of_nonneg (by omega)]; omega
  have h2 : (up : Int).tmod 64 = ((up % 64 : Nat) : Int) := by rw [Int.tmod_eq_emod_of_nonneg (by omega)]; omega
  have hup2 : up = 64 * (up / 64) + up % 64 := by omega
  have hk : up / 64 ≤ 31 := by omega
  have hn : up % 64 < 64 := by omega
  generalize up / 64 = k at *
  generalize up % 64 = n at *
  have hlh := lo_hi s n hn
  have HT : HeldE ((s * 2 ^ n % 18446744073709551616 + s / 2 ^ (64 - n) * 18446744073709551616) * 2 ^ (64 * k) = U x) := by
    rw [hlh, hU, hup2, Nat.mul_assoc, ← Nat.pow_add, Nat.add_comm]
    exact rfl
  have hlo : s * 2 ^ n % 18446744073709551616 < 18446744073709551616 := Nat.mod_lt _ (by decide)
  have hhi : s / 2 ^ (64 - n) < 18446744073709551616 := Nat.lt_of_le_of_lt (Nat.div_le_self _ _) (by omega)
  have e1 : IntKind.u64.wrap ((s : Int) * 2 ^ n) = ((s * 2 ^ n % 18446744073709551616 : Nat) : Int) := by
    rw [IntKind.wrap_u64]
    simp
  have e2 : (s : Int) / 2 ^ (64 - n) = ((s / 2 ^ (64 - n) : Nat) : Int) := by
    simp
  clear hlh hU hup2 hup hsl
  generalize s * 2 ^ n % 18446744073709551616 = lo at *
  generalize s / 2 ^ (64 - n) = hi at *
  have c0 := hs.cell k (by omega)
  have c1 := hs.cell (k + 1) (by omega)
  have f0 := hs.free k (by omega)
  have f1 := hs.free (k + 1) (by omega)
  have l0 := hs.lt k
  have l1 := hs.lt (k + 1)
  have r0 : ∀ w, (callFunc 48 #[.int .u64 (v k), .int .u64 lo, .int .u64 0]).run Try.prog w = .ok (.value (.tuple #[.int .u64 ((v k + lo) % 18446744073709551616 : Nat), .int .u64 ((v k + lo) / 18446744073709551616 : Nat)])) w := fun w => by have h := run_add64 (v k) lo 0 (by omega) w; simpa using h
  have q0 : (v k + lo) / 18446744073709551616 ≤ 1 := by omega
  have r1 := run_add64 (v (k + 1)) hi ((v k + lo) / 18446744073709551616) q0
  have A2 := hideE (add_two (v := v) (k := k) (lo := lo) (hi := hi) (by omega))
  have m0 : (v k + lo) % 18446744073709551616 < 18446744073709551616 := Nat.mod_lt _ (by decide)
  have m1 : (v (k + 1) + hi + (v k + lo) / 18446744073709551616) % 18446744073709551616 < 18446744073709551616 := Nat.mod_lt _ (by decide)
  have q1 : (v (k + 1) + hi + (v k + lo) / 18446744073709551616) / 18446744073709551616 ≤ 1 := by omega
  generalize (v (k + 1) + hi + (v k + lo) / 18446744073709551616) % 18446744073709551616 = s1 at *
  generalize (v (k + 1) + hi + (v k + lo) / 18446744073709551616) / 18446744073709551616 = y1 at *
  generalize (v k + lo) % 18446744073709551616 = s0 at *
  generalize (v k + lo) / 18446744073709551616 = y0 at *
  have k34 : (k : Int) < 34 := by omega
  have k35 : (k : Int) + 1 < 34 := by omega
  have S2 := hideE ((hs.set (k := k) (by omega) m0).set (k := k + 1) (by omega) m1)
  go_enter Try.func38, Try.ntmps38
  go_wp2_with fail
  refine (hparts _).mono ?_
  rintro e w1 ⟨rfl, rfl⟩
  go_wp2
  go_region
  go_wp2
  go_region
  go_wp2
  have SS := hideE (unhideE S2).drew.drew
  have OO := hideE (((OnlyO.refl g o w1).set (k := k) (by omega) (.int .u64 (s0 : Nat))).set (k := k + 1) (by omega) (.int .u64 (s1 : Nat))).drew.drew
  generalize ((w1.setCell ⟨g, o + k, none⟩ (.int .u64 (s0 : Nat))).setCell ⟨g, o + (k + 1), none⟩ (.int .u64 (s1 : Nat))).drew.drew = W2 at *
  clear S2 c0 c1 f0 f1 r0 r1
  go_loopw [8, 9] (fun cv iv wl => ∃ (c i : Nat) (v' : Nat → Nat), c ≤ 1 ∧ iv = .int .i64 i ∧ cv = .int .u64 (c : Nat) ∧ i ≤ 34 ∧ HeldE (SumO wl g o v') ∧ HeldE (dv 64 v' 34 + c * 2 ^ (64 * i) = dv 64 v 34 + U x) ∧ HeldE (OnlyO g o w1 wl)) (fun _ i _ => 40 - (intOf i).toNat)
  case atStart =>
    refine ⟨y1, k + 2, _, q1, by go_num, rfl, by omega, SS, ?_, OO⟩
    exact two_total (unhideE A2) (unhideE HT)
  case round =>
    obtain ⟨c, i, v', hc, rfl, rfl, hi, HS, HD, HO⟩ := hrel
    rcases (show c = 0 ∨ c = 1 by omega) with rfl | rfl
    · have H0 := hideE (no_carry (unhideE HD))
      clear HD
      go_wp2
      go_end0
      exact ⟨rfl, v', unhideE HS, unhideE H0, unhideE HO⟩
    · have hi34 : i < 34 := in34_of (unhideE HD) (unhideE HBB)
      have c0 := (unhideE HS).cell i hi34
      have f0 := (unhideE HS).free i hi34
      have l0 := (unhideE HS).lt i
      have r0 : ∀ w, (callFunc 48 #[.int .u64 (v' i), .int .u64 0, .int .u64 1]).run Try.prog w = .ok (.value (.tuple #[.int .u64 ((v' i + 1) % 18446744073709551616 : Nat), .int .u64 ((v' i + 1) / 18446744073709551616 : Nat)])) w := fun w => by have h := run_add64 (v' i) 0 1 (by omega) w; simpa using h
      have A1 := hideE (add_one (v := v') (i := i) (c := 1) hi34)
      have m0 : (v' i + 1) % 18446744073709551616 < 18446744073709551616 := Nat.mod_lt _ (by decide)
      have q2 : (v' i + 1) / 18446744073709551616 ≤ 1 := by omega
      generalize (v' i + 1) % 18446744073709551616 = s2 at *
      generalize (v' i + 1) / 18446744073709551616 = y2 at *
      have hii : (i : Int) < 34 := by omega
      have S3 := hideE ((unhideE HS).set hi34 m0)
      have O3 := hideE ((unhideE HO).set hi34 (.int .u64 (s2 : Nat)))
      go_wp2
      go_region
      go_wp2
      refine ⟨⟨y2, i + 1, _, q2, by go_num, rfl, by omega, (unhideE S3).drew, ?_, (unhideE O3).drew⟩, by simp [intOf]; omega⟩
      exact (unhideE A1).trans (unhideE HD)
set_option maxHeartbeats 2000000 in
theorem lessO (g o h p : Nat) (v u : Nat → Nat) (w : World) (hs : SumO w g o v) (ht : SumO w h p u) (B : Bool) (hB : B = decide (dv 64 v 34 < dv 64 u 34)) :
    Calls Try.prog 40 #[.pointer (some ⟨g, o, none⟩), .pointer (some ⟨h, p, none⟩)] w fun e w' => e = .returned (.bool B) ∧ ∃ n, w' = w.drewN n := by
  have HB := hideE hB
  clear hB
  go_enter Try.func40, Try.ntmps40
  go_wp2
  go_loopw [5] (fun iv wl => ∃ (i n : Nat), i ≤ 34 ∧ iv = .int .i64 ((i : Int) - 1) ∧ wl = w.drewN n ∧ HeldE (∀ j, i ≤ j → j < 34 → v j = u j)) (fun iv _ => (intOf iv + 1).toNat)
  case atStart => exact ⟨34, 0, by omega, rfl, rfl, fun j h1 h2 => absurd h1 (by omega)⟩
  case round =>
    obtain ⟨i, n, hi, rfl, rfl, HE⟩ := hrel
    cases i with
    | zero =>
      have hb : B = false := by
        rw [unhideE HB, decide_eq_false_iff_not]
        exact dv_not_less (unhideE HE)
      have HBF := hideE hb
      clear hb HE HB hi
      go_wp2
      rw [unhideE HBF]
      go_ret
      exact ⟨rfl, _, rfl⟩
    | succ i =>
      have c0 := hs.cell i (by omega)
      have c1 := ht.cell i (by omega)
      have hi34 : (i : Int) < 34 := by omega
      rw [show (((i + 1 : Nat) : Int) - 1) = (i : Int) by omega]
      by_cases hne : v i = u i
      · have HE2 : HeldE (∀ j, i ≤ j → j < 34 → v j = u j) := fun j h1 h2 => by
          rcases (show j = i ∨ i + 1 ≤ j by omega) with rfl | h3
          · exact hne
          · exact unhideE HE j h3 h2
        rw [hne] at c0
        clear HE hne
        generalize u i = y at *
        go_wp2
        go_quiet (fail)
        go_wp2
        refine ⟨⟨i, _, by omega, rfl, rfl, HE2⟩, by simp [intOf]⟩
      · have hb : B = decide (v i < u i) := by
          rw [unhideE HB]
          exact dv_decides (by omega) hs.lt ht.lt (fun j h1 h2 => unhideE HE j (by omega) h2) hne
        have HBF := hideE hb
        have hnb : ((v i : Int) == (u i : Int)) = false := by rw [beq_eq_false_iff_ne]; omega
        clear hb HE HB
        generalize v i = x at *
        generalize u i = y at *
        go_wp2
        go_quiet (fail)
        go_wp2
        go_quiet (fail)
        go_wp2
        rw [unhideE HBF]
        go_ret
        exact ⟨rfl, _, by rw [World.drewN_drewN, World.drewN_drewN]⟩
set_option maxHeartbeats 2000000 in
theorem withoutO (g o h p : Nat) (v u : Nat → Nat) (w : World) (hs : SumO w g o v) (ht : SumO w h p u) (hle : dv 64 u 34 ≤ dv 64 v 34) :
    Calls Try.prog 41 #[.pointer (some ⟨g, o, none⟩), .pointer (some ⟨h, p, none⟩)] w fun e w' => e = .returned (.pointer (some ⟨w.heap.size, 0, none⟩)) ∧ ∃ l, Sum64 w' w.heap.size l ∧ dv 64 l 34 + dv 64 u 34 = dv 64 v 34 ∧ Below w.heap.size w w' := by
  have HLE := hideE hle
  clear hle
  have hg := hs.blk
  have hh := ht.blk
  have S0 := hideE (sum_new w 41)
  have B0 := hideE ((Below.refl w.heap.size w).alloc (Nat.le_refl _) (.cells zero34 41))
  unfold zero34 at S0 B0
  go_enter Try.func41, Try.ntmps41
  go_wp2
  go_loopw [6, 8] (fun bv iv wl => ∃ (b i : Nat) (l : Nat → Nat), i ≤ 34 ∧ b ≤ 1 ∧ bv = .int .u64 (b : Nat) ∧ iv = .int .i64 i ∧ HeldE (Sum64 wl w.heap.size l) ∧ HeldE (dv 64 l i + dv 64 u i = dv 64 v i + b * 2 ^ (64 * i)) ∧ HeldE (Below w.heap.size w wl)) (fun _ i _ => 40 - (intOf i).toNat)
  case atStart => exact ⟨0, 0, _, by omega, by omega, rfl, rfl, S0, (rfl : (0 : Nat) + 0 = 0 + 0), B0⟩
  case round =>
    obtain ⟨b, i, l, hi, hb, rfl, rfl, HS, HD, HB⟩ := hrel
    by_cases hlt : i < 34
    · have c0 := ((unhideE HB).cell (p := ⟨g, o + i, none⟩) hg).trans (hs.cell i hlt)
      have c1 := ((unhideE HB).cell (p := ⟨h, p + i, none⟩) hh).trans (ht.cell i hlt)
      have c2 := (unhideE HS).row.cell i hlt
      have f2 := (unhideE HS).row.free i hlt
      unfold u64v at c2
      have hii : (i : Int) < 34 := by omega
      have r0 := run_sub64 (v i) (u i) b hb
      have D2 := hideE (sub_step (ht.lt i) (hs.lt i) hb (unhideE HD))
      have m0 : (v i + 18446744073709551616 - u i - b) % 18446744073709551616 < 18446744073709551616 := Nat.mod_lt _ (by decide)
      have q0 : (if v i < u i + b then 1 else 0) ≤ 1 := by split <;> omega
      generalize (v i + 18446744073709551616 - u i - b) % 18446744073709551616 = d at *
      generalize (if v i < u i + b then 1 else 0) = q at *
      have S2 := hideE ((unhideE HS).set hlt m0).drew
      have B2 := hideE ((unhideE HB).setCell (p := ⟨w.heap.size, i, none⟩) (Nat.le_refl _) (.int .u64 (d : Nat))).drew
      clear HS HD HB
      go_wp2
      go_region
      go_wp2
      exact ⟨⟨q, i + 1, _, by omega, q0, rfl, by go_num, S2, D2, B2⟩, by simp [intOf]; omega⟩
    · obtain rfl : i = 34 := by omega
      have E := hideE (sub_end (unhideE HD) (top64 (unhideE HS).lt 34) (unhideE HLE) hb)
      clear HD
      go_wp2
      go_ret
      exact ⟨rfl, l, unhideE HS, unhideE E, unhideE HB⟩
end Go.Proofs.Ytmgnobeaacjdjac
