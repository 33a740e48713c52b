/-
  The document's exact sum: levelled, by its contract.
-/
import Derived.Test.YtmgnobeaacjdjacRSum1
namespace Go.Proofs.Ytmgnobeaacjdjac
open Go Go.RowKit

theorem level_end {D T N : Nat} {cy : Int} (hD : D < T) (hN : N < T) (h : (D : Int) + cy * T = N) : cy = 0 ∧ D = N := by
  rcases (show cy ≤ -1 ∨ cy = 0 ∨ 1 ≤ cy by omega) with h1 | h1 | h1
  · have h2 := Int.mul_le_mul_of_nonneg_right h1 (Int.natCast_nonneg T)
    generalize cy * (T : Int) = p at *
    omega
  · subst h1; exact ⟨rfl, by rw [Int.zero_mul] at h; omega⟩
  · have h2 := Int.mul_le_mul_of_nonneg_right h1 (Int.natCast_nonneg T)
    generalize cy * (T : Int) = p at *
    omega
theorem level_neg {D T N : Nat} {cy : Int} (hD : D < T) (hN : N < T) (h0 : 0 < N) (h : (D : Int) + cy * T = -(N : Int)) : cy = -1 ∧ D + N = T := by
  rcases (show cy ≤ -2 ∨ cy = -1 ∨ 0 ≤ cy by omega) with h1 | h1 | h1
  · have h2 := Int.mul_le_mul_of_nonneg_right h1 (Int.natCast_nonneg T)
    generalize cy * (T : Int) = p at *
    omega
  · subst h1; exact ⟨rfl, by omega⟩
  · have h2 := Int.mul_le_mul_of_nonneg_right h1 (Int.natCast_nonneg T)
    generalize cy * (T : Int) = p at *
    omega
theorem dv32_lt {d : Nat → Nat} (h : ∀ j, d j < 4294967296) (i : Nat) : dv 32 d i < 2 ^ (32 * i) := dv_lt fun j _ => by rw [show (2 : Nat) ^ 32 = 4294967296 by decide]; exact h j
theorem cap_in {N i : Nat} (h : N < cap34) (hi : 72 ≤ i) : N < 2 ^ (32 * i) := Nat.lt_of_lt_of_le h (capOf_le (k := 2123) (by omega))
theorem pow_cast (i : Nat) : ((2 ^ (32 * i) : Nat) : Int) = (2 : Int) ^ (32 * i) := by simp
/-- how the levelling ends. -/
theorem level_out {d : Nat → Nat} {i N : Nat} {cy z : Int} {sg : Bool} (hd : ∀ j, d j < 4294967296) (hi : 72 ≤ i) (h : (dv 32 d i : Int) + cy * 2 ^ (32 * i) = z) (hz : z = if sg then -(N : Int) else (N : Int)) (hp : sg = true → 0 < N) (hN : N < cap34) :
    (sg = false ∧ cy = 0 ∧ dv 32 d i = N) ∨ (sg = true ∧ cy = -1 ∧ dv 32 d i + N = 2 ^ (32 * i)) := by
  have h1 := dv32_lt hd i
  have h2 := cap_in hN hi
  rw [← pow_cast] at h
  generalize dv 32 d i = D at *
  generalize 2 ^ (32 * i) = T at *
  cases sg with
  | false => exact .inl ⟨rfl, level_end h1 h2 (by rw [h, hz]; rfl)⟩
  | true => exact .inr ⟨rfl, level_neg h1 h2 (hp rfl) (by rw [h, hz]; rfl)⟩
theorem turn_out {D2 D N T c2 : Nat} (h : D2 + c2 * T + D = T) (h1 : D + N = T) (h2 : N < T) : c2 = 0 ∧ D2 = N := by
  rcases (show c2 = 0 ∨ 1 ≤ c2 by omega) with hc | hc
  · subst hc; rw [Nat.zero_mul] at h; exact ⟨rfl, by omega⟩
  · have h4 := Nat.mul_le_mul_right T hc
    generalize c2 * T = p at *
    omega
def mixL (d : Nat → Nat) (v : Nat → Int) (i : Nat) : Nat → Int := fun j => if j < i then (d j : Int) else v j
theorem mix_step (d : Nat → Nat) (v : Nat → Int) (i x : Nat) (j : Nat) : updI (mixL d v i) i (x : Int) j = mixL (upd d i x) v (i + 1) j := by
  unfold updI mixL upd
  by_cases h : j = i
  · subst h; simp
  · simp only [h, if_false]
    by_cases h2 : j < i
    · rw [if_pos h2, if_pos (by omega)]
    · rw [if_neg h2, if_neg (by omega)]
theorem mix_all {w : World} {e g i : Nat} {d : Nat → Nat} {v : Nat → Int} (s : Limbs w e g (mixL d v i)) (hi : 72 ≤ i) : Limbs w e g fun j => (d j : Int) where
  row := s.row.congr fun j hj => by
    unfold i64v mixL
    simp only [show j < i by omega, if_true]
  head := s.head
  ne := s.ne
/-- the digits' number (a structure, that nothing looks into it). -/
structure Lvl (d : Nat → Nat) (N : Nat) : Prop where
  is : dv 32 d 72 = N
set_option maxHeartbeats 4000000 in
theorem level_any (e g : Nat) (v : Nat → Int) (c : Int) (w : World) (hs : Limbs w e g v) (hc : 0 ≤ c ∧ c ≤ 4000000000000000) (hv : ∀ i, -c ≤ v i ∧ v i ≤ c) (N : Nat) (sg : Bool) (hN : iv v 72 = if sg then -(N : Int) else (N : Int)) (hpos : sg = true → 0 < N) (hlt : N < cap34) :
    Calls Try.prog 26 #[.pointer (some ⟨e, 0, none⟩)] w fun ev w' => ev = .returned (.int .i64 (if sg then -1 else 1)) ∧ ∃ d : Nat → Nat, Limbs w' e g (fun j => (d j : Int)) ∧ (∀ j, d j < 4294967296) ∧ Lvl d N ∧ Only g w w' := by
  have HN := hideE hN
  have HL := hideE hlt
  have HP := hideE hpos
  clear hN hlt hpos
  go_enter Try.func26, Try.ntmps26
  go_wp2
  go_loopw [3, 4] (fun cv iv' wl => ∃ (i : Nat) (cy : Int) (d : Nat → Nat), i ≤ 72 ∧ cv = .int .i64 cy ∧ iv' = .int .i64 i ∧ -(c + 1) ≤ cy ∧ cy ≤ c + 1 ∧ HeldE (Limbs wl e g (mixL d v i)) ∧ HeldE (∀ j, d j < 4294967296) ∧ HeldE ((dv 32 d i : Int) + cy * 2 ^ (32 * i) = iv v i) ∧ HeldE (Only g w wl)) (fun _ i _ => 72 - (intOf i).toNat)
  case atStart => exact ⟨0, 0, fun _ => 0, by omega, rfl, rfl, by omega, by omega, hs.congr (fun j => rfl), fun _ => (by decide : (0 : Nat) < 4294967296), (rfl : ((0 : Nat) : Int) + 0 * 1 = 0), Only.refl g w⟩
  case round =>
    obtain ⟨i, cy, d, hi, rfl, rfl, hy1, hy2, HS, HD, HE, HO⟩ := hrel
    by_cases hlt : i < 72
    · have c0 := (unhideE HS).row.cell i hlt
      have f0 := (unhideE HS).row.free i hlt
      have hh := (unhideE HS).head
      have hne := (unhideE HS).ne
      have hmx : mixL d v i i = v i := by unfold mixL; rw [if_neg (by omega)]
      unfold i64v at c0
      rw [hmx] at c0
      have hvi := hv i
      have hst := level_step (unhideE HE)
      have HST := hideE hst
      clear hst hmx HE
      obtain ⟨X, hX⟩ : ∃ X : Int, v i + cy = X := ⟨_, rfl⟩
      have hX1 : -8000000000000010 ≤ X ∧ X ≤ 8000000000000010 := by omega
      rw [hX] at HST
      have hr0 : 0 ≤ X % 4294967296 := by omega
      have hr1 : (X % 4294967296).toNat < 4294967296 := by omega
      have hxq : X - X / 4294967296 * 4294967296 = ((X % 4294967296).toNat : Int) := by omega
      have hq1 : -(c + 1) ≤ X / 4294967296 := by omega
      have hq2 : X / 4294967296 ≤ c + 1 := by omega
      have hq3 : -2000000000 ≤ X / 4294967296 ∧ X / 4294967296 ≤ 2000000000 := by omega
      generalize (X % 4294967296).toNat = r at *
      obtain ⟨q, hq⟩ : ∃ q : Int, X / 4294967296 = q := ⟨_, rfl⟩
      rw [hq] at hxq hq1 hq2 hq3 HST
      have hw : IntKind.i64.wrap (q * 4294967296) = q * 4294967296 := by rw [IntKind.wrap_i64]; omega
      have S2 := hideE ((((unhideE HS).set hlt (r : Int)).congr (mix_step d v i r)))
      have O2 := hideE (((unhideE HO).set i (.int .i64 (r : Int))))
      have D2 : HeldE (∀ j, upd d i r j < 4294967296) := fun j => by
        unfold upd; split
        · exact hr1
        · exact unhideE HD j
      have hi72 : (i : Int) < 72 := by omega
      clear HS HO HD hr0
      go_wp2
      exact ⟨⟨i + 1, q, upd d i r, by omega, rfl, by go_num, hq1, hq2, S2, D2, HST, O2⟩, by simp [intOf]; omega⟩
    · have h72 : i = 72 := by omega
      have hz : iv v i = if sg then -(N : Int) else (N : Int) := by rw [h72]; exact unhideE HN
      rcases level_out (unhideE HD) (by omega) (unhideE HE) hz (unhideE HP) (unhideE HL) with ⟨h1, h2, h3⟩ | ⟨h1, h2, h3⟩
      · subst h1 h2
        have D3 : HeldE (Lvl d N) := ⟨h72 ▸ h3⟩
        have S3 : HeldE (Limbs wr e g fun j => (d j : Int)) := mix_all (unhideE HS) (by omega)
        clear h3 hz HE HS HL HP HN
        go_wp2
        go_ret
        exact ⟨rfl, d, unhideE S3, unhideE HD, unhideE D3, unhideE HO⟩
      · subst h1 h2
        have D3 : HeldE (dv 32 d i + N = 2 ^ (32 * i)) := h3
        have S3 : HeldE (Limbs wr e g fun j => (d j : Int)) := mix_all (unhideE HS) (by omega)
        have HNI := hideE (cap_in (unhideE HL) (show 72 ≤ i by omega))
        have H72 := hideE h72
        clear h3 hz HE HS HL HP HN h72
        go_wp2
        go_loopw [3, 6] (fun cv iv' wl => ∃ (m c2 : Nat) (d2 : Nat → Nat), m ≤ 72 ∧ cv = .int .i64 c2 ∧ iv' = .int .i64 m ∧ c2 ≤ 1 ∧ HeldE (Limbs wl e g (mixL d2 (fun j => (d j : Int)) m)) ∧ HeldE (∀ j, d2 j < 4294967296) ∧ HeldE (dv 32 d2 m + c2 * 2 ^ (32 * m) + dv 32 d m = 2 ^ (32 * m)) ∧ HeldE (Only g w wl)) (fun _ i _ => 72 - (intOf i).toNat)
        case atStart => exact ⟨0, 1, fun _ => 0, by omega, rfl, rfl, by omega, (unhideE S3).congr (fun j => rfl), fun _ => (by decide : (0 : Nat) < 4294967296), (rfl : 0 + 1 * 1 + 0 = 1), HO⟩
        case round =>
          obtain ⟨m, c2, d2, hm, rfl, rfl, hc2, HS, HD2, HE, HO2⟩ := hrel
          by_cases hlt : m < 72
          · have c0 := (unhideE HS).row.cell m hlt
            have f0 := (unhideE HS).row.free m hlt
            have hh := (unhideE HS).head
            have hne := (unhideE HS).ne
            have hmx : mixL d2 (fun j => (d j : Int)) m m = (d m : Int) := by unfold mixL; rw [if_neg (by omega)]
            unfold i64v at c0
            rw [hmx] at c0
            have hdm := unhideE HD m
            have HST := hideE (turn_step hdm (unhideE HE))
            clear hmx HE
            obtain ⟨X, hX⟩ : ∃ X : Nat, 4294967295 - d m + c2 = X := ⟨_, rfl⟩
            rw [hX] at HST
            have hX2 : 4294967295 - (d m : Int) + (c2 : Int) = (X : Int) := by omega
            have hXl : X ≤ 4294967296 := by omega
            have hr1 : X % 4294967296 < 4294967296 := Nat.mod_lt _ (by decide)
            have hq1 : X / 4294967296 ≤ 1 := by omega
            have hxq : (X : Int) - (X : Int) / 4294967296 * 4294967296 = ((X % 4294967296 : Nat) : Int) := by omega
            obtain ⟨q, hq⟩ : ∃ q : Nat, X / 4294967296 = q := ⟨_, rfl⟩
            have hqi : (X : Int) / 4294967296 = (q : Int) := by omega
            obtain ⟨r, hr⟩ : ∃ r : Nat, X % 4294967296 = r := ⟨_, rfl⟩
            rw [hqi, hr] at hxq
            rw [hq] at hq1 HST
            rw [hr] at hr1 HST
            have hw : IntKind.i64.wrap ((q : Int) * 4294967296) = (q : Int) * 4294967296 := by rw [IntKind.wrap_i64]; omega
            have S2 := hideE ((((unhideE HS).set hlt (r : Int)).congr (mix_step d2 _ m r)))
            have O2 := hideE (((unhideE HO2).set m (.int .i64 (r : Int))))
            have D2 : HeldE (∀ j, upd d2 m r j < 4294967296) := fun j => by
              unfold upd; split
              · exact hr1
              · exact unhideE HD2 j
            have hi72 : (m : Int) < 72 := by omega
            clear HS HO2 HD2 hX hq hr
            go_wp2
            exact ⟨⟨m + 1, q, upd d2 m r, by omega, rfl, by go_num, hq1, S2, D2, HST, O2⟩, by simp [intOf]; omega⟩
          · have h72m : m = 72 := by omega
            have him : i = m := (unhideE H72).trans h72m.symm
            obtain ⟨hz2, hz3⟩ : c2 = 0 ∧ dv 32 d2 m = N := turn_out (unhideE HE) (him ▸ unhideE D3) (him ▸ unhideE HNI)
            subst hz2
            have D4 : HeldE (Lvl d2 N) := ⟨h72m ▸ hz3⟩
            have S4 := hideE (mix_all (unhideE HS) (show 72 ≤ m by omega))
            clear hz3 HE HS D3 HNI
            go_wp2
            go_ret
            exact ⟨rfl, d2, unhideE S4, unhideE HD2, unhideE D4, unhideE HO2⟩
end Go.Proofs.Ytmgnobeaacjdjac
