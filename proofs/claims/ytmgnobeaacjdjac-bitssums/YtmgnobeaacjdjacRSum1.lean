/-
  The document's exact sum: a number taken, by its contract.
-/
import Derived.Test.YtmgnobeaacjdjacExact2
import Derived.Test.YtmgnobeaacjdjacLimb
namespace Go.Proofs.Ytmgnobeaacjdjac
open Go Go.RowKit

def i64v (v : Nat → Int) : Nat → Value := fun j => .int .i64 (v j)
/-- the document's sum: at e the slice, at g its 72 digits. -/
structure Limbs (w : World) (e g : Nat) (v : Nat → Int) : Prop where
  row : RowIs w g 72 (i64v v)
  head : w.cell? ⟨e, 0, none⟩ = some (.slice (some ⟨g, 0, none⟩) 72 72)
  ne : e ≠ g
theorem Limbs.set {w : World} {e g : Nat} {v : Nat → Int} (s : Limbs w e g v) {k : Nat} (hk : k < 72) (x : Int) : Limbs (w.setCell ⟨g, k, none⟩ (.int .i64 x)) e g (updI v k x) where
  row := (s.row.set hk _).congr fun j _ => by unfold updA i64v updI; split <;> rfl
  head := by
    rw [World.cell?_setCell_other]
    · exact s.head
    · intro h; injection h with h1; exact s.ne h1.symm
  ne := s.ne
theorem Limbs.drew {w : World} {e g : Nat} {v : Nat → Int} (s : Limbs w e g v) : Limbs w.drew e g v := ⟨⟨s.row.cell, s.row.free, s.row.lt⟩, s.head, s.ne⟩
theorem Limbs.congr {w : World} {e g : Nat} {v u : Nat → Int} (s : Limbs w e g v) (h : ∀ j, v j = u j) : Limbs w e g u := ⟨s.row.congr fun j _ => by unfold i64v; rw [h j], s.head, s.ne⟩
theorem take_three (v : Nat → Int) (s : Int) (x k : Nat) (hk : upU x / 32 = k) (A B D : Int) (hA : A = v k + s * limb0 x) (hB : B = v (k + 1) + s * limb1 x) (hD : D = v (k + 2) + s * limb2 x) (j : Nat) :
    updI (updI (updI v k A) (k + 1) B) (k + 2) D j = takeL v s x j := by
  unfold updI takeL
  rw [hk, hA, hB, hD]
  by_cases h0 : j = k
  · subst h0; simp
  · by_cases h1 : j = k + 1
    · subst h1; simp
    · by_cases h2 : j = k + 2
      · subst h2; simp
      · simp [h0, h1, h2]
/-- what Take reckons with. -/
theorem take_facts (x : Nat) : ∃ lo hi : Nat, IntKind.u64.wrap ((szU x : Int) % 4294967296 * 2 ^ (upU x % 32)) = (lo : Int) ∧ IntKind.u64.wrap ((szU x : Int) / 4294967296 * 2 ^ (upU x % 32)) = (hi : Int) ∧ lo < 9223372036854775808 ∧ hi < 4503599627370496 ∧ limb0 x = lo % 4294967296 ∧ limb1 x = lo / 4294967296 + hi % 4294967296 ∧ limb2 x = hi / 4294967296 := by
  have h1 := low_lt x
  have h2 := high_lt x
  refine ⟨szU x % 4294967296 * 2 ^ (upU x % 32), szU x / 4294967296 * 2 ^ (upU x % 32), ?_, ?_, h1, h2, rfl, rfl, rfl⟩
  · have e : (szU x : Int) % 4294967296 * 2 ^ (upU x % 32) = ((szU x % 4294967296 * 2 ^ (upU x % 32) : Nat) : Int) := by simp
    rw [e, IntKind.wrap_u64]
    omega
  · have e : (szU x : Int) / 4294967296 * 2 ^ (upU x % 32) = ((szU x / 4294967296 * 2 ^ (upU x % 32) : Nat) : Int) := by simp
    rw [e, IntKind.wrap_u64]
    omega
set_option maxHeartbeats 4000000 in
theorem take_any (e g x : Nat) (v : Nat → Int) (c : Int) (w : World) (hs : Limbs w e g v) (hx : x < 18446744073709551616) (hf : isF x = true) (hc : 0 ≤ c ∧ c ≤ 4000000000000000) (hv : ∀ i, -c ≤ v i ∧ v i ≤ c) :
    Calls Try.prog 23 #[.pointer (some ⟨e, 0, none⟩), .float .f64 x] w fun ev w' => ev = .returned (.tuple #[]) ∧ Limbs w' e g (takeL v (if sgB x then -1 else 1) x) ∧ Only g w w' := by
  have hb := run_tobitsI
  have hup := upU_le x hf
  have hsl := szU_lt x
  obtain ⟨lo, hi, e1, e2, hlo, hhi, l0, l1, l2⟩ := take_facts x
  have hsz : szU x = if expo x = 0 then frac x else frac x + 4503599627370496 := rfl
  have hupd : upU x = expo x - 1 := rfl
  have a1 : (x : Int) / 4503599627370496 % 2048 = (expo x : Int) := by unfold expo; omega
  have a2 : (x : Int) % 4503599627370496 = (frac x : Int) := by unfold frac; omega
  have hel : expo x < 2048 := Nat.mod_lt _ (by decide)
  have hfl : frac x < 4503599627370496 := Nat.mod_lt _ (by decide)
  have T3 := hideE (take_three v (if sgB x then -1 else 1) x (upU x / 32) rfl)
  rw [l0, l1, l2] at T3
  have hsg : (sgB x = true ∧ (x : Int) / 9223372036854775808 = 1) ∨ (sgB x = false ∧ (x : Int) / 9223372036854775808 = 0) := by
    unfold sgB
    rcases (show x / 9223372036854775808 = 0 ∨ x / 9223372036854775808 = 1 by omega) with h | h
    · right; rw [h]; exact ⟨rfl, by omega⟩
    · left; rw [h]; exact ⟨rfl, by omega⟩
  have m32 : ((upU x : Int)).tdiv 32 = ((upU x / 32 : Nat) : Int) := by rw [Int.tdiv_eq_ediv_of_nonneg (by omega)]; omega
  have r32 : ((upU x : Int)).tmod 32 = ((upU x % 32 : Nat) : Int) := by rw [Int.tmod_eq_emod_of_nonneg (by omega)]; omega
  have hk : upU x / 32 ≤ 63 := by omega
  have hm : upU x % 32 < 32 := by omega
  clear l0 l1 l2
  generalize upU x / 32 = k at *
  generalize upU x % 32 = m at *
  generalize szU x = s at *
  generalize upU x = f at *
  generalize expo x = ex at *
  generalize frac x = fr at *
  have c0 := hs.row.cell k (by omega)
  have c1 := hs.row.cell (k + 1) (by omega)
  have c2 := hs.row.cell (k + 2) (by omega)
  have f0 := hs.row.free k (by omega)
  have f1 := hs.row.free (k + 1) (by omega)
  have f2 := hs.row.free (k + 2) (by omega)
  unfold i64v at c0 c1 c2
  have b0 := hv k
  have b1 := hv (k + 1)
  have b2 := hv (k + 2)
  have hh := hs.head
  have hne : e ≠ g := hs.ne
  have k1 : (k : Int) < 72 := by omega
  have k2 : (k : Int) + 1 < 72 := by omega
  have k3 : (k : Int) + 2 < 72 := by omega
  rcases hsg with ⟨hsg, hq⟩ | ⟨hsg, hq⟩ <;> rw [hsg] at T3 ⊢ <;> simp only [if_true, Bool.false_eq_true, if_false] at T3 ⊢ <;> by_cases h0 : ex = 0
  · rw [if_pos h0] at hsz
    have hf0 : f = 0 := by omega
    have hk0 : k = 0 := by rw [hf0] at m32; simp at m32; omega
    have hm0 : m = 0 := by rw [hf0] at r32; simp at r32; omega
    subst hk0 hm0 hsz
    have q1 : (s : Int) % 4294967296 = (lo : Int) := by rw [← e1, Int.pow_zero, Int.mul_one, IntKind.wrap_u64]; omega
    have q2 : (s : Int) / 4294967296 = (hi : Int) := by rw [← e2, Int.pow_zero, Int.mul_one, IntKind.wrap_u64]; omega
    have hex : ((x : Int) / 4503599627370496 % 2048) = 0 := by omega
    clear e1 e2 hupd hsg m32 r32 a1 h0 hf0 hup
    simp only [Nat.zero_add] at T3 c1 c2 f1 f2 b1 b2
    go_enter Try.func23, Try.ntmps23
    go_wp2
    go_region
    go_wp2
    go_region
    go_wp2
    go_region
    go_wp2
    go_end0
    exact ⟨rfl, ((((hs.set (by omega) _).set (by omega) _).set (by omega) _).congr (fun j => unhideE T3 _ _ _ (by omega) (by omega) (by omega) j)).drew.drew.drew, ((((Only.refl g w).set 0 _).set 1 _).set 2 _).drew.drew.drew⟩
  · rw [if_neg h0] at hsz
    have g1 : (ex : Int) - 1 = (f : Int) := by omega
    have g2 : IntKind.u64.wrap ((fr : Int) + 4503599627370496) = (s : Int) := by rw [IntKind.wrap_u64]; omega
    have g3 : (0 : Int) < (ex : Int) := by omega
    clear hsz hupd h0 hsg
    go_enter Try.func23, Try.ntmps23
    go_wp2
    go_region
    go_wp2
    go_region
    go_wp2
    go_region
    go_wp2
    go_end0
    exact ⟨rfl, ((((hs.set (by omega) _).set (by omega) _).set (by omega) _).congr (fun j => unhideE T3 _ _ _ (by omega) (by omega) (by omega) j)).drew.drew.drew, ((((Only.refl g w).set k _).set (k + 1) _).set (k + 2) _).drew.drew.drew⟩
  · rw [if_pos h0] at hsz
    have hf0 : f = 0 := by omega
    have hk0 : k = 0 := by rw [hf0] at m32; simp at m32; omega
    have hm0 : m = 0 := by rw [hf0] at r32; simp at r32; omega
    subst hk0 hm0 hsz
    have q1 : (s : Int) % 4294967296 = (lo : Int) := by rw [← e1, Int.pow_zero, Int.mul_one, IntKind.wrap_u64]; omega
    have q2 : (s : Int) / 4294967296 = (hi : Int) := by rw [← e2, Int.pow_zero, Int.mul_one, IntKind.wrap_u64]; omega
    have hex : ((x : Int) / 4503599627370496 % 2048) = 0 := by omega
    clear e1 e2 hupd hsg m32 r32 a1 h0 hf0 hup
    simp only [Nat.zero_add] at T3 c1 c2 f1 f2 b1 b2
    go_enter Try.func23, Try.ntmps23
    go_wp2
    go_region
    go_wp2
    go_region
    go_wp2
    go_region
    go_wp2
    go_end0
    exact ⟨rfl, ((((hs.set (by omega) _).set (by omega) _).set (by omega) _).congr (fun j => unhideE T3 _ _ _ (by omega) (by omega) (by omega) j)).drew.drew.drew, ((((Only.refl g w).set 0 _).set 1 _).set 2 _).drew.drew.drew⟩
  · rw [if_neg h0] at hsz
    have g1 : (ex : Int) - 1 = (f : Int) := by omega
    have g2 : IntKind.u64.wrap ((fr : Int) + 4503599627370496) = (s : Int) := by rw [IntKind.wrap_u64]; omega
    have g3 : (0 : Int) < (ex : Int) := by omega
    clear hsz hupd h0 hsg
    go_enter Try.func23, Try.ntmps23
    go_wp2
    go_region
    go_wp2
    go_region
    go_wp2
    go_region
    go_wp2
    go_end0
    exact ⟨rfl, ((((hs.set (by omega) _).set (by omega) _).set (by omega) _).congr (fun j => unhideE T3 _ _ _ (by omega) (by omega) (by omega) j)).drew.drew.drew, ((((Only.refl g w).set k _).set (k + 1) _).set (k + 2) _).drew.drew.drew⟩
end Go.Proofs.Ytmgnobeaacjdjac
