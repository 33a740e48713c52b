/-
  Chains of turns, there and back: within what is told.
-/
import Derived.Test.YtbjpkfmencaafafDoorChM3
import Derived.Test.YtbjpkfmencaafafDoorLens0
namespace Go.Proofs.YtbjpkfmencaafafDoor
open Go

def c42 : Nat := 4418031234450456576
theorem c42_is : Is c42 (p2 (-42)) := by unfold Is; decide +kernel
theorem z_turn {k d : Int} {p q : V3} (t : Turned k d p q) (h : VIs p ⟨0, 0, 0⟩) : VIs q ⟨0, 0, 0⟩ := by
  obtain ⟨S, C, is, ic, _⟩ := circ2 d
  obtain ⟨ta, tb, tc⟩ := turned_parts t
  obtain ⟨ia, ib, ik⟩ := vis_parts k h
  have e1 : qa k ⟨0, 0, 0⟩ = 0 := by unfold qa; split <;> (try split) <;> rfl
  have e2 : qb k ⟨0, 0, 0⟩ = 0 := by unfold qb; split <;> (try split) <;> rfl
  have e3 : qc k ⟨0, 0, 0⟩ = 0 := by unfold qc; split <;> (try split) <;> rfl
  rw [e1] at ia
  rw [e2] at ib
  rw [e3] at ik
  have em : mk3 k 0 0 0 = ⟨0, 0, 0⟩ := by unfold mk3; split <;> (try split) <;> rfl
  rw [← em]
  cases ta with
  | op a1 a2 a3 =>
    cases tb with
    | op b1 b2 b3 =>
      cases a1 with | op x1 x2 x3 =>
      cases x1; cases x2
      cases a2 with | op x1 x2 x4 =>
      cases x1; cases x2
      cases b1 with | op x1 x2 x5 =>
      cases x1; cases x2
      cases b2 with | op x1 x2 x6 =>
      cases x1; cases x2
      exact vis_mk k (sub_zero2 (mul_zero_l ia ic x3) (mul_zero_l ib is x4) a3) (add_zero2 (mul_zero_l ia is x5) (mul_zero_l ib ic x6) b3) (by rw [tc]; exact ik)
theorem z_al {L : List St} {v : V3} (h0 : VIs v ⟨0, 0, 0⟩) : ∀ {n : Nat} {q : V3}, Al L v n q → VIs q ⟨0, 0, 0⟩
  | 0, _, h => by cases h; exact h0
  | n + 1, _, h => by
    cases h with
    | succ h1 h2 h3 => exact z_turn h3 (z_al h0 h1)
theorem z_ag {L : List St} {v : V3} (h0 : VIs v ⟨0, 0, 0⟩) : ∀ {n : Nat} {q : V3}, Ag L v n q → VIs q ⟨0, 0, 0⟩
  | 0, _, h => by cases h; exact h0
  | n + 1, _, h => by
    cases h with
    | succ h1 h2 h3 => exact z_turn h3 (z_ag h0 h1)
theorem mild_sq {a : Rat} (h : Mild a) : a * a ≤ p2 600 ∧ (a = 0 ∨ p2 (-600) ≤ a * a) := by
  have f : p2 300 * p2 300 ≤ p2 600 ∧ p2 (-600) ≤ p2 (-300) * p2 (-300) ∧ 0 < p2 600 ∧ 0 ≤ p2 (-300) := by decide +kernel
  obtain ⟨f1, f2, f3, f4⟩ := f
  rcases h with rfl | ⟨h1, h2⟩
  · exact ⟨by grind, .inl rfl⟩
  · have l := le_ab a
    have s1 := sq_le (d := a) (e := p2 300) (by grind) (by grind)
    have e : ab a * ab a = a * a := by unfold ab; split <;> grind
    have s2 := sq_le (d := p2 (-300)) (e := ab a) h1 (by grind)
    rw [e] at s2
    exact ⟨by grind, .inr (by grind)⟩
theorem t_fits2 : p2 (-900) ≤ p2 (-600) ∧ 3 * p2 600 ≤ p2 900 ∧ p2 (-302) * p2 (-302) ≤ p2 (-600) / 2 ∧ 4 * p2 600 ≤ p2 303 * p2 303 ∧ p2 (-305) ≤ p2 (-302) ∧ 2 * p2 303 ≤ p2 305 ∧ 0 ≤ p2 303 ∧ 0 < p2 (-302) ∧ p2 305 < p2 1000 ∧ 1000000 * (9007199254740992 * tau) ≤ p2 (-302) ∧ p2 (-42) = 2048 / 9007199254740992 ∧ 0 < p2 (-600) := by decide +kernel
/-- one coordinate. -/
theorem one_within {x v f m : Nat} {X V T K Mt : Rat} (ix : Is x X) (iv : Is v V) (hf : FOp .sub x v f) (im : Is m Mt) (T1 : p2 (-302) ≤ T) (T2 : T ≤ p2 303) (h1 : X - V ≤ K) (h2 : -K ≤ X - V) (hK : K ≤ 1990 * (T / 9007199254740992)) (hM : 2047 * (T / 9007199254740992) ≤ Mt) : wiB f m = true := by
  obtain ⟨f1, f2, f3, f4, f5, f6, f7, f8, f9, f10, f11, f12⟩ := t_fits2
  have tp := tau_pos
  obtain ⟨t, it, n⟩ := sub_le ix iv h1 h2 (by grind) hf
  unfold Near at n
  exact wi_of it im (by grind) (by grind)
theorem chain_within {L : List St} {v x g : V3} {t l m : Nat} (hN : L.length ≤ 60) (hx : mildB v.x = true) (hy : mildB v.y = true) (hz : mildB v.z = true) (ha : Al L v L.length x) (hg : Ag L x L.length g) (ht : Ev (lenE v.x v.y v.z) t) (hl : FSq t l) (hm : FOp .mul c42 l m) :
    (∀ f, FOp .sub g.x v.x f → wiB f m = true) ∧ (∀ f, FOp .sub g.y v.y f → wiB f m = true) ∧ ∀ f, FOp .sub g.z v.z f → wiB f m = true := by
  obtain ⟨a, ia, ma⟩ := mild_spec hx
  obtain ⟨b, ib, mb⟩ := mild_spec hy
  obtain ⟨c, ic, mc⟩ := mild_spec hz
  have i0 : VIs v ⟨a, b, c⟩ := ⟨ia, ib, ic⟩
  by_cases hall : a = 0 ∧ b = 0 ∧ c = 0
  · obtain ⟨rfl, rfl, rfl⟩ := hall
    have ig := z_ag (z_al i0 ha) hg
    have hl0 : Is l 0 := by
      cases ht with
      | op a1 a2 a3 =>
        cases a1 with | op b1 b2 b3 =>
        cases b1 with | op x1 x2 x3 =>
        cases x1; cases x2
        cases b2 with | op x1 x2 x4 =>
        cases x1; cases x2
        cases a2 with | op x1 x2 x5 =>
        cases x1; cases x2
        exact sq_zero (add_zero2 (add_zero2 (mul_zero_l ia ia x3) (mul_zero_l ib ib x4) b3) (mul_zero_l ic ic x5) a3) hl
    have im := mul_zero_r c42_is hl0 hm
    refine ⟨fun f hf => ?_, fun f hf => ?_, fun f hf => ?_⟩
    · exact wi_of (sub_zero2 ig.x ia hf) im (by grind) (by grind)
    · exact wi_of (sub_zero2 ig.y ib hf) im (by grind) (by grind)
    · exact wi_of (sub_zero2 ig.z ic hf) im (by grind) (by grind)
  · obtain ⟨f1, f2, f3, f4, f5, f6, f7, f8, f9, f10, f11, f12⟩ := t_fits2
    obtain ⟨sa, sa'⟩ := mild_sq ma
    obtain ⟨sb, sb'⟩ := mild_sq mb
    obtain ⟨sc, sc'⟩ := mild_sq mc
    have na := sq_nn' a
    have nb := sq_nn' b
    have nc := sq_nn' c
    obtain ⟨V, hV⟩ : ∃ V, a * a + b * b + c * c = V := ⟨_, rfl⟩
    have v1 : p2 (-600) ≤ V := by
      rcases sa' with h | h
      · rcases sb' with h' | h'
        · rcases sc' with h'' | h''
          · exact absurd ⟨h, h', h''⟩ hall
          · grind
        · grind
      · grind
    have v2 : V ≤ 3 * p2 600 := by grind
    obtain ⟨T, iT, T0, nT⟩ := len_gen ia ib ic hV (by grind) (by grind) ht (fun u hu => by unfold FSq at hl; rw [hu] at hl; exact hl)
    unfold Near at nT
    have T1 := (le_of_sq (d := p2 (-302)) (e := T) (by grind) (by grind)).1
    have T2 := (le_of_sq (d := T) (e := p2 303) f7 (by grind)).1
    have hLQ : LQ ⟨a, b, c⟩ (100001 / 100000 * T) := ⟨by grind, by
      show a * a + b * b + c * c ≤ _
      rw [hV]
      have e : 100001 / 100000 * T * (100001 / 100000 * T) = 100001 / 100000 * (100001 / 100000) * (T * T) := by grind
      rw [e]
      generalize T * T = TT at *
      grind⟩
    obtain ⟨f, g0, gn, ft⟩ := al_path ha
    rw [← gn] at hg
    obtain ⟨y, u, iy, iu, hD⟩ := back_all (M := 100001 / 100000 * T) (by grind) (by grind) (by rw [g0]; exact i0) hLQ hN ft L.length g (Nat.le_refl _) hg
    rw [Nat.sub_self, g0] at iu
    have e1 := is_unique iu.x ia
    have e2 := is_unique iu.y ib
    have e3 := is_unique iu.z ic
    have c1 := cast_le hN
    have e60 : ((60 : Nat) : Rat) = 60 := rfl
    rw [e60] at c1
    have hX : 0 ≤ T / 9007199254740992 := by grind
    have n2 := Rat.mul_nonneg (show 0 ≤ 60 - (L.length : Rat) by grind) hX
    obtain ⟨K, hK⟩ : ∃ K, K = (L.length : Rat) * (33 * (1001 / 1000 * (100001 / 100000 * T) / 9007199254740992)) := ⟨_, rfl⟩
    have hKb : K ≤ 1990 * (T / 9007199254740992) := by
      have e : K = 33 * 1001 / 1000 * 100001 / 100000 * ((L.length : Rat) * (T / 9007199254740992)) := by rw [hK]; grind
      rw [e]
      generalize (L.length : Rat) * (T / 9007199254740992) = s at *
      grind
    rw [← hK] at hD
    have hw : Wi (y.x - u.x) (y.y - u.y) (y.z - u.z) K := hD
    have x1 := hw.x
    have x2 := hw.rot.x
    have x3 := hw.rot.rot.x
    rw [e1] at x1
    rw [e2] at x2
    rw [e3] at x3
    obtain ⟨Mt, iM, hM⟩ := mul_le (A := 2048 / 9007199254740992 * T) c42_is iT (by rw [f11]; grind) (by rw [f11]; grind) (by grind) hm
    unfold Near at hM
    rw [f11] at hM
    have tp := tau_pos
    have hMt : 2047 * (T / 9007199254740992) ≤ Mt := by grind
    exact ⟨fun f hf => one_within iy.x ia hf iM T1 T2 x1.1 x1.2 hKb hMt, fun f hf => one_within iy.y ib hf iM T1 T2 x2.1 x2.2 hKb hMt, fun f hf => one_within iy.z ic hf iM T1 T2 x3.1 x3.2 hKb hMt⟩
end Go.Proofs.YtbjpkfmencaafafDoor
