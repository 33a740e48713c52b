/-
  Means: both typings by their contracts.
-/
import Derived.Test.YtfifbcoedfdnjabSgd
import Derived.Deep.QuietTactic
import Derived.BigQuiet
import Derived.Below
import Derived.Lib.Hide
namespace Go.Proofs.Ytfifbcoedfdnjab
open Go.RowKit

def Held (p : Prop) : Prop := p
theorem hide {p : Prop} (h : p) : Held p := h
theorem unhide {p : Prop} (h : Held p) : p := h

def dif (z x : Int) : Int := sgd (nrm x - nrm z)
/-- The sum of the differences from z, behind s. -/
def sums (z : Int) : List Int → Int → Option Int
  | [], s => some s
  | x :: L, s => if 324000000000 ≤ far (dif z x) then none else sums z L (s + dif z x)
def fin (z n : Int) : Option Int → Int × Bool
  | none => (0, false)
  | some s => (nrm (nrm z + s / n), true)
def mean (L : List Int) : Int × Bool := if L.length = 0 ∨ 4000 < L.length then (0, false) else fin (L.getD 0 0) L.length (sums (L.getD 0 0) L 0)

theorem drop_here (L : List Int) (k : Nat) (h : k < L.length) : L.drop k = L.getD k 0 :: L.drop (k + 1) := by
  rw [List.drop_eq_getElem_cons h]; simp [List.getD, List.getElem?_eq_getElem h]
theorem far_range (d : Int) : 0 ≤ far d ∧ -far d ≤ d ∧ d ≤ far d := by unfold far; split <;> omega
theorem dif_range (z x : Int) : -648000000000 < dif z x ∧ dif z x ≤ 648000000000 := sgd_range _

theorem floor_tdiv (n b : Int) (hb : 0 < b) : (n.tmod b < 0 ∧ n / b = n.tdiv b - 1) ∨ (0 ≤ n.tmod b ∧ n / b = n.tdiv b) := by
  have e := Int.mul_tdiv_add_tmod n b
  have hl := Int.natAbs_tmod n b
  have hl2 : (n.tmod b).natAbs < b.natAbs := by rw [hl]; exact Nat.mod_lt _ (by omega)
  rcases (show n.tmod b < 0 ∨ 0 ≤ n.tmod b by omega) with h | h
  · left
    refine ⟨h, ?_⟩
    have := (Int.ediv_emod_unique (a := n) (b := b) (q := n.tdiv b - 1) (r := n.tmod b + b) hb).2 ⟨by rw [Int.mul_sub]; omega, by omega, by omega⟩
    exact this.1
  · right
    refine ⟨h, ?_⟩
    have := (Int.ediv_emod_unique (a := n) (b := b) (q := n.tdiv b) (r := n.tmod b) hb).2 ⟨by omega, by omega, by omega⟩
    exact this.1
theorem tdiv_range (n b : Int) (h1 : -2000000000000000 ≤ n) (h2 : n ≤ 2000000000000000) : -2000000000000001 ≤ n.tdiv b ∧ n.tdiv b ≤ 2000000000000001 := by
  have := Int.natAbs_tdiv n b
  have h : (n.tdiv b).natAbs ≤ n.natAbs := by rw [this]; exact Nat.div_le_self _ _
  omega

theorem floored_any (n b : Int) (w : World) (hb : 0 < b) (h1 : -2000000000000000 ≤ n) (h2 : n ≤ 2000000000000000) :
    Calls Try.prog 15 #[.int .i64 n, .int .i64 b] w fun e w' => e = .returned (.int .i64 (n / b)) ∧ w' = w := by
  obtain ⟨t1, t2⟩ := tdiv_range n b h1 h2
  have hne : ¬ b = 0 := by omega
  have hne1 : ¬ b = -1 := by omega
  rcases floor_tdiv n b hb with ⟨h, e⟩ | ⟨h, e⟩
  · rw [e]
    clear e
    generalize hq : n.tdiv b = q at *
    generalize hr : n.tmod b = r at *
    go_enter Try.func15, Try.ntmps15
    go_wp2
    go_ret
    exact ⟨rfl, rfl⟩
  · rw [e]
    clear e
    generalize hq : n.tdiv b = q at *
    generalize hr : n.tmod b = r at *
    go_enter Try.func15, Try.ntmps15
    go_wp2
    go_ret
    exact ⟨rfl, rfl⟩

set_option maxHeartbeats 400000 in
theorem mean_some (b off cap : Nat) (L : List Int) (w : World) (h0 : 0 < L.length) (h1 : L.length ≤ 4000) (hc : ∀ j, j < L.length → w.cell? ⟨b, off + j, none⟩ = some (.int .i64 (L.getD j 0))) :
    Calls Try.prog 11 #[.slice (some ⟨b, off, none⟩) L.length cap] w fun e w' => e = .returned (.tuple #[.int .i64 (mean L).1, .bool (mean L).2]) ∧ w' = w := by
  have hm : mean L = fin (L.getD 0 0) L.length (sums (L.getD 0 0) L 0) := by unfold mean; rw [if_neg (by omega)]
  generalize mean L = m at hm ⊢
  have HM := hide hm
  clear hm
  have c0 := hc 0 h0
  rw [Nat.add_zero] at c0
  have HC := hide hc
  clear hc
  generalize hz : L.getD 0 0 = z at *
  have HZ := hide hz
  clear hz
  obtain ⟨z1, z2⟩ := nrm_range z
  have hn : ((L.length : Int) == 0) = false := by rw [beq_eq_false_iff_ne]; omega
  have hd4 : decide ((4000 : Int) < (L.length : Int)) = false := by simp; omega
  go_enter Try.func11, Try.ntmps11
  go_wp2
  go_loop [4, 18] (fun x y => ∃ (k : Nat) (s : Int), k ≤ L.length ∧ y = .int .i64 k ∧ x = .int .i64 s ∧ sums z L 0 = sums z (L.drop k) s ∧ -(k * 324000000000) ≤ s ∧ s ≤ k * 324000000000) (fun _ y => L.length - (intOf y).toNat)
  case atStart => exact ⟨0, 0, Nat.zero_le _, rfl, rfl, rfl, by omega, by omega⟩
  case round =>
    obtain ⟨k, s, hk, rfl, rfl, hs, s1, s2⟩ := hrel
    have HS := hide hs
    clear hs
    by_cases hlt : k < L.length
    · have ck := unhide HC k hlt
      have hd := drop_here L k hlt
      have HD := hide hd
      clear hd
      generalize L.getD k 0 = x at *
      obtain ⟨d1, d2⟩ := dif_range z x
      obtain ⟨f1, f2, f3⟩ := far_range (dif z x)
      have ST : sums z L 0 = if 324000000000 ≤ far (dif z x) then none else sums z (L.drop (k + 1)) (s + dif z x) := by rw [unhide HS, unhide HD]; rfl
      have HT := hide ST
      clear ST
      have hdif : sgd (nrm x - nrm z) = dif z x := rfl
      by_cases hf : 324000000000 ≤ far (dif z x)
      · have hres := unhide HT
        rw [if_pos hf] at hres
        have hm := unhide HM
        rw [hres] at hm
        simp only [fin] at hm
        subst hm
        clear hres
        go_wp2_with (first
          | (go_at_call 14; refine (difference_any _ _ _).mono ?_; rintro e w' ⟨rfl, rfl⟩)
          | (go_at_call 13; refine (size_any _ _ (by omega) (by omega)).mono ?_; rintro e w' ⟨rfl, rfl⟩))
        go_ret2
        exact ⟨rfl, rfl⟩
      · have hres := unhide HT
        rw [if_neg hf] at hres
        have HR := hide hres
        clear hres
        go_wp2_with (first
          | (go_at_call 14; refine (difference_any _ _ _).mono ?_; rintro e w' ⟨rfl, rfl⟩)
          | (go_at_call 13; refine (size_any _ _ (by omega) (by omega)).mono ?_; rintro e w' ⟨rfl, rfl⟩))
        exact ⟨⟨k + 1, s + dif z x, by omega, by go_num, rfl, unhide HR, by omega, by omega⟩, by simp [intOf]; omega⟩
    · obtain rfl : k = L.length := by omega
      have hres := unhide HS
      rw [List.drop_length] at hres
      simp only [sums] at hres
      have hm := unhide HM
      rw [hres] at hm
      simp only [fin] at hm
      subst hm
      clear hres
      have hq := floor_tdiv s L.length (by omega)
      have hq2 := tdiv_range s L.length (by omega) (by omega)
      have hf1 : -3000000000000000 ≤ s / (L.length : Int) ∧ s / (L.length : Int) ≤ 3000000000000000 := by omega
      obtain ⟨hf1, hf2⟩ := hf1
      clear hq hq2
      go_wp2_with (first
        | (go_at_call 6; refine (norm_any _ _).mono ?_; rintro e w' ⟨rfl, rfl⟩)
        | (go_at_call 15; refine (floored_any _ _ _ (by omega) (by omega) (by omega)).mono ?_; rintro e w' ⟨rfl, rfl⟩))
      go_ret2
      exact ⟨rfl, rfl⟩

theorem mean_none (a : Option Addr) (len cap : Nat) (w : World) (h : len = 0 ∨ 4000 < len) (h2 : len ≤ 9223372036854775807) :
    Calls Try.prog 11 #[.slice a len cap] w fun e w' => e = .returned (.tuple #[.int .i64 0, .bool false]) ∧ w' = w := by
  rcases h with rfl | h
  · go_enter Try.func11, Try.ntmps11
    go_wp2
    go_ret2
    exact ⟨rfl, rfl⟩
  · have hn : ¬ len = 0 := by omega
    have hd : decide ((4000 : Int) < (len : Int)) = true := by simp; omega
    go_enter Try.func11, Try.ntmps11
    go_wp2
    go_ret2
    exact ⟨rfl, rfl⟩
end Go.Proofs.Ytfifbcoedfdnjab
