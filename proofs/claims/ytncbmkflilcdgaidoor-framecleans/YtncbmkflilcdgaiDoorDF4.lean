/-
  The program's pictures: means, light, empty ones.
-/
import Derived.Test.YtncbmkflilcdgaiDoorDF3
import Derived.Test.YtncbmkflilcdgaiDoorFrCl
namespace Go.Proofs.YtncbmkflilcdgaiDoor
open Go Go.RowKit

def MeanPost (f : Pic) (w : World) (e : Ending) (w' : World) : Prop := w' = w ∧ ((someN f.L = 0 ∧ e = .returned (.tuple #[.int .i64 0, .bool false])) ∨ (someN f.L ≠ 0 ∧ e = .returned (.tuple #[.int .i64 (sumV f.L / (someN f.L : Int)), .bool true])))
structure MeanAt (f : Pic) (k : Nat) (S : Int) (N : Nat) : Prop where
  s : S = sumV (f.L.take k)
  n : N = someN (f.L.take k)
set_option maxRecDepth 100000 in
set_option maxHeartbeats 1600000 in
theorem mean_any {w : World} {ad : Option Addr} {cap : Nat} {f : Pic} (hr : ICame w ad f.L) (hf : PicOk f) : Calls Tryd.prog 12 #[.slice ad f.L.length cap] w (MeanPost f w) := by
  have HR := hideR hr
  have HF := hideR hf
  have hfew := hf.few
  clear hr hf
  go_enter Tryd.func12, Tryd.ntmps12
  go_wp2
  go_loop [4, 5, 10] (fun sv nv kv => ∃ (k N : Nat) (S : Int), k ≤ f.L.length ∧ kv = .int .i64 (k : Nat) ∧ sv = .int .i64 S ∧ nv = .int .i64 (N : Nat) ∧ HeldR (MeanAt f k S N) ∧ 0 ≤ S ∧ S ≤ (k : Int) * 65535 ∧ N ≤ k) (fun _ _ kv => f.L.length + 1 - (intOf kv).toNat)
  case atStart => exact ⟨0, 0, 0, by omega, rfl, rfl, rfl, hideR ⟨rfl, rfl⟩, by omega, by omega, by omega⟩
  case round =>
    obtain ⟨k, N, S, hk, rfl, rfl, rfl, HA, hS0, hS1, hN⟩ := hrel
    by_cases hlt : k < f.L.length
    · obtain ⟨b1, o1, rfl, _, x1⟩ := (unhideR HR).at_ k hlt
      have hx := (unhideR HF).each k hlt
      have HS : HeldR (sumV (f.L.take (k + 1)) = S + f.L.getD k 0) := hideR (by rw [sum_next hlt, (unhideR HA).s])
      have HN : HeldR (someN (f.L.take (k + 1)) = N + if f.L.getD k 0 = 0 then 0 else 1) := hideR (by rw [some_next hlt, (unhideR HA).n])
      generalize f.L.getD k 0 = x at *
      obtain ⟨hx0, hx1⟩ := hx
      by_cases hp : 0 < x
      · have HN2 : HeldR (someN (f.L.take (k + 1)) = N + 1) := hideR (by rw [unhideR HN, if_neg (by omega)])
        clear HN
        go_wp2
        exact ⟨⟨k + 1, N + 1, S + x, by omega, by go_num, by go_num, by go_num, hideR ⟨(unhideR HS).symm, (unhideR HN2).symm⟩, by omega, by omega, by omega⟩, by simp [intOf]; omega⟩
      · obtain rfl : x = 0 := by omega
        have HN2 : HeldR (someN (f.L.take (k + 1)) = N) := hideR (by rw [unhideR HN, if_pos rfl, Nat.add_zero])
        clear HN hx0 hx1
        go_wp2
        exact ⟨⟨k + 1, N, S, by omega, by go_num, rfl, rfl, hideR ⟨(by rw [unhideR HS, Int.add_zero]), (unhideR HN2).symm⟩, by omega, by omega, by omega⟩, by simp [intOf]; omega⟩
    · obtain rfl : k = f.L.length := by omega
      have HE : HeldR (S = sumV f.L ∧ N = someN f.L) := hideR (by have := unhideR HA; have h1 := this.s; have h2 := this.n; rw [List.take_length] at h1 h2; exact ⟨h1, h2⟩)
      by_cases h0 : N = 0
      · subst h0
        go_wp2
        go_ret2
        exact ⟨rfl, .inl ⟨(unhideR HE).2.symm, rfl⟩⟩
      · have t0 : ((N : Int) == 0) = false := by simp [h0]
        have hdv : S.tdiv (N : Int) = S / (N : Int) := Int.tdiv_eq_ediv_of_nonneg hS0
        have hd0 : 0 ≤ S / (N : Int) := Int.ediv_nonneg hS0 (by omega)
        have hd1 : S / (N : Int) ≤ S := Int.ediv_le_self _ hS0
        have HQ : HeldR (S / (N : Int) = sumV f.L / (someN f.L : Int) ∧ someN f.L ≠ 0) := hideR (by obtain ⟨h1, h2⟩ := unhideR HE; rw [← h1, ← h2]; exact ⟨rfl, h0⟩)
        have hNp : (0 : Int) < (N : Int) := by omega
        generalize S / (N : Int) = Q at *
        have hnz : (N : Int) ≠ 0 := by omega
        clear h0 HE
        go_wp2
        go_ret2
        exact ⟨rfl, .inr ⟨(unhideR HQ).2, by rw [← (unhideR HQ).1]; rfl⟩⟩
def evV (l m f : Int) : Int := if f = 0 then 0 else if 65535 < (2 * l * m + f) / (2 * f) then 65535 else (2 * l * m + f) / (2 * f)
theorem ev_light {m x y f : Int} (hf : 0 ≤ f) : evV (if 0 < x - y then x - y else 0) m f = lightV m x y f := by
  by_cases hd : 0 < x - y
  · rw [if_pos hd]
    unfold evV lightV
    by_cases h0 : f = 0
    · rw [if_pos h0, if_neg (by omega)]
    · have key : (2 * (x - y) * m + f) / (2 * f) = (x - y) * m / f + (if f ≤ 2 * ((x - y) * m - (x - y) * m / f * f) then 1 else 0) := by
        rw [Int.mul_assoc]
        generalize (x - y) * m = P
        have hr0 := Int.emod_nonneg P h0
        have hr1 := Int.emod_lt_of_pos P (show 0 < f by omega)
        have hdm := Int.emod_add_mul_ediv P f
        have hm : P - P / f * f = P % f := by rw [Int.mul_comm]; omega
        rw [hm]
        have e : 2 * P + f = (2 * (P % f) + f) + (2 * f) * (P / f) := by rw [Int.mul_assoc]; omega
        rw [e, Int.add_mul_ediv_left _ _ (by omega), Int.add_comm]
        congr 1
        generalize P % f = r at *
        split
        · have : 2 * r + f = (2 * r - f) + (2 * f) * 1 := by omega
          rw [this, Int.add_mul_ediv_left _ _ (by omega), Int.ediv_eq_zero_of_lt (by omega) (by omega)]
          rfl
        · exact Int.ediv_eq_zero_of_lt (by omega) (by omega)
      rw [if_neg h0, if_pos (show 0 < f ∧ 0 < x - y from ⟨by omega, hd⟩), key]
  · rw [if_neg hd]
    unfold evV lightV
    rw [if_neg (show ¬ (0 < f ∧ 0 < x - y) from fun k => hd k.2)]
    by_cases h0 : f = 0
    · rw [if_pos h0]
    · have e : (2 * 0 * m + f) / (2 * f) = 0 := by
        rw [Int.mul_zero, Int.zero_mul, Int.zero_add]
        exact Int.ediv_eq_zero_of_lt (by omega) (by omega)
      rw [if_neg h0, e, if_neg (by omega)]
set_option maxRecDepth 100000 in
theorem evened_any {l m f : Int} (w : World) (hl : 0 ≤ l ∧ l ≤ 65535) (hm : 0 ≤ m ∧ m ≤ 65535) (hf : 0 ≤ f ∧ f ≤ 65535) : Calls Tryd.prog 14 #[.int .i64 l, .int .i64 m, .int .i64 f] w fun e w' => e = .returned (.int .i64 (evV l m f)) ∧ w' = w := by
  obtain ⟨l0, l1⟩ := hl
  obtain ⟨m0, m1⟩ := hm
  obtain ⟨f0, f1⟩ := hf
  by_cases h0 : f = 0
  · have e : evV l m f = 0 := by unfold evV; rw [if_pos h0]
    rw [e]
    clear e
    have t0 : (f == 0) = true := by simp [h0]
    go_enter Tryd.func14, Tryd.ntmps14
    go_wp2
    go_ret
    exact ⟨rfl, rfl⟩
  · have t0 : (f == 0) = false := by simp [h0]
    have a : 0 ≤ 2 * l * m := Int.mul_nonneg (by omega) m0
    have b : 2 * l * m ≤ 131070 * 65535 := Int.mul_le_mul (by omega) m1 m0 (by omega)
    have hq0 : 0 ≤ (2 * l * m + f) / (2 * f) := Int.ediv_nonneg (by omega) (by omega)
    have hq1 : (2 * l * m + f) / (2 * f) ≤ 2 * l * m + f := Int.ediv_le_self _ (by omega)
    have hv : evV l m f = if 65535 < (2 * l * m + f) / (2 * f) then 65535 else (2 * l * m + f) / (2 * f) := by unfold evV; rw [if_neg h0]
    have hd : (2 * l * m + f).tdiv (2 * f) = (2 * l * m + f) / (2 * f) := Int.tdiv_eq_ediv_of_nonneg (by omega)
    have hf2 : (2 * f) ≠ 0 := by omega
    rw [hv]
    clear hv
    generalize (2 * l * m + f) / (2 * f) = Q at *
    obtain ⟨M, hM⟩ : ∃ M, 2 * l * m = M := ⟨_, rfl⟩
    rw [hM] at a b hd hq1
    have iw : IntKind.i64.wrap (2 * l * m) = M := by rw [hM]; exact wrap_fit (by omega) (by omega)
    clear hM
    by_cases hQ : 65535 < Q
    · rw [if_pos hQ]
      go_enter Tryd.func14, Tryd.ntmps14
      go_wp2
      go_ret
      exact ⟨rfl, rfl⟩
    · rw [if_neg hQ]
      go_enter Tryd.func14, Tryd.ntmps14
      go_wp2
      go_ret
      exact ⟨rfl, rfl⟩
end Go.Proofs.YtncbmkflilcdgaiDoor
