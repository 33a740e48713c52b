/-
  Few jobs: the law's fewJobs, by contract.
-/
import Derived.Test.YtoacdaemhcbbhaaDoorNgG2
namespace Go.Proofs.YtoacdaemhcbbhaaDoor
open Go Go.RowKit

def fewV (l : List Jb) : Bool := !anyN (fun k => decide (20 < (l.getD k jb0).ws.length)) l.length && (decide (l.length ≤ 6) || decide (12 < l.length) && decide (l.length ≤ 20))
set_option maxRecDepth 100000 in
set_option maxHeartbeats 6400000 in
theorem few_any {w : World} {ad : Option Addr} {cap : Nat} {l : List Jb} (hl : JbCame w ad l) (hn : l.length ≤ 9223372036854775807) (hw : ∀ k, k < l.length → (l.getD k jb0).ws.length ≤ 9223372036854775807) :
    Calls Tryd.prog 7 #[.slice ad l.length cap] w fun e w' => e = .returned (.bool (fewV l)) ∧ w' = w := by
  have HA : HeldR (∀ i, i < l.length → (∀ k, k < i → decide (20 < (l.getD k jb0).ws.length) = false) → decide (20 < (l.getD i jb0).ws.length) = true → fewV l = false) := hideR (fun i hi _ h => by
    unfold fewV
    rw [anyN_iff.2 ⟨i, hi, h⟩]
    rfl)
  have HN : HeldR ((∀ k, k < l.length → decide (20 < (l.getD k jb0).ws.length) = false) → fewV l = (decide (l.length ≤ 6) || decide (12 < l.length) && decide (l.length ≤ 20))) := hideR (fun h => by
    unfold fewV
    have : anyN (fun k => decide (20 < (l.getD k jb0).ws.length)) l.length = false := Bool.eq_false_iff.2 (fun z => by obtain ⟨k, h1, h2⟩ := anyN_iff.1 z; rw [h k h1] at h2; cases h2)
    rw [this]
    rfl)
  generalize fewV l = FV at *
  obtain ⟨n, hn0⟩ : ∃ n, l.length = n := ⟨_, rfl⟩
  have Hn := hideR hn0
  have HW := hideR hw
  rw [hn0] at HA HN HW hn ⊢
  clear hn0 hw
  go_enter Tryd.func7, Tryd.ntmps7
  go_wp2_with fail
  go_loop [3] (fun iv => ∃ i : Nat, i ≤ n ∧ iv = .int .i64 (i : Nat) ∧ HeldR (∀ k, k < i → decide (20 < (l.getD k jb0).ws.length) = false)) (fun iv => n + 1 - (intOf iv).toNat)
  case atStart => exact ⟨0, by omega, rfl, hideR (fun k hk => absurd hk (Nat.not_lt_zero k))⟩
  case round =>
    obtain ⟨i, hi, rfl, HM⟩ := hrel
    by_cases q : i < n
    case neg =>
      obtain rfl : i = n := by omega
      have ti : decide ((i : Int) < (i : Int)) = false := decide_eq_false (by omega)
      have tin : decide (i < i) = false := decide_eq_false (by omega)
      have hv := unhideR HN (unhideR HM)
      clear HN HM HA
      by_cases q6 : i ≤ 6
      · have t6 : decide ((i : Int) ≤ 6) = true := decide_eq_true (by omega)
        have t6n : decide (i ≤ 6) = true := decide_eq_true q6
        have hF : FV = true := by rw [hv, t6n]; rfl
        clear hv
        subst hF
        go_wp2
        go_ret
        exact ⟨rfl, rfl⟩
      have t6 : decide ((i : Int) ≤ 6) = false := decide_eq_false (by omega)
      have t6n : decide (i ≤ 6) = false := decide_eq_false q6
      by_cases q12 : 12 < i
      · have t12 : decide ((12 : Int) < (i : Int)) = true := decide_eq_true (by omega)
        have t12n : decide (12 < i) = true := decide_eq_true q12
        by_cases q20 : i ≤ 20
        · have t20 : decide ((i : Int) ≤ 20) = true := decide_eq_true (by omega)
          have t20n : decide (i ≤ 20) = true := decide_eq_true q20
          have hF : FV = true := by rw [hv, t6n, t12n, t20n]; rfl
          clear hv
          subst hF
          go_wp2
          go_ret
          exact ⟨rfl, rfl⟩
        · have t20 : decide ((i : Int) ≤ 20) = false := decide_eq_false (by omega)
          have t20n : decide (i ≤ 20) = false := decide_eq_false q20
          have hF : FV = false := by rw [hv, t6n, t12n, t20n]; rfl
          clear hv
          subst hF
          go_wp2
          go_ret
          exact ⟨rfl, rfl⟩
      · have t12 : decide ((12 : Int) < (i : Int)) = false := decide_eq_false (by omega)
        have t12n : decide (12 < i) = false := decide_eq_false q12
        have hF : FV = false := by rw [hv, t6n, t12n]; rfl
        clear hv
        subst hF
        go_wp2
        go_ret
        exact ⟨rfl, rfl⟩
    have ti : decide ((i : Int) < (n : Int)) = true := decide_eq_true (by omega)
    have tin : decide (i < n) = true := decide_eq_true q
    have wi : IntKind.i64.wrap ((i : Int) + 1) = (i : Int) + 1 := iwrap (by omega) (by omega)
    have hii : (i : Int) < (n : Int) := by omega
    obtain ⟨bb, off, had, hbb, hJb⟩ := hl.at_ i (by rw [unhideR Hn]; exact q)
    subst had
    obtain ⟨a2, c2, hj1, _⟩ := hJb.c1
    have HAi := hideR (unhideR HA i q (unhideR HM))
    have HNx : HeldR (decide (20 < (l.getD i jb0).ws.length) = false → ∀ k, k < i + 1 → decide (20 < (l.getD k jb0).ws.length) = false) := hideR (fun h k hk => by
      by_cases e : k = i
      · rw [e]; exact h
      · exact unhideR HM k (by omega))
    have hwi := unhideR HW i q
    clear hJb HM
    generalize (l.getD i jb0).ws.length = m at *
    by_cases qm : 20 < m
    · have tm : decide ((20 : Int) < (m : Int)) = true := decide_eq_true (by omega)
      have tmn : decide (20 < m) = true := decide_eq_true qm
      have hF := unhideR HAi tmn
      clear HAi HNx HA HN
      subst hF
      go_wp2
      go_ret
      exact ⟨rfl, rfl⟩
    have tm : decide ((20 : Int) < (m : Int)) = false := decide_eq_false (by omega)
    have tmn : decide (20 < m) = false := decide_eq_false qm
    have HM2 := hideR (unhideR HNx tmn)
    clear HAi HNx
    go_wp2
    exact ⟨⟨i + 1, by omega, by go_num, HM2⟩, by simp [intOf]; omega⟩
end Go.Proofs.YtoacdaemhcbbhaaDoor
