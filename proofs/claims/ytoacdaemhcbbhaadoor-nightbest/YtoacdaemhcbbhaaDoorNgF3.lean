/-
  Whether a job is right: the program's isMisshapen, by contract.
-/
import Derived.Test.YtoacdaemhcbbhaaDoorNgF2
import Derived.Test.YtoacdaemhcbbhaaDoorDS6
namespace Go.Proofs.YtoacdaemhcbbhaaDoor
open Go Go.RowKit

set_option maxRecDepth 100000 in
set_option maxHeartbeats 6400000 in
theorem pmis_any {a : Nat → Addr} {w : World} {j : Jb} {a2 : Option Addr} {c2 : Nat} (hS : Sents w a) (hs : SpCame w a2 j.ws) (hz : j.ws.length * 16 ≤ 140737488355328) :
    Calls Tryd.prog 32 #[jbV j a2 c2] w fun e w' => e = .returned (.bool (shX j)) ∧ Below w.heap.size w w' := by
  unfold jbV
  have z := alloc_last w (.cells #[.string j.nm, .slice a2 j.ws.length c2, .int .i64 j.lo, .int .i64 j.wo] 72)
  have hb := below_a w (.cells #[.string j.nm, .slice a2 j.ws.length c2, .int .i64 j.lo, .int .i64 j.wo] 72)
  have hlo := long_ok a a2 c2 j.ws _ (hS.below hb (Nat.le_refl _)) (hs.below hb) hz
  have HZ := hideR z
  have HB := hideR hb
  have x1 := (cells_at z 1 (by simp)).1
  obtain ⟨q1, h1⟩ : ∃ q, decide (j.lo < 1) = q := ⟨_, rfl⟩
  obtain ⟨q2, h2⟩ : ∃ q, decide (1099511627776 < j.lo) = q := ⟨_, rfl⟩
  obtain ⟨q3, h3⟩ : ∃ q, decide (j.wo < 1) = q := ⟨_, rfl⟩
  obtain ⟨q4, h4⟩ : ∃ q, decide (1099511627776 < j.wo) = q := ⟨_, rfl⟩
  obtain ⟨q5, h5⟩ : ∃ q, decide (0 < spE j.ws []) = q := ⟨_, rfl⟩
  have hsx : shX j = (q1 || (q2 || (q3 || (q4 || q5)))) := by
    unfold shX
    rw [← h1, ← h2, ← h3, ← h4, ← h5]
    simp only [← Bool.decide_or]
  rw [hsx]
  have H5 := hideR h5
  clear z hb hS hs hsx h5
  go_enter Tryd.func32, Tryd.ntmps32
  go_wp2_with fail
  refine hlo.mono ?_
  rintro e u ⟨n, x, rfl, hx, _, k⟩
  have z2 := keepB (unhideR HZ) k
  have y2 := (cells_at z2 2 (by simp)).1
  have y3 := (cells_at z2 3 (by simp)).1
  have HK := hideR (below_go (unhideR HB) k)
  clear hlo k z2 x1 HZ HB
  rcases hx with ⟨e0, rfl⟩ | ⟨kk, _, e0, rfl⟩
  · have e5 : q5 = false := by rw [← unhideR H5, e0]; rfl
    subst e5
    clear e0 H5
    cases q1 <;> cases q2 <;> cases q3 <;> cases q4 <;> (go_wp2; go_ret; exact ⟨rfl, unhideR HK⟩)
  · have e5 : q5 = true := by rw [← unhideR H5, e0]; exact decide_eq_true (by omega)
    subst e5
    clear e0 H5
    cases q1 <;> cases q2 <;> cases q3 <;> cases q4 <;> (go_wp2; go_ret; exact ⟨rfl, unhideR HK⟩)
/-- the names that come before. -/
theorem nmX_is (l : List Jb) (i : Nat) (_hi : i ≤ l.length) {r : Int} (h : IsFst (nmP (l.take i) (l.getD i jb0).nm) i r) : nmX l i = ((l.getD i jb0).nm.toList.isEmpty || decide (0 ≤ r)) := by
  unfold nmX
  rw [h.any]
  congr 1
  rw [Bool.eq_iff_iff, decide_eq_true_iff, anyN_iff]
  refine exists_congr (fun k => ?_)
  constructor
  · rintro ⟨h1, h2⟩
    refine ⟨h1, ?_⟩
    unfold nmP eqN
    rw [List.getD_eq_getElem?_getD, List.getElem?_take, if_pos h1, ← List.getD_eq_getElem?_getD]
    exact h2
  · rintro ⟨h1, h2⟩
    refine ⟨h1, ?_⟩
    unfold nmP eqN at h2
    rw [List.getD_eq_getElem?_getD, List.getElem?_take, if_pos h1, ← List.getD_eq_getElem?_getD] at h2
    exact h2
theorem JbCame.take {w : World} {ad : Option Addr} {l : List Jb} (h : JbCame w ad l) (n : Nat) : JbCame w ad (l.take n) := ⟨fun k hk => by
  have hk2 : k < l.length ∧ k < n := by rw [List.length_take] at hk; omega
  obtain ⟨b, off, e, hb, hJ⟩ := h.at_ k hk2.1
  refine ⟨b, off, e, hb, ?_⟩
  rw [List.getD_eq_getElem?_getD, List.getElem?_take, if_pos hk2.2, ← List.getD_eq_getElem?_getD]
  exact hJ⟩
end Go.Proofs.YtoacdaemhcbbhaaDoor
