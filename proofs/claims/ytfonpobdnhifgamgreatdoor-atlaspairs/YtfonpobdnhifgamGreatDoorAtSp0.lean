/-
  A cell and that in which it lies; what the program's CellOf must answer.
-/
import Derived.Test.YtfonpobdnhifgamGreatDoorAtEA
namespace Go.Proofs.YtfonpobdnhifgamGreatDoor
open Go Go.RowKit

theorem sti_ex {u m : Int} (m1 : 1 ≤ m) (u1 : -m ≤ u) : ∀ i, ∃ c, StI u m i c
  | 0 => ⟨0, StI.start u1⟩
  | i + 1 => by
    obtain ⟨c, h⟩ := sti_ex m1 u1 i
    by_cases q : (2 * c + 1) * (2 * m) ≤ (u + m) * 2 ^ (i + 1)
    · exact ⟨_, h.up m1 q⟩
    · exact ⟨_, h.dn (by omega)⟩
theorem col_half {u m : Int} (m1 : 1 ≤ m) (u1 : -m ≤ u) (i : Nat) : colV u m (i + 1) / 2 = colV u m i := by
  obtain ⟨c, h⟩ := sti_ex m1 u1 i
  by_cases q : (2 * c + 1) * (2 * m) ≤ (u + m) * 2 ^ (i + 1)
  · rw [← (h.up m1 q).one m1, ← h.one m1]
    omega
  · rw [← (h.dn (by omega)).one m1, ← h.one m1]
    omega
theorem col_in {u m : Int} (m1 : 1 ≤ m) (u1 : -m ≤ u) (i : Nat) : 0 ≤ colV u m i ∧ colV u m i < 2 ^ i := by
  obtain ⟨c, h⟩ := sti_ex m1 u1 i
  rw [← h.one m1]
  exact ⟨h.lo, h.hi⟩
theorem fa_in (d : Dr) : 0 ≤ faV d ∧ faV d < 6 := by
  have := axV_lt d
  unfold faV
  split <;> omega
theorem va_dir {d : Dr} (h : dirB d = true) {l : Nat} (hl : l ≤ 12) : vaB (sqV d l) = true := by
  have b := dir_m h
  have f := fa_in d
  have c1 := col_in b.1 b.2.2.1 l
  have c2 := col_in b.1 b.2.2.2.2.1 l
  unfold vaB sqV
  refine decide_eq_true ?_
  simp only [Int.toNat_natCast]
  exact ⟨f.1, f.2, by omega, by omega, c1.1, c1.2, c2.1, c2.2⟩
theorem sqE_zero {d : Dr} {l : Int} (h : sqE d l = 0) : dirB d = true ∧ 0 ≤ l ∧ l ≤ 12 := by
  unfold sqE at h
  split at h
  · cases h
  · split at h
    · cases h
    · rename_i q1 q2
      exact ⟨by simpa using q1, by omega, by omega⟩
theorem sqA_of {d : Dr} {l : Int} (h : sqE d l = 0) : sqA d l = sqV d l.toNat := by
  unfold sqA
  rw [if_pos h]
theorem up_cell {d : Dr} {l : Int} (h : sqE d l = 0) : upV (sqA d l) = sqA d (l - 1) ∧ upB (sqA d l) = decide (0 < l) ∧ vaB (sqA d l) = true := by
  obtain ⟨hd, h1, h2⟩ := sqE_zero h
  have b := dir_m hd
  have hv : vaB (sqA d l) = true := by rw [sqA_of h]; exact va_dir hd (by omega)
  have e1 : (sqA d l).l = l := by rw [sqA_of h]; show ((l.toNat : Nat) : Int) = l; omega
  have hu : upB (sqA d l) = decide (0 < l) := by unfold upB; rw [hv, e1, Bool.true_and]
  refine ⟨?_, hu, hv⟩
  unfold upV
  rw [hu]
  by_cases q : 0 < l
  · rw [if_pos (decide_eq_true q)]
    have h3 : sqE d (l - 1) = 0 := by
      unfold sqE
      rw [hd, if_neg (by decide), if_neg (by omega)]
    rw [sqA_of h, sqA_of h3]
    obtain ⟨k, hk⟩ : ∃ k : Nat, l = (k : Int) + 1 := ⟨(l - 1).toNat, by omega⟩
    subst hk
    have e2 : ((k : Int) + 1).toNat = k + 1 := by omega
    have e3 : ((k : Int) + 1 - 1).toNat = k := by omega
    rw [e2, e3]
    unfold sqV
    rw [col_half b.1 b.2.2.1 k, col_half b.1 b.2.2.2.2.1 k]
    simp
  · rw [if_neg (by simpa using q)]
    have h3 : sqE d (l - 1) = 2 := by
      unfold sqE
      rw [hd, if_neg (by decide), if_pos (by omega)]
    unfold sqA
    rw [h3, if_neg (by decide)]
structure CeProg (a : Nat → Addr) : Prop where
  cellOf : ∀ {w : World}, Sents w a → ∀ (d : Dr) (l : Int), Calls Tryz.prog 22 #[d.val, .int .i64 l] w fun e w' => ∃ E, e = .returned (.tuple #[(sqA d l).val, E]) ∧ ErrIs a (sqE d l) E ∧ Below w.heap.size w w'
theorem listed_of : sqE ⟨5, 5, 0⟩ 1 = 0 ∧ (sqA ⟨5, 5, 0⟩ 1).f = 0 ∧ (sqA ⟨5, 5, 0⟩ 1).c = 1 := by decide +kernel
set_option maxRecDepth 100000 in
set_option maxHeartbeats 3200000 in
theorem listed_any {a : Nat → Addr} (hC : CeProg a) {w : World} (hS : Sents w a) : Calls Tryz.prog 6 #[] w fun e w' => e = .returned (.bool true) ∧ Below w.heap.size w w' := by
  have hc := hC.cellOf hS ⟨5, 5, 0⟩ 1
  obtain ⟨h1, h2, h3⟩ := listed_of
  unfold Sq.val Dr.val at hc
  rw [h1, h2, h3] at hc
  generalize (sqA ⟨5, 5, 0⟩ 1).l = q1 at *
  generalize (sqA ⟨5, 5, 0⟩ 1).r = q2 at *
  clear h1 h2 h3 hS
  go_enter Tryz.func6, Tryz.ntmps6
  go_wp2_with fail
  refine hc.mono ?_
  rintro e w1 ⟨E, rfl, hE, k1⟩
  obtain rfl : E = .nilIface := by
    rcases hE with ⟨_, h⟩ | ⟨k, _, h, _⟩
    · exact h
    · exact absurd h (by omega)
  have HB := hideR (below_go k1 (below_a w1 (.cells #[.int .i64 0, .int .i64 q1, .int .i64 1, .int .i64 q2] 61)))
  clear hE hc k1
  go_wp2
  go_ret
  exact ⟨rfl, unhideR HB⟩
end Go.Proofs.YtfonpobdnhifgamGreatDoor
