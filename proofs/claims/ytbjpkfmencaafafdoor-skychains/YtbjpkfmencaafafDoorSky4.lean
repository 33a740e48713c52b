/-
  Steps of a chain that came in: the document's look at them.
-/
import Derived.Test.YtbjpkfmencaafafDoorKit0
namespace Go.Proofs.YtbjpkfmencaafafDoor
open Go Go.RowKit

/-- a step: its axis, its angle. -/
structure St where
  k : Int
  d : Int
deriving Inhabited
def st0 : St := ⟨0, 0⟩
def St.good (s : St) : Prop := s.k = 0 ∨ s.k = 1 ∨ s.k = 2
/-- a row of them. -/
structure SRow (w : World) (b off : Nat) (L : List St) : Prop where
  ca : ∀ j, j < L.length → w.cell? ⟨b, off + j * 2, none⟩ = some (.int .i64 (L.getD j st0).k)
  cb : ∀ j, j < L.length → w.cell? ⟨b, off + j * 2 + 1, none⟩ = some (.int .i64 (L.getD j st0).d)
theorem SRow.below {w v : World} {b off : Nat} {L : List St} (h : SRow w b off L) (k : Below w.heap.size w v) (hb : b < w.heap.size) : SRow v b off L :=
  ⟨fun j hj => (k.cell hb).trans (h.ca j hj), fun j hj => (k.cell hb).trans (h.cb j hj)⟩
/-- what the look tells. -/
def StepsAre (L : List St) (r : Int) : Prop := (r = 0 ∧ ∀ j, j < L.length → (L.getD j st0).good) ∨ (r = 5 ∧ ∃ j, j < L.length ∧ ¬ (L.getD j st0).good)
set_option maxHeartbeats 8000000 in
theorem stepsError_any (b off cap : Nat) (L : List St) (w : World) (hr : SRow w b off L) (hl : L.length ≤ 200) :
    Calls Tryd.prog 5 #[.slice (some ⟨b, off, none⟩) L.length cap] w fun e w' => ∃ r, e = .returned (.int .i64 r) ∧ StepsAre L r ∧ w' = w := by
  go_enter Tryd.func5, Tryd.ntmps5
  go_wp2
  go_loop [3] (fun kv => ∃ k : Nat, k ≤ L.length ∧ kv = .int .i64 (k : Nat) ∧ HeldR (∀ j, j < k → (L.getD j st0).good)) (fun kv => L.length + 1 - (intOf kv).toNat)
  case atStart => exact ⟨0, by omega, rfl, hideR fun j hj => absurd hj (by omega)⟩
  case round =>
    obtain ⟨k, hk, rfl, HG⟩ := hrel
    by_cases hlt : k < L.length
    · have c0 := hr.ca k hlt
      obtain ⟨s, hs⟩ : ∃ s, s = L.getD k st0 := ⟨_, rfl⟩
      rw [← hs] at c0
      have HS := hideR hs
      clear hs
      have hcase : (s.k = 0 ∨ s.k = 1 ∨ s.k = 2) ∨ (¬ s.k = 0 ∧ ¬ s.k = 1 ∧ ¬ s.k = 2) := by omega
      generalize hsk : s.k = a at *
      replace hsk := hideR hsk
      rcases hcase with hc | ⟨n0, n1, n2⟩
      · have hnext : ∀ j, j < k + 1 → (L.getD j st0).good := fun j hj => by
          by_cases e : j = k
          · subst e; rw [← unhideR HS]; unfold St.good; rw [unhideR hsk]; exact hc
          · exact unhideR HG j (by omega)
        have HN := hideR hnext
        clear hnext
        rcases hc with rfl | rfl | rfl
        all_goals
          go_wp2
          exact ⟨⟨k + 1, by omega, by go_num, HN⟩, by simp [intOf]; omega⟩
      · have hbad : ¬ (L.getD k st0).good := by
          rw [← unhideR HS]; unfold St.good; rw [unhideR hsk]
          omega
        have HN := hideR hbad
        have b0 : (a != 0) = true := by simp [n0]
        have b1 : (a != 1) = true := by simp [n1]
        have b2 : (a != 2) = true := by simp [n2]
        clear hbad n0 n1 n2
        go_wp2
        simp [bodyPost, results, Tryd.results5, go_sem]
        exact .inr ⟨rfl, k, hlt, unhideR HN⟩
    · obtain rfl : k = L.length := by omega
      go_wp2
      go_ret
      exact ⟨_, rfl, .inl ⟨rfl, unhideR HG⟩, rfl⟩
end Go.Proofs.YtbjpkfmencaafafDoor
