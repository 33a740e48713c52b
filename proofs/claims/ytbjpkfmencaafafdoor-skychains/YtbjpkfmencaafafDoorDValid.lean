/-
  Chains that can be gone along: the program's look at them.
-/
import Derived.Test.YtbjpkfmencaafafDoorSky4
import Derived.Test.YtbjpkfmencaafafDoorSents
namespace Go.Proofs.YtbjpkfmencaafafDoor
open Go Go.RowKit

def shapeErr (a : Nat → Addr) : Value := .iface 107 (.pointer (some (a 4)))
def ValidIs (a : Nat → Addr) (L : List St) (v : Value) : Prop := (v = .nilIface ∧ ∀ j, j < L.length → (L.getD j st0).good) ∨ (v = shapeErr a ∧ ∃ j, j < L.length ∧ ¬ (L.getD j st0).good)
set_option maxHeartbeats 8000000 in
theorem valid_any {a : Nat → Addr} (b off cap : Nat) (L : List St) (w : World) (hS : Sents w a) (hr : SRow w b off L) (hl : L.length ≤ 200) (hb : b < w.heap.size) :
    Calls Tryd.prog 16 #[.slice (some ⟨b, off, none⟩) L.length cap] w fun e w' => ∃ v, e = .returned v ∧ ValidIs a L v ∧ Below w.heap.size w w' := by
  have HS := hideR hS
  have HR := hideR hr
  clear hS hr
  go_enter Tryd.func16, Tryd.ntmps16
  go_wp2
  go_loopw [11] (fun kv wl => ∃ k : Nat, k ≤ L.length ∧ kv = .int .i64 (k : Nat) ∧ HeldR (∀ j, j < k → (L.getD j st0).good) ∧ HeldR (Below w.heap.size w wl)) (fun kv _ => L.length + 1 - (intOf kv).toNat)
  case atStart => exact ⟨0, by omega, rfl, hideR fun j hj => absurd hj (by omega), hideR (Below.refl _ _)⟩
  case round =>
    obtain ⟨k, hk, rfl, HG, HB⟩ := hrel
    by_cases hlt : k < L.length
    · have c0 := (unhideR HB).cell (p := ⟨b, off + k * 2, none⟩) hb |>.trans ((unhideR HR).ca k hlt)
      have c1 := (unhideR HB).cell (p := ⟨b, off + k * 2 + 1, none⟩) hb |>.trans ((unhideR HR).cb k hlt)
      have hg4 := ((unhideR HS).below (unhideR HB) (Nat.le_refl _)).g4
      have hsz := (unhideR HB).size
      have hbig := (unhideR HS).big
      have hl4 : 1 < wr.heap.size := by omega
      have hg4' : ∀ o, (wr.alloc o).cell? ⟨1, 0, none⟩ = some (.iface 107 (.pointer (some (a 4)))) := fun o => (((Below.refl wr.heap.size wr).alloc (Nat.le_refl _) o).cell (p := ⟨1, 0, none⟩) hl4).trans hg4
      obtain ⟨s, hs⟩ : ∃ s, s = L.getD k st0 := ⟨_, rfl⟩
      rw [← hs] at c0 c1
      have HE := hideR hs
      clear hs
      have hcase : (0 ≤ s.k ∧ s.k ≤ 2) ∨ (s.k < 0) ∨ (0 ≤ s.k ∧ 2 < s.k) := by omega
      generalize hsk : s.k = x at *
      generalize s.d = y at *
      replace hsk := hideR hsk
      rcases hcase with hc | hc | hc
      · have hnext : ∀ j, j < k + 1 → (L.getD j st0).good := fun j hj => by
          by_cases e : j = k
          · subst e; rw [← unhideR HE]; unfold St.good; rw [unhideR hsk]; omega
          · exact unhideR HG j (by omega)
        have HN := hideR hnext
        clear hnext
        go_wp2
        exact ⟨⟨k + 1, by omega, by go_num, HN, hideR ((unhideR HB).alloc hsz _)⟩, by simp [intOf]; omega⟩
      all_goals
        have hbad : ¬ (L.getD k st0).good := by
          rw [← unhideR HE]; unfold St.good; rw [unhideR hsk]
          omega
        have HN := hideR hbad
        clear hbad
        go_wp2
        simp [bodyPost, results, Tryd.results16, go_sem]
        exact ⟨.inr ⟨rfl, k, hlt, unhideR HN⟩, (unhideR HB).alloc hsz _⟩
    · obtain rfl : k = L.length := by omega
      go_wp2
      go_ret
      exact ⟨_, rfl, .inl ⟨rfl, unhideR HG⟩, unhideR HB⟩
set_option maxHeartbeats 8000000 in
theorem valid_nil (w : World) :
    Calls Tryd.prog 16 #[.slice none 0 0] w fun e w' => e = .returned .nilIface ∧ w' = w := by
  go_enter Tryd.func16, Tryd.ntmps16
  go_wp2
  go_loopw [11] (fun kv wl => kv = .int .i64 0 ∧ wl = w) (fun _ _ => 1)
  case atStart => exact ⟨rfl, rfl⟩
  case round =>
    obtain ⟨rfl, rfl⟩ := hrel
    go_wp2
    go_ret
    exact ⟨rfl, rfl⟩
end Go.Proofs.YtbjpkfmencaafafDoor
