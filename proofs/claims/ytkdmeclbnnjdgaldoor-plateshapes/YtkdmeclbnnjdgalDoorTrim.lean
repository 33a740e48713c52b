/-
  meridianref1.trimmed by its contract.
-/
import Derived.Test.YtkdmeclbnnjdgalDoorBigOf
namespace Go.Proofs.YtkdmeclbnnjdgalDoor
open Go.RowKit

theorem own_cell {w : World} {base g cap : Nat} {L : List Int} (h : w.ownsRow base 3 1 (.slice (some ⟨g, 0, none⟩) L.length cap) L.length (L.map (Value.int .i64))) (j : Nat) (hj : j < L.length) :
    w.cell? ⟨g, j, none⟩ = some (.int .i64 (L.getD j 0)) := by
  rw [h.cellAt j (by omega), List.getElem?_map, List.getElem?_eq_getElem hj, List.getD_eq_getElem?_getD, List.getElem?_eq_getElem hj]; rfl
theorem own_cap {w : World} {base g cap n : Nat} {xs : List Value} (h : w.ownsRow base 3 1 (.slice (some ⟨g, 0, none⟩) n cap) n xs) : n ≤ cap ∧ cap ≤ maxLen ∧ base ≤ g ∧ g < w.heap.size := by
  have hl := h.lt g rfl
  rcases h.2 with ⟨h1, _⟩ | ⟨g', cap', cur, e, _, _, h3, h4, _⟩
  · cases h1
  · cases e; exact ⟨h3, h4, hl⟩
theorem own_take {w : World} {base g cap : Nat} {L : List Int} (h : w.ownsRow base 3 1 (.slice (some ⟨g, 0, none⟩) L.length cap) L.length (L.map (Value.int .i64))) (m : Nat) (hm : m ≤ L.length) :
    w.ownsRow base 3 1 (.slice (some ⟨g, 0, none⟩) (L.take m).length cap) (L.take m).length ((L.take m).map (Value.int .i64)) := by
  have el : (L.take m).length = m := by simp [hm]
  rcases h.2 with ⟨h1, _⟩ | ⟨g', cap', cur, e, hb, hg, h3, h4, h5, h6⟩
  · cases h1
  · cases e
    refine ⟨by simp, .inr ⟨g, cap, cur, rfl, hb, hg, by omega, h4, h5, ?_⟩⟩
    rw [el, Nat.mul_one, List.map_take, ← h6, Nat.mul_one, List.take_take, Nat.min_eq_left hm]

set_option maxHeartbeats 400000 in
theorem trimmed_any (base g cap : Nat) (L : List Int) (w : World) (hlen : L.length ≤ 1000000)
    (hown : w.ownsRow base 3 1 (.slice (some ⟨g, 0, none⟩) L.length cap) L.length (L.map (Value.int .i64))) :
    Calls Tryd.prog 93 #[.slice (some ⟨g, 0, none⟩) L.length cap] w fun e w' => ∃ m : Nat, m ≤ L.length ∧ e = .returned (.slice (some ⟨g, 0, none⟩) m cap) ∧ (∀ i, m ≤ i → L.getD i 0 = 0) ∧ (m = 0 ∨ L.getD (m - 1) 0 ≠ 0) ∧ w' = w := by
  have hcap := (own_cap hown).1
  have HC := hide (own_cell hown)
  clear hown
  go_enter Tryd.func93, Tryd.ntmps93
  go_wp2
  go_loop [3] (fun x => ∃ m : Nat, m ≤ L.length ∧ x = .int .i64 m ∧ ∀ i, m ≤ i → L.getD i 0 = 0) (fun x => (intOf x).toNat)
  case atStart => exact ⟨L.length, Nat.le_refl _, rfl, fun i hi => by rw [List.getD_eq_getElem?_getD, List.getElem?_eq_none hi]; rfl⟩
  case round =>
    obtain ⟨m, hm, rfl, hz⟩ := hrel
    have HZ := hide hz
    clear hz
    cases m with
    | zero =>
      go_wp2
      go_ret
      exact ⟨0, Nat.zero_le _, rfl, unhide HZ, Or.inl rfl, rfl⟩
    | succ k =>
      have hc := unhide HC k (by omega)
      have hkb : (k : Int) ≤ 1000000 := by omega
      have hkc : (k : Int) + 1 ≤ cap := by omega
      generalize hd : L.getD k 0 = d at hc
      have HD := hide hd
      clear hd
      by_cases h0 : d = 0
      · have hb0 : (d == 0) = true := by simp [h0]
        have H0 := hide h0
        clear h0
        go_wp2
        refine ⟨⟨k, by omega, rfl, fun i hi => ?_⟩, by simp [intOf]⟩
        by_cases e : i = k
        · rw [e, unhide HD, unhide H0]
        · exact unhide HZ i (by omega)
      · have hb0 : (d == 0) = false := by simp [h0]
        go_wp2
        go_ret
        exact ⟨k + 1, hm, rfl, unhide HZ, Or.inr (by rw [Nat.add_sub_cancel]; intro e; exact h0 (by rw [← unhide HD]; exact e)), rfl⟩
end Go.Proofs.YtkdmeclbnnjdgalDoor
