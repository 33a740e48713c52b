/-
  slices.SortFunc of events that the program owns, by contract.
-/
import Derived.Test.YtlhjmmcimhceeahDoorDE8
namespace Go.Proofs.YtlhjmmcimhceeahDoor
open Go Go.RowKit Go.Sort Go.Shelf

theorem got_at (L : List Evt) {t : Nat} (h : t < L.length) : L.toArray[t]! = L.getD t ev0 := by
  rw [List.getD_eq_getElem?_getD, List.getElem?_eq_getElem h]
  simp [h]
/-- a row of events in a block of its own, as the sort asks it. -/
theorem holds_of {w : World} {g : Nat} {L : List Evt} (h : EvCame w (some ⟨g, 0, none⟩) L) (hf : ∀ o, w.frozen? ⟨g, o, none⟩ = false) : HoldsK valEv 3 w g 0 L.toArray := by
  intro j hj
  rw [size_flatK] at hj
  simp only [List.size_toArray] at hj
  have ht : j / 3 < L.length := by omega
  have hi : j % 3 < 3 := Nat.mod_lt _ (by decide)
  obtain ⟨b, off, e, _, hat⟩ := h.at_ (j / 3) ht
  cases e
  have hc := hat.all (j % 3) hi
  refine ⟨?_, hf _⟩
  rw [get_flatK _ _ _ _ (by simpa using hj), got_at L ht]
  rw [show 0 + j / 3 * 3 + j % 3 = 0 + j by omega] at hc
  rw [hc]
  generalize L.getD (j / 3) ev0 = s
  rcases (show j % 3 = 0 ∨ j % 3 = 1 ∨ j % 3 = 2 by omega) with q | q | q <;> rw [q] <;> rfl
theorem came_of {w : World} {g : Nat} {L : List Evt} (h : HoldsK valEv 3 w g 0 L.toArray) (hg : g < w.heap.size) : EvCame w (some ⟨g, 0, none⟩) L := by
  refine ⟨fun k hk => ⟨g, 0, rfl, hg, Evat_of (fun i hi => ?_)⟩⟩
  have hj : k * 3 + i < (flatK valEv 3 L.toArray).size := by
    rw [size_flatK]
    simp only [List.size_toArray]
    omega
  have := (h (k * 3 + i) hj).1
  rw [size_flatK] at hj
  rw [get_flatK _ _ _ _ hj, show (k * 3 + i) / 3 = k by omega, show (k * 3 + i) % 3 = i by omega, got_at L hk] at this
  rw [show 0 + k * 3 + i = 0 + (k * 3 + i) by omega, this]
  generalize L.getD k ev0 = s
  rcases (show i = 0 ∨ i = 1 ∨ i = 2 by omega) with q | q | q <;> rw [q] <;> rfl
theorem sorted_below (w : World) (g n B : Nat) (d : Array Evt) (os : Array Obj) (hB : B ≤ g) (hg : g < w.heap.size) : Below B w (sortWorldK valEv 3 w g 0 n d os) := by
  refine ⟨rfl, rfl, rfl, ?_, fun k hk => ?_⟩
  · simp [sortWorldK, grow, putRowK]
  · simp only [sortWorldK, grow, putRowK, putRow, mapBlock, heap_ahead]
    rw [Array.getElem?_append_left (by simp; omega), Array.getElem?_modify, if_neg (by omega)]
set_option maxHeartbeats 1000000 in
theorem sort_any {w : World} {B : Nat} {u : Value} {L : List Evt} (h : w.ownsRow B 56 3 u L.length (flatEv L)) (hl : L.length ≤ 100000) :
    Calls Tryd.prog 36 #[u, .func (.func 37) #[] #[]] w fun e w' => e = .returned (.tuple #[]) ∧ ∃ ad cap, u = .slice ad L.length cap ∧ EvCame w' ad (sortV L) ∧ Below B w w' := by
  obtain ⟨ad, cap, e, hcm⟩ := Evown h
  rcases Nat.eq_zero_or_pos L.length with hz | hz
  · obtain rfl : L = [] := List.length_eq_zero_iff.1 hz
    subst e
    have hcon := AnyF.slices_SortFunc_none Tryd.sortEv ad cap (.func (.func 37) #[] #[]) w
    change Calls Tryd.prog 36 _ _ _ at hcon
    exact hcon.mono fun x w' ⟨h1, h2⟩ => ⟨h1, ad, cap, rfl, EvCame.nil _ _, by rw [h2]; exact Below.refl _ _⟩
  · rcases h.2 with ⟨h1, h2⟩ | ⟨g, cap', cur, e', hB, hg, hc, _, hs, ht⟩
    · omega
    · rw [e'] at e
      injection e with e1 e2 e3
      subst e1
      rw [e']
      have hgl : g < w.heap.size := (Array.getElem?_eq_some_iff.1 hg).1
      have hf : ∀ o, w.frozen? ⟨g, o, none⟩ = false := fun o => by simp [World.frozen?, hg]
      have hH := holds_of hcm hf
      have eg : ∀ args w, (callFunc 37 args).run Tryd.prog w = .ok (.enter 37 args) w := enters_of Tryd.func37 (by kernel_rfl) rfl
      have hcon := AnyQ.slices_SortFunc_total Tryd.sortEv 3 Tryd.isAgg56 Tryd.sizeOf56 valEv (fun _ => rfl) (fun x v hv => flatEv_one [x] v (by simpa [flatEv] using hv)) ordV swoV 37 #[] g 0 cap' L.toArray w eg
        (fun m os dk _ x y => order_any x y _) hH hgl (by simp; omega) totV
      change Calls Tryd.prog 36 _ _ _ at hcon
      simp only [List.size_toArray] at hcon
      refine hcon.mono fun x w' ⟨h1, n, os, hw⟩ => ⟨h1, _, _, rfl, ?_, ?_⟩
      · rw [merge_is] at hw
        refine came_of (SWK.holds ⟨n, os, hw⟩ hgl hH (by simp [sortV_length])) ?_
        rw [hw]
        exact Nat.lt_of_lt_of_le hgl (sorted_below w g n B _ os hB hgl).size
      · rw [hw]
        exact sorted_below w g n B _ os hB hgl
end Go.Proofs.YtlhjmmcimhceeahDoor
