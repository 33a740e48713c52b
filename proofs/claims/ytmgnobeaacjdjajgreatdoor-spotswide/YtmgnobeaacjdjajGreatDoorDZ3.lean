/-
  Pixels in order, the nearest first; how far one goes along them: the program's, by contract.
-/
import Derived.Test.YtmgnobeaacjdjajGreatDoorDZ2
import Derived.Test.YtmgnobeaacjdjajGreatDoorDRA
import Derived.Test.YtmgnobeaacjdjajGreatDoorSortL
namespace Go.Proofs.YtmgnobeaacjdjajGreatDoor
open Go Go.RowKit Go.Sort Go.Shelf

def cfP (x y : Px) : Int := cmp2 x.far y.far
theorem ltP (x y : Px) : ltOf cfP x y = true ↔ x.far < y.far := by unfold ltOf cfP; rw [decide_eq_true_iff]; exact cmp2_neg
theorem ltP' (x y : Px) : ltOf cfP x y = false ↔ ¬ x.far < y.far := by
  rw [← ltP]
  simp
theorem swoP : SWO (ltOf cfP) where
  irrefl x := by rw [ltP']; omega
  trans x y z h1 h2 := by rw [ltP] at *; omega
  ntrans x y z h1 h2 := by rw [ltP'] at *; omega
set_option maxRecDepth 100000 in
set_option maxHeartbeats 1600000 in
theorem nearer_any (x y : Px) (W : World) : Calls Tryz.prog 20 #[.agg (valPx x).toArray, .agg (valPx y).toArray] W fun e w' => e = .returned (.int .i64 (cfP x y)) ∧ ∃ q os, w' = grow (W.drewN q) os := by
  have hc := fun u => compare_any x.far y.far u
  unfold cfP
  generalize cmp2 x.far y.far = c at *
  have ex : (valPx x).toArray = #[.int .i64 x.far, .int .i64 x.cnt] := rfl
  have ey : (valPx y).toArray = #[.int .i64 y.far, .int .i64 y.cnt] := rfl
  rw [ex, ey]
  generalize x.far = a0 at *
  generalize x.cnt = a1
  generalize y.far = b0 at *
  generalize y.cnt = b1
  clear ex ey
  go_enter Tryz.func20, Tryz.ntmps20
  go_wp2_with (go_at_call 21; refine (hc _).mono ?_; rintro e w' ⟨rfl, rfl⟩)
  go_ret
  exact ⟨rfl, 0, _, by rw [alloc_eq_grow, alloc_eq_grow, grow_grow]; rfl⟩
theorem gotP (L : List Px) {t : Nat} (h : t < L.length) : L.toArray[t]! = L.getD t px0 := by
  rw [List.getD_eq_getElem?_getD, List.getElem?_eq_getElem h]
  simp [h]
/-- a row of pixels in a block of its own, as the sort asks it. -/
theorem holdsP {w : World} {g : Nat} {L : List Px} (h : PxCame w (some ⟨g, 0, none⟩) L) (hf : ∀ o, w.frozen? ⟨g, o, none⟩ = false) : HoldsK valPx 2 w g 0 L.toArray := by
  intro j hj
  rw [size_flatK] at hj
  simp only [List.size_toArray] at hj
  have ht : j / 2 < L.length := by omega
  have hi : j % 2 < 2 := Nat.mod_lt _ (by decide)
  obtain ⟨b, off, e, _, hat⟩ := h.at_ (j / 2) ht
  cases e
  have hc := hat.all (j % 2) hi
  refine ⟨?_, hf _⟩
  rw [get_flatK _ _ _ _ (by simpa using hj), gotP L ht]
  rw [show 0 + j / 2 * 2 + j % 2 = 0 + j by omega] at hc
  rw [hc]
  generalize L.getD (j / 2) px0 = s
  rcases (show j % 2 = 0 ∨ j % 2 = 1 by omega) with q | q <;> rw [q] <;> rfl
theorem cameP {w : World} {g : Nat} {L : List Px} (h : HoldsK valPx 2 w g 0 L.toArray) (hg : g < w.heap.size) : PxCame w (some ⟨g, 0, none⟩) L := by
  refine ⟨fun k hk => ⟨g, 0, rfl, hg, Pxat_of (fun i hi => ?_)⟩⟩
  have hj : k * 2 + i < (flatK valPx 2 L.toArray).size := by
    rw [size_flatK]
    simp only [List.size_toArray]
    omega
  have := (h (k * 2 + i) hj).1
  rw [size_flatK] at hj
  rw [get_flatK _ _ _ _ hj, show (k * 2 + i) / 2 = k by omega, show (k * 2 + i) % 2 = i by omega, gotP L hk] at this
  rw [show 0 + k * 2 + i = 0 + (k * 2 + i) by omega, this]
  generalize L.getD k px0 = s
  rcases (show i = 0 ∨ i = 1 by omega) with q | q <;> rw [q] <;> rfl
theorem sortedP_below (w : World) (g n B : Nat) (d : Array Px) (os : Array Obj) (hB : B ≤ g) (hg : g < w.heap.size) : Below B w (sortWorldK valPx 2 w g 0 n d os) := by
  refine ⟨rfl, rfl, rfl, ?_, fun k hk => ?_⟩
  · simp [sortWorldK, grow, putRowK]
  · simp only [sortWorldK, grow, putRowK, putRow, mapBlock, heap_ahead]
    rw [Array.getElem?_append_left (by simp; omega), Array.getElem?_modify, if_neg (by omega)]
def SxPost (L : List Px) (u : Value) (B : Nat) (w : World) (e : Ending) (w' : World) : Prop := e = .returned (.tuple #[]) ∧ ∃ (D : List Px) (ad : Option Addr) (cap : Nat), u = .slice ad L.length cap ∧ D.Perm L ∧ D.Pairwise (fun a b => a.far ≤ b.far) ∧ PxCame w' ad D ∧ Below B w w'
set_option maxHeartbeats 1000000 in
theorem sortPx_any {w : World} {B : Nat} {u : Value} {L : List Px} (h : w.ownsRow B 61 2 u L.length (flatPx L)) (hz : 0 < L.length) (hl : L.length ≤ 100000) :
    Calls Tryz.prog 19 #[u, .func (.func 20) #[] #[]] w (SxPost L u B w) := by
  obtain ⟨ad, cap, e, hcm⟩ := Pxown h
  rcases h.2 with ⟨h1, h2⟩ | ⟨g, cap', cur, e', hB, hg, hc, _, hs, ht⟩
  · omega
  · rw [e'] at e
    injection e with e1 e2 e3
    subst e1
    rw [e']
    have hgl : g < w.heap.size := (Array.getElem?_eq_some_iff.1 hg).1
    have hf : ∀ o, w.frozen? ⟨g, o, none⟩ = false := fun o => by simp [World.frozen?, hg]
    have hH := holdsP hcm hf
    have eg : ∀ args w, (callFunc 20 args).run Tryz.prog w = .ok (.enter 20 args) w := enters_of Tryz.func20 (by kernel_rfl) rfl
    have hcon := AnyQ.slices_SortFunc Tryz.sortPx 2 Tryz.isAgg61 Tryz.sizeOf61 valPx (fun _ => rfl) (fun x v hv => flatPx_one [x] v (by simpa [flatPx] using hv)) cfP swoP 20 #[] g 0 cap' L.toArray w eg
      (fun _m _os _dk _ x y => nearer_any x y _) hH hgl (by simp; omega)
    change Calls Tryz.prog 19 _ _ _ at hcon
    simp only [List.size_toArray] at hcon
    refine hcon.mono fun x w' ⟨h1, d', n, os, hp, hso, hw⟩ => ⟨h1, d'.toList, _, _, rfl, ?_, ?_, ?_, ?_⟩
    · have h3 := hp.2.2
      have hsz : d'.size = L.length := by have := hp.1; simpa using this
      rw [← hsz, Array.extract_size] at h3
      rw [hsz] at h3
      have e5 : (L.toArray.extract 0 L.length).toList = L := by simp
      rw [e5] at h3
      exact h3
    · have hsz : d'.size = L.length := by have := hp.1; simpa using this
      refine List.pairwise_iff_getElem.2 (fun i j hi hj hij => ?_)
      have hj' : j < d'.size := by simpa using hj
      have hi' : i < d'.size := by simpa using hi
      have := hso i j (Nat.zero_le _) hij (by omega)
      rw [ltP', getElem!_pos d' i hi', getElem!_pos d' j hj'] at this
      simp only [Array.getElem_toList]
      omega
    · refine cameP (L := d'.toList) ?_ ?_
      · have hsz : d'.size = L.toArray.size := hp.1
        exact SWK.holds ⟨n, os, hw⟩ hgl hH hsz
      · rw [hw]
        exact Nat.lt_of_lt_of_le hgl (sortedP_below w g n B _ os hB hgl).size
    · rw [hw]
      exact sortedP_below w g n B _ os hB hgl
end Go.Proofs.YtmgnobeaacjdjajGreatDoor
