/-
  Both parts of each over how many there are: the program's, by contract.
-/
import Derived.Test.YtngdemhhcablmakDoorShXA
import Derived.Test.YtngdemhhcablmakDoorDT2e
namespace Go.Proofs.YtngdemhhcablmakDoor
open Go Go.RowKit

/-- the first k are divided. -/
structure DvK (f : Nat) (X Y : List (Nat × Nat)) (k : Nat) : Prop where
  len : Y.length = X.length
  done : ∀ i, i < k → COv f (X.getD i (0, 0)) (Y.getD i (0, 0))
  rest : ∀ i, k ≤ i → Y.getD i (0, 0) = X.getD i (0, 0)
theorem DvK.next {f k : Nat} {X Y : List (Nat × Nat)} (h : DvK f X Y k) (hk : k < X.length) {r : Nat × Nat} (hr : COv f (X.getD k (0, 0)) r) : DvK f X (Y.set k r) (k + 1) := by
  refine ⟨by rw [List.length_set]; exact h.len, fun i hi => ?_, fun i hi => ?_⟩
  · by_cases e : i = k
    · subst e
      rw [cget_same (by rw [h.len]; exact hk)]
      exact hr
    · rw [cget_other e]
      exact h.done i (by omega)
  · rw [cget_other (by omega)]
    exact h.rest i (by omega)
def DvPost (B g n : Nat) (X : List (Nat × Nat)) (w : World) (e : Ending) (w' : World) : Prop := e = .returned (.tuple #[]) ∧ ∃ Y, DvK (floatOfInt .f64 (n : Nat)) X Y n ∧ CxOwn w' B (.slice (some ⟨g, 0, none⟩) n n) Y ∧ Below B w w'
set_option maxRecDepth 100000 in
set_option maxHeartbeats 1600000 in
theorem divide_any {w : World} {B g n : Nat} {X : List (Nat × Nat)} (hO : CxOwn w B (.slice (some ⟨g, 0, none⟩) n n) X) (hX : X.length = n) (hn : n ≤ 256) : Calls Tryd.prog 29 #[.slice (some ⟨g, 0, none⟩) n n] w (DvPost B g n X w) := by
  have HX := hideR hX
  have HO0 := hideR hO
  have HG := hideR hO.low
  have HE : HeldR (∀ u Y, DvK (floatOfInt .f64 (n : Nat)) X Y n → CxOwn u B (.slice (some ⟨g, 0, none⟩) n n) Y → Below B w u → DvPost B g n X w (.returned (.tuple #[])) u) := hideR (fun u Y h1 h2 h3 => ⟨rfl, Y, h1, h2, h3⟩)
  have hsto := fun w a x y m => run_store Tryd.prog w a (.complex .f64 x y) m rfl
  obtain ⟨f, hf⟩ : ∃ f, floatOfInt .f64 ((n : Nat) : Int) = f := ⟨_, rfl⟩
  rw [hf] at HE
  have HB0 := hideR (Below.refl B w)
  clear hO hX
  go_enter Tryd.func29, Tryd.ntmps29
  go_wp2
  clear hf
  go_loopw [10] (fun iv wl => ∃ (k : Nat) (Y : List (Nat × Nat)), k ≤ n ∧ iv = .int .i64 (k : Nat) ∧ HeldR (DvK f X Y k) ∧ HeldR (CxOwn wl B (.slice (some ⟨g, 0, none⟩) n n) Y) ∧ HeldR (Below B w wl)) (fun iv _ => n + 1 - (intOf iv).toNat)
  case atStart => exact ⟨0, X, by omega, rfl, hideR ⟨rfl, fun i hi => absurd hi (Nat.not_lt_zero i), fun i _ => rfl⟩, HO0, HB0⟩
  case round =>
    clear HO0 HB0
    obtain ⟨k, Y, hk, rfl, HK, HO, HB⟩ := hrel
    by_cases hlt : k < n
    · have tk : decide (k < n) = true := decide_eq_true hlt
      have tki : decide ((k : Int) < (n : Int)) = true := decide_eq_true (by omega)
      have jk : (k : Int) < (n : Int) := by omega
      have wk : IntKind.i64.wrap ((k : Int) + 1) = ((k + 1 : Nat) : Int) := by rw [show (k : Int) + 1 = ((k + 1 : Nat) : Int) by omega]; exact iwrap (by omega) (by omega)
      have HNx : HeldR (∀ r : Nat × Nat, COv f (X.getD k (0, 0)) r → DvK f X (Y.set k r) (k + 1)) := hideR (fun r h => (unhideR HK).next (by rw [unhideR HX]; exact hlt) h)
      obtain ⟨xc, xf⟩ := (unhideR HO).has ((unhideR HK).len.trans (unhideR HX)) (k := k) hlt
      rw [(unhideR HK).rest k (Nat.le_refl _)] at xc
      have HO' : HeldR (∀ m (r : Nat × Nat), CxOwn ((wr.drewN m).setCell ⟨g, k, none⟩ (.complex .f64 r.1 r.2)) B (.slice (some ⟨g, 0, none⟩) n n) (Y.set k r)) := hideR (fun m r => ((unhideR HO).below (drew_below _ m (Below.refl _ _))).put ((unhideR HK).len.trans (unhideR HX)) k r)
      have HB' : HeldR (∀ m (r : Nat × Nat), Below B w ((wr.drewN m).setCell ⟨g, k, none⟩ (.complex .f64 r.1 r.2))) := hideR (fun m r => (below_drewN (unhideR HB) m).setCell (unhideR HG) _)
      generalize X.getD k (0, 0) = x at *
      obtain ⟨re, im⟩ := x
      clear HK HO HB
      go_wp2_with fail
      refine upon_flt fl_quo ?_
      intro r1 n1 h1
      go_wp2_with fail
      refine upon_flt fl_quo ?_
      intro r2 n2 h2
      have HK2 := hideR (unhideR HNx (r1, r2) ⟨h1, h2⟩)
      clear h1 h2 HNx
      go_wp2
      exact ⟨⟨k + 1, _, by omega, by first | rfl | go_num, HK2, hideR (unhideR HO' _ (r1, r2)), hideR (unhideR HB' _ (r1, r2))⟩, by simp [intOf]; omega⟩
    · obtain rfl : k = n := by omega
      have tk : decide (k < k) = false := decide_eq_false hlt
      have tki : decide ((k : Int) < (k : Int)) = false := decide_eq_false (by omega)
      have HR := hideR (unhideR HE wr Y (unhideR HK) (unhideR HO) (unhideR HB))
      clear HE HK HO HB
      go_wp2
      simp [bodyPost, results, go_sem]
      exact unhideR HR
end Go.Proofs.YtngdemhhcablmakDoor
