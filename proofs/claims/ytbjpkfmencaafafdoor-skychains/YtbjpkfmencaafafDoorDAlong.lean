/-
  Along a chain: the program's, by its contract.
-/
import Derived.Test.YtbjpkfmencaafafDoorDTurn2
import Derived.Test.YtbjpkfmencaafafDoorDValid
import Derived.Test.YtbjpkfmencaafafDoorDBackF
import Derived.Deep.RegionWith
namespace Go.Proofs.YtbjpkfmencaafafDoor
open Go Go.RowKit

def zeroV : Value := .agg #[.float .f64 0, .float .f64 0, .float .f64 0]
/-- what a walk along a chain answers. -/
def AlongIs (a : Nat → Addr) (L : List St) (v : V3) (e : Ending) : Prop :=
  (∃ q, (∀ j, j < L.length → (L.getD j st0).good) ∧ Al L v L.length q ∧ e = .returned (.tuple #[q.val, .nilIface])) ∨ ((∃ j, j < L.length ∧ ¬ (L.getD j st0).good) ∧ e = .returned (.tuple #[zeroV, shapeErr a]))
structure VBox (w : World) (b : Nat) (q : V3) : Prop where
  at_ : w.heap[b]? = some (.cells #[.float .f64 q.x, .float .f64 q.y, .float .f64 q.z] 25)
theorem VBox.set {w : World} {b : Nat} {q : V3} (h : VBox w b q) (p : V3) : VBox (((w.setCell ⟨b, 0, none⟩ (.float .f64 p.x)).setCell ⟨b, 1, none⟩ (.float .f64 p.y)).setCell ⟨b, 2, none⟩ (.float .f64 p.z)) b p := ⟨set3 h.at_⟩
set_option maxRecDepth 100000 in
set_option maxHeartbeats 16000000 in
theorem along_row {a : Nat → Addr} (b off cap : Nat) (L : List St) (x y z : Nat) (w : World) (hS : Sents w a) (hr : SRow w b off L) (hl : L.length ≤ 200) (hb : b < w.heap.size) :
    Calls Tryd.prog 6 #[.slice (some ⟨b, off, none⟩) L.length cap, .agg #[.float .f64 x, .float .f64 y, .float .f64 z]] w fun e w' => AlongIs a L ⟨x, y, z⟩ e ∧ Below w.heap.size w w' := by
  have hsf := run_store_float Tryd.prog
  have hS2 := hS.below (below_al2 w (.cells #[.float .f64 x, .float .f64 y, .float .f64 z] 25) (.cells #[.float .f64 0, .float .f64 0, .float .f64 0] 25)) (Nat.le_refl _)
  have hr2 := hr.below (below_al2 w (.cells #[.float .f64 x, .float .f64 y, .float .f64 z] 25) (.cells #[.float .f64 0, .float .f64 0, .float .f64 0] 25)) hb
  have HV := hideR (valid_any b off cap L _ hS2 hr2 hl (by simp; omega))
  have HR := hideR hr
  clear hS hS2 hr hr2
  go_enter Tryd.func6, Tryd.ntmps6
  go_wp2_with fail
  refine (unhideR HV).mono ?_
  rintro e w1 ⟨v, rfl, hv, k1⟩
  obtain ⟨h0, h1, hB1⟩ := two_blocks k1
  have A0 := hideR (VBox.mk (q := ⟨x, y, z⟩) h0)
  have A1 := hideR (VBox.mk (q := ⟨0, 0, 0⟩) h1)
  have HW := hideR hB1
  clear k1 h0 h1 hB1 HV
  rcases hv with ⟨rfl, hg⟩ | ⟨rfl, hbad⟩
  case inr =>
    obtain ⟨⟨d0, d1, d2⟩, f0, f1, f2⟩ := three_at (unhideR A1).at_
    have HN := hideR hbad
    clear hbad
    unfold shapeErr
    go_wp2
    simp [bodyPost, results, Tryd.results6, go_sem, d0, d1, d2]
    exact ⟨.inr ⟨unhideR HN, rfl⟩, below_three (unhideR HW) (by omega) _ _ _⟩
  case inl =>
    have HG := hideR hg
    clear hg
    go_wp2
    go_loopw [17] (fun kv wl => ∃ (k : Nat) (q : V3), k ≤ L.length ∧ kv = .int .i64 (k : Nat) ∧ HeldR (Al L ⟨x, y, z⟩ k q) ∧ HeldR (VBox wl w.heap.size q) ∧ HeldR (VBox wl (w.heap.size + 1) ⟨0, 0, 0⟩) ∧ HeldR (Below w.heap.size w wl)) (fun kv _ => L.length + 1 - (intOf kv).toNat)
    case atStart => exact ⟨0, ⟨x, y, z⟩, by omega, rfl, hideR .zero, A0, A1, HW⟩
    case round =>
      clear A0 A1 HW
      obtain ⟨k, q, hk, rfl, HA, B0, B1, HB⟩ := hrel
      have l0 := ltB (unhideR B1).at_
      by_cases hlt : k < L.length
      · have c0 := (unhideR HB).cell (p := ⟨b, off + k * 2, none⟩) hb |>.trans ((unhideR HR).ca k hlt)
        have c1 := (unhideR HB).cell (p := ⟨b, off + k * 2 + 1, none⟩) hb |>.trans ((unhideR HR).cb k hlt)
        have hsz := (unhideR HB).size
        have HT : HeldR (∀ p, Turned (L.getD k st0).k (L.getD k st0).d q p → Al L ⟨x, y, z⟩ (k + 1) p) := fun p hp => .succ (unhideR HA) hlt hp
        clear HA
        generalize L.getD k st0 = s at *
        go_wp2_with fail
        obtain ⟨V, hV⟩ : ∃ V, V = wr.alloc (.cells #[.int .i64 s.k, .int .i64 s.d] 30) := ⟨_, rfl⟩
        rw [← hV]
        have C0 : HeldR (VBox V w.heap.size q) := hideR ⟨hV ▸ keepA (unhideR B0).at_⟩
        have C1 : HeldR (VBox V (w.heap.size + 1) ⟨0, 0, 0⟩) := hideR ⟨hV ▸ keepA (unhideR B1).at_⟩
        have CS := hideR (show V.heap[wr.heap.size]? = some (.cells #[.int .i64 s.k, .int .i64 s.d] 30) from hV ▸ alloc_last wr _)
        have HC := hideR (show Below w.heap.size w V from hV ▸ (unhideR HB).alloc hsz _)
        clear B0 B1 HB hV c0 c1
        obtain ⟨⟨e0, e1, e2⟩, _⟩ := three_at (unhideR C0).at_
        obtain ⟨⟨g0, g1⟩, _⟩ := pair_at (unhideR CS)
        go_region_with (first
          | (go_at_call 18; refine (by_any _ _).mono ?_; rintro e w2 ⟨bc, bs, rfl, hR2, k2⟩
             have k2' : Below V.heap.size V w2 := (below_drewN (Below.refl V.heap.size V) 1).trans k2
             have D0 := hideR (VBox.mk (keepB (unhideR C0).at_ k2'))
             have D1 := hideR (VBox.mk (keepB (unhideR C1).at_ k2'))
             have HD := hideR (below_go (unhideR HC) k2')
             have HR2 := hideR hR2
             obtain ⟨⟨e0', e1', e2'⟩, _⟩ := three_at (unhideR D0).at_
             obtain ⟨⟨g0', g1'⟩, _⟩ := pair_at (keepB (unhideR CS) k2')
             clear k2 k2' hR2)
          | (go_at_call 17; refine (about_any _ _ _ _ _ _ _ _ (unhideR HR2)).mono ?_; rintro e w3 ⟨v, rfl, hT, k3⟩
             obtain ⟨p, rfl, hp⟩ := turned_form (p := q) hT
             have D3 := hideR (VBox.mk (keepB (unhideR D0).at_ k3))
             have D4 := hideR (VBox.mk (keepB (unhideR D1).at_ k3))
             have HD3 := hideR (below_go (unhideR HD) k3)
             have HP := hideR (unhideR HT p hp)
             unfold V3.val
             obtain ⟨⟨e0'', e1'', e2''⟩, f0, f1, f2⟩ := three_at (unhideR D3).at_
             clear k3 hT hp))
        all_goals
          have E0 := hideR ((unhideR D3).set p)
          have E1 : HeldR (VBox (((w3.setCell ⟨w.heap.size, 0, none⟩ (.float .f64 p.x)).setCell ⟨w.heap.size, 1, none⟩ (.float .f64 p.y)).setCell ⟨w.heap.size, 2, none⟩ (.float .f64 p.z)) (w.heap.size + 1) ⟨0, 0, 0⟩) := hideR ⟨(set3_other (by omega)).trans (unhideR D4).at_⟩
          have E2 := hideR (below_three (unhideR HD3) (Nat.le_refl _) (.float .f64 p.x) (.float .f64 p.y) (.float .f64 p.z))
          go_wp2
          exact ⟨⟨k + 1, p, by omega, by go_num, HP, E0, E1, E2⟩, by simp [intOf]; omega⟩
      · obtain rfl : k = L.length := by omega
        obtain ⟨⟨e0, e1, e2⟩, _⟩ := three_at (unhideR B0).at_
        obtain ⟨⟨d0, d1, d2⟩, f0, f1, f2⟩ := three_at (unhideR B1).at_
        go_wp2
        simp [bodyPost, results, Tryd.results6, go_sem, d0, d1, d2]
        exact ⟨.inl ⟨q, unhideR HG, unhideR HA, rfl⟩, below_three (unhideR HB) (by omega) _ _ _⟩
end Go.Proofs.YtbjpkfmencaafafDoor
