/-
  The law OrbitKepler: its walk, out of the program's Kepler by its contract.
-/
import Derived.Test.YtfamndjiaebmbafDoorOrbEnc
import Derived.Test.YtfamndjiaebmbafDoorSents
namespace Go.Proofs.YtfamndjiaebmbafDoor
open Go Go.RowKit

theorem kep5 : kepV 5 0 = 5 := by decide +kernel
theorem ok0 : okE 0 = true := by decide +kernel
theorem coded_sent {w : World} {a : Nat → Addr} (h : Sents w a) (k : Nat) (hk : k < 10) (c : Int) :
    Calls Tryd.prog 10 #[.iface 111 (.pointer (some (a k))), .int .i64 c] w fun e w' => e = .returned (.bool ((k : Int) + 1 == c)) ∧ Below w.heap.size w w' := by
  go_enter Tryd.func10, Tryd.ntmps10
  go_wp2_with (go_at_call 26; refine (code_sent h k hk).mono ?_; rintro e w' ⟨rfl, hb⟩)
  go_ret
  exact ⟨rfl, hb⟩
theorem coded_nil (c : Int) (w : World) :
    Calls Tryd.prog 10 #[.nilIface, .int .i64 c] w fun e w' => e = .returned (.bool (0 == c)) ∧ w' = w := by
  go_enter Tryd.func10, Tryd.ntmps10
  go_wp2_with (go_at_call 26; refine (code_nil _).mono ?_; rintro e w' ⟨rfl, rfl⟩)
  go_ret
  exact ⟨rfl, rfl⟩
theorem Sents.shape {w : World} {a : Nat → Addr} (h : Sents w a) : ShapeAt w (a 4) := ⟨h.g4, by have := h.big; omega⟩
theorem kep_first {a : Addr} {x : Ending} (h : KepIs a 5 0 x) : x = .returned (.tuple #[.int .i64 5, .nilIface]) := by
  rcases h with ⟨_, h⟩ | ⟨h, _⟩
  · rw [kep5] at h
    exact h
  · rw [ok0] at h
    cases h
set_option maxRecDepth 100000 in
set_option maxHeartbeats 8000000 in
theorem kep_walk {a : Nat → Addr} (m : Int) (e : Nat) (w : World) (hS : Sents w a) (hK : ∀ m e u, Below w.heap.size w u → Calls Tryd.prog 17 #[.int .i64 m, .float .f64 e] u fun x u' => KepIs (a 4) m e x ∧ Below u.heap.size u u') :
    Calls Tryd.prog 4 #[.int .i64 m, .float .f64 e] w fun x w' => x = .returned (.bool true) ∧ Below w.heap.size w w' := by
  have HS := hideR hS
  have HK := hideR hK
  clear hS hK
  go_enter Tryd.func4, Tryd.ntmps4
  go_wp2_with fail
  refine (unhideR HK _ _ _ (Below.refl _ _)).mono ?_
  rintro x w1 ⟨hx, k1⟩
  obtain rfl := kep_first hx
  have HW := hideR k1
  clear k1 hx
  go_wp2_with fail
  refine (unhideR HK _ _ _ (unhideR HW)).mono ?_
  rintro x w2 ⟨hx, k2⟩
  replace HW := hideR (below_go (unhideR HW) k2)
  clear k2 HK
  have hko := fun u => keplerOf_any m e u
  unfold kepA at hko
  rcases hx with ⟨hok, rfl⟩ | ⟨hok, rfl⟩
  · rw [hok] at hko
    simp only [if_true] at hko
    generalize kepV m e = k at *
    have h0 : ((0 : Int) == 0) = true := rfl
    go_wp2_with fail
    refine (hko _).mono ?_
    rintro x w3 ⟨rfl, k3⟩
    replace HW := hideR (below_go (unhideR HW) k3)
    clear k3
    go_wp2_with fail
    refine (coded_nil _ _).mono ?_
    rintro x w4 ⟨rfl, rfl⟩
    rw [h0]
    go_wp2
    go_ret
    exact ⟨rfl, unhideR HW⟩
  · rw [hok] at hko
    simp only [Bool.false_eq_true, if_false] at hko
    unfold shapeE
    have h5 : (((4 : Nat) : Int) + 1 == 5) = true := rfl
    go_wp2_with fail
    refine (hko _).mono ?_
    rintro x w3 ⟨rfl, k3⟩
    replace HW := hideR (below_go (unhideR HW) k3)
    clear k3
    go_wp2_with fail
    refine (coded_sent ((unhideR HS).below (unhideR HW) (Nat.le_refl _)) 4 (by omega) 5).mono ?_
    rintro x w4 ⟨rfl, k4⟩
    replace HW := hideR (below_go (unhideR HW) k4)
    clear k4
    rw [h5]
    go_wp2
    go_ret
    exact ⟨rfl, unhideR HW⟩
end Go.Proofs.YtfamndjiaebmbafDoor
