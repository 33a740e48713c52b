/-
  The law MoveRuns: its walk, out of the program's Run and Valid by their contracts.
-/
import Derived.Test.YtdngkmobkbiflagDoorBodsW
import Derived.Test.YtdngkmobkbiflagDoorSents
import Derived.Test.YtdngkmobkbiflagDoorErrFew
namespace Go.Proofs.YtdngkmobkbiflagDoor
open Go Go.RowKit

theorem coded_sent {w : World} {a : Nat → Addr} (h : Sents w a) (k : Nat) (hk : k < 10) (c : Int) :
    Calls Tryd.prog 12 #[.iface 105 (.pointer (some (a k))), .int .i64 c] w fun e w' => e = .returned (.bool ((k : Int) + 1 == c)) ∧ Below w.heap.size w w' := by
  go_enter Tryd.func12, Tryd.ntmps12
  go_wp2_with (go_at_call 27; refine (code_sent h k hk).mono ?_; rintro e w' ⟨rfl, hb⟩)
  go_ret
  exact ⟨rfl, hb⟩
theorem coded_nil (c : Int) (w : World) :
    Calls Tryd.prog 12 #[.nilIface, .int .i64 c] w fun e w' => e = .returned (.bool (0 == c)) ∧ w' = w := by
  go_enter Tryd.func12, Tryd.ntmps12
  go_wp2_with (go_at_call 27; refine (code_nil _).mono ?_; rintro e w' ⟨rfl, rfl⟩)
  go_ret
  exact ⟨rfl, rfl⟩
/-- the error of a number. -/
def ErrIs (a : Nat → Addr) (E : Int) (x : Value) : Prop := (E = 0 ∧ x = .nilIface) ∨ ∃ k : Nat, k < 10 ∧ E = (k : Int) + 1 ∧ x = .iface 105 (.pointer (some (a k)))
theorem coded_err {w : World} {a : Nat → Addr} (h : Sents w a) {E : Int} {x : Value} (hx : ErrIs a E x) :
    Calls Tryd.prog 12 #[x, .int .i64 E] w fun e w' => e = .returned (.bool true) ∧ Below w.heap.size w w' := by
  rcases hx with ⟨rfl, rfl⟩ | ⟨k, hk, rfl, rfl⟩
  · refine (coded_nil 0 w).mono ?_
    rintro e w' ⟨rfl, rfl⟩
    exact ⟨rfl, Below.refl _ _⟩
  · refine (coded_sent h k hk _).mono ?_
    rintro e w' ⟨rfl, hb⟩
    refine ⟨?_, hb⟩
    rw [show ((k : Int) + 1 == (k : Int) + 1) = true from beq_self_eq_true _]
theorem Sents.errs {w : World} {a : Nat → Addr} (h : Sents w a) : Errs w a := ⟨h.g1, h.g4, h.g5, by have := h.big; omega, by have := h.big; omega, by have := h.big; omega⟩
/-- what the program's Run answers. -/
def RunP (a : Nat → Addr) (w : World) (L : List Bd) (steps : Int) (u x : Value) : Prop := ErrIs a (runE L steps) x ∧ ((runE L steps = 0 ∧ ∃ X, runN (sg steps) steps.natAbs L = some X ∧ BSl w u X) ∨ (runE L steps ≠ 0 ∧ BSl w u []))
def RunOK (a : Nat → Addr) : Prop := ∀ (v : Value) (L : List Bd) (steps : Int) (w : World), Errs w a → BSl w v L → L.length ≤ 14 → Calls Tryd.prog 9 #[v, .int .i64 steps] w fun e w' => ∃ u x, e = .returned (.tuple #[u, x]) ∧ RunP a w' L steps u x ∧ Below w.heap.size w w'
def ValidOK (a : Nat → Addr) : Prop := ∀ (v : Value) (L : List Bd) (w : World), Errs w a → BSl w v L → L.length ≤ 14 → Calls Tryd.prog 13 #[v] w fun e w' => ∃ x, e = .returned x ∧ ErrIs a (errV L) x ∧ Below w.heap.size w w'
def b3 : Bd := ⟨cl0, ⟨3, 0, 0⟩, 0⟩
theorem run3 : runE [b3] 2 = 0 ∧ runN (sg 2) (2 : Int).natAbs [b3] = some [⟨⟨6, 0, 0⟩, ⟨3, 0, 0⟩, 0⟩] := by decide +kernel
set_option maxRecDepth 100000 in
set_option maxHeartbeats 1600000 in
theorem moves_any {a : Nat → Addr} (hR : RunOK a) (w : World) (hS : Errs w a) : Calls Tryd.prog 7 #[] w fun e w' => e = .returned (.bool true) ∧ Below w.heap.size w w' := by
  have hrow : ∀ u : World, u.heap[w.heap.size]? = some (.cells #[.int .i64 0, .int .i64 0, .int .i64 0, .int .i64 3, .int .i64 0, .int .i64 0, .int .i64 0] 40) → BSl u (.slice (some ⟨w.heap.size, 0, none⟩) 1 1) [b3] := fun u hu => by
    refine BSl.row (L := [b3]) ⟨fun k hk => ⟨w.heap.size, 0, rfl, ltB hu, ?_⟩⟩
    obtain rfl : k = 0 := by simp at hk; omega
    exact bat_of (fun i hi => by
      rw [(cells_at hu _ (by simp; omega)).1]
      rcases (show i = 0 ∨ i = 1 ∨ i = 2 ∨ i = 3 ∨ i = 4 ∨ i = 5 ∨ i = 6 by omega) with rfl | rfl | rfl | rfl | rfl | rfl | rfl <;> rfl)
  have hrun := hR _ [b3] 2 _ (hS.below (below_a w (.cells #[.int .i64 0, .int .i64 0, .int .i64 0, .int .i64 3, .int .i64 0, .int .i64 0, .int .i64 0] 40))) (hrow _ (alloc_last w _)) (by decide)
  clear hrow
  go_enter Tryd.func7, Tryd.ntmps7
  go_wp2_with fail
  refine hrun.mono ?_
  rintro e w1 ⟨u, x, rfl, ⟨hE, hX⟩, hb⟩
  have HW := hideR (below_go (below_a _ _) hb)
  rw [run3.1] at hE hX
  obtain rfl : x = .nilIface := by
    rcases hE with ⟨_, h⟩ | ⟨k, _, h, _⟩
    · exact h
    · omega
  obtain ⟨X, h1, h2⟩ : ∃ X, runN (sg 2) (2 : Int).natAbs [b3] = some X ∧ BSl w1 u X := by
    rcases hX with ⟨_, h⟩ | ⟨h, _⟩
    · exact h
    · exact absurd rfl h
  rw [run3.2] at h1
  cases h1
  obtain ⟨ad, cap, rfl, hc⟩ := h2.cut
  obtain ⟨b, off, rfl, _, hat⟩ := hc.at_ 0 (by decide)
  have c0 : w1.cell? ⟨b, off, none⟩ = some (.int .i64 6) := hat.ax
  clear hat hc h2 hX hE hb hrun
  go_wp2
  go_ret
  exact ⟨rfl, unhideR HW⟩
def shortB (n : Nat) (steps : Int) : Bool := decide (n ≤ 14) && (decide (steps ≤ 120) && decide (-120 ≤ steps) || decide (2000 < steps) || decide (steps < -2000))
set_option maxRecDepth 100000 in
set_option maxHeartbeats 800000 in
theorem short_any {v : Value} {L : List Bd} {w : World} (h : BSl w v L) (_hl : L.length ≤ 9223372036854775807) (steps : Int) : Calls Tryd.prog 8 #[v, .int .i64 steps] w fun e w' => e = .returned (.bool (shortB L.length steps)) ∧ w' = w := by
  obtain ⟨ad, cap, rfl, hc⟩ := h.cut
  clear hc h
  unfold shortB
  go_enter Tryd.func8, Tryd.ntmps8
  go_wp2
  all_goals
    go_ret
    refine ⟨?_, rfl⟩
    refine congrArg (fun b => Ending.returned (Value.bool b)) ?_
    grind
theorem short_len {n : Nat} {steps : Int} (h : shortB n steps = true) : n ≤ 14 := by
  unfold shortB at h
  rw [Bool.and_eq_true] at h
  exact of_decide_eq_true h.1
set_option maxRecDepth 100000 in
set_option maxHeartbeats 3200000 in
theorem runs_walk {a : Nat → Addr} (hR : RunOK a) (hV : ValidOK a) {v : Value} {L : List Bd} (steps : Int) (w : World) (hS : Sents w a) (h : BSl w v L) (hl : L.length ≤ 9223372036854775807) :
    Calls Tryd.prog 3 #[v, .int .i64 steps] w fun e w' => e = .returned (.bool true) ∧ Below w.heap.size w w' := by
  have HS := hideR hS
  have HB := hideR h
  have hmv := moves_any hR w hS.errs
  have HR := hideR hR
  have HV := hideR hV
  clear hS h hR hV
  go_enter Tryd.func3, Tryd.ntmps3
  go_wp2_with fail
  refine hmv.mono ?_
  rintro e w1 ⟨rfl, k1⟩
  have HW := hideR k1
  clear k1 hmv
  have hsh := short_any ((unhideR HB).below (unhideR HW)) hl steps
  cases hf : shortB L.length steps with
  | false =>
    rw [hf] at hsh
    go_wp2_with fail
    refine hsh.mono ?_
    rintro e w2 ⟨rfl, rfl⟩
    go_wp2
    go_ret
    exact ⟨rfl, unhideR HW⟩
  | true =>
    rw [hf] at hsh
    have h14 := short_len hf
    go_wp2_with fail
    refine hsh.mono ?_
    rintro e w2 ⟨rfl, rfl⟩
    clear hsh hf
    have hb := bodies_any ((unhideR HB).below (unhideR HW)) h14
    go_wp2_with fail
    refine hb.mono ?_
    rintro e w3 ⟨u, rfl, hO, k3⟩
    replace HW := hideR (below_go (unhideR HW) k3)
    clear hb k3
    have hrun := unhideR HR u L steps w3 ((unhideR HS).below (unhideR HW) (Nat.le_refl _)).errs hO.sl h14
    clear hO
    go_wp2_with fail
    refine hrun.mono ?_
    rintro e w4 ⟨u4, x4, rfl, hP, k4⟩
    replace HW := hideR (below_go (unhideR HW) k4)
    have HP := hideR hP
    clear hrun k4 hP
    have hro := runOf_any ((unhideR HB).below (unhideR HW)) hl steps
    go_wp2_with fail
    refine hro.mono ?_
    rintro e w5 ⟨u5, E, rfl, ⟨hE, hX⟩, k5⟩
    replace HW := hideR (below_go (unhideR HW) k5)
    obtain ⟨hE4, hX4⟩ := unhideR HP
    have hsame : ∃ M, M.length ≤ 14 ∧ BSl w5 u4 M ∧ BSl w5 u5 M := by
      rw [hE] at hX
      rcases hX with ⟨e0, X, hr, hO⟩ | ⟨e0, rfl⟩
      · rcases hX4 with ⟨_, X', hr', hb'⟩ | ⟨e1, _⟩
        · rw [hr] at hr'
          cases hr'
          refine ⟨X, ?_, hb'.below k5, hO.sl⟩
          have hlen : ∀ (n : Nat) (L X : List Bd), runN (sg steps) n L = some X → X.length = L.length := by
            intro n
            induction n with
            | zero => intro L X h; cases h; rfl
            | succ n ih =>
              intro L X h
              unfold runN at h
              cases e : stepR (sg steps) L with
              | none => rw [e] at h; cases h
              | some y =>
                rw [e] at h
                obtain ⟨_, _, rfl⟩ := stepR_some e
                exact (ih _ _ h).trans (stepV_length _ _)
          rw [hlen _ _ _ hr]
          exact h14
        · exact absurd e0 e1
      · rcases hX4 with ⟨e1, _⟩ | ⟨_, hb'⟩
        · exact absurd e1 e0
        · exact ⟨[], by decide, hb'.below k5, .nil⟩
    obtain ⟨M, hM, hs4, hs5⟩ := hsame
    have H4 := hideR hs4
    have H5 := hideR hs5
    have HE4 := hideR (hE ▸ hE4 : ErrIs a E x4)
    clear hro k5 hX hX4 hE hE4 HP hs4 hs5
    have hc := coded_err ((unhideR HS).below (unhideR HW) (Nat.le_refl _)) (unhideR HE4)
    go_wp2_with fail
    refine hc.mono ?_
    rintro e w6 ⟨rfl, k6⟩
    replace HW := hideR (below_go (unhideR HW) k6)
    replace H4 := hideR ((unhideR H4).below k6)
    replace H5 := hideR ((unhideR H5).below k6)
    clear hc k6 HE4
    have hb := bodies_any ((unhideR HB).below (unhideR HW)) h14
    go_wp2_with fail
    refine hb.mono ?_
    rintro e w7 ⟨u7, rfl, hO, k7⟩
    replace HW := hideR (below_go (unhideR HW) k7)
    replace H4 := hideR ((unhideR H4).below k7)
    replace H5 := hideR ((unhideR H5).below k7)
    have hv := unhideR HV u7 L w7 ((unhideR HS).below (unhideR HW) (Nat.le_refl _)).errs hO.sl h14
    clear hb k7 hO
    go_wp2_with fail
    refine hv.mono ?_
    rintro e w8 ⟨x8, rfl, hE8, k8⟩
    replace HW := hideR (below_go (unhideR HW) k8)
    replace H4 := hideR ((unhideR H4).below k8)
    replace H5 := hideR ((unhideR H5).below k8)
    have HE8 := hideR hE8
    clear hv k8 hE8
    have hbe := bodiesErr_any ((unhideR HB).below (unhideR HW)) hl
    go_wp2_with fail
    refine hbe.mono ?_
    rintro e w9 ⟨rfl, k9⟩
    replace HW := hideR (below_go (unhideR HW) k9)
    replace H4 := hideR ((unhideR H4).below k9)
    replace H5 := hideR ((unhideR H5).below k9)
    clear hbe k9
    have hc := coded_err ((unhideR HS).below (unhideR HW) (Nat.le_refl _)) (unhideR HE8)
    clear HE8
    generalize errV L = E8 at *
    go_wp2_with fail
    refine hc.mono ?_
    rintro e w10 ⟨rfl, k10⟩
    replace HW := hideR (below_go (unhideR HW) k10)
    have hsm := same_any ((unhideR H4).below k10) ((unhideR H5).below k10) hM
    clear hc k10 H4 H5
    go_wp2_with fail
    refine hsm.mono ?_
    rintro e w11 ⟨rfl, k11⟩
    replace HW := hideR (below_go (unhideR HW) k11)
    clear hsm k11
    go_wp2
    go_ret
    exact ⟨rfl, unhideR HW⟩
end Go.Proofs.YtdngkmobkbiflagDoor
