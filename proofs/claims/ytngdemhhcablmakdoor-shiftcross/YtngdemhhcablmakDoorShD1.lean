/-
  What is wrong with two rows: the program's, by contract.
-/
import Derived.Test.YtngdemhhcablmakDoorShD0
namespace Go.Proofs.YtngdemhhcablmakDoor
open Go Go.RowKit

def WrPost (a : Nat → Addr) (A B : List Int) (w : World) (e : Ending) (w' : World) : Prop := ∃ er : Value, e = .returned er ∧ ErrIs a (rowsE A B) er ∧ w' = w
set_option maxRecDepth 100000 in
set_option maxHeartbeats 1600000 in
theorem wrongRows_any {a : Nat → Addr} {w : World} {a1 a2 : Option Addr} {c1 c2 : Nat} {A B : List Int} (hS : Sents w a) (hA : ICame w a1 A) (hB : ICame w a2 B) (l1 : A.length ≤ 9223372036854775807) (l2 : B.length ≤ 9223372036854775807) :
    Calls Tryd.prog 39 #[.slice a1 A.length c1, .slice a2 B.length c2] w (WrPost a A B w) := by
  have x1 := hS.g1
  have x4 := hS.g4
  have hcA := fun (q : A.length ≤ 9223372036854775806) => containsGreat_any (cap := c1) hA q
  have hcB := fun (q : B.length ≤ 9223372036854775806) => containsGreat_any (cap := c2) hB q
  have H2 : HeldR (rowsE A B = 2 → WrPost a A B w (.returned (.iface 120 (.pointer (some (a 1))))) w) := hideR (fun q => ⟨_, rfl, by rw [q]; exact err_at 1 (by decide), rfl⟩)
  have H5 : HeldR (rowsE A B = 5 → WrPost a A B w (.returned (.iface 120 (.pointer (some (a 4))))) w) := hideR (fun q => ⟨_, rfl, by rw [q]; exact err_at 4 (by decide), rfl⟩)
  have H0 : HeldR (rowsE A B = 0 → WrPost a A B w (.returned .nilIface) w) := hideR (fun q => ⟨_, rfl, .inl ⟨q, rfl⟩, rfl⟩)
  have hE : rowsE A B = if 256 < A.length ∨ 256 < B.length then 2 else if A.length = 0 ∨ A.length ≠ B.length then 5 else if badAB A B A.length = true then 2 else 0 := rfl
  rw [badAB_two] at hE
  have HBl : HeldR (A.length = B.length → badR B A.length = badR B B.length) := hideR (fun q => by rw [q])
  obtain ⟨nA, hnA⟩ : ∃ n, A.length = n := ⟨_, rfl⟩
  obtain ⟨nB, hnB⟩ : ∃ n, B.length = n := ⟨_, rfl⟩
  rw [hnA] at l1 hcA hE HBl ⊢
  rw [hnB] at l2 hcB hE HBl ⊢
  clear hS hA hB hnA hnB
  by_cases q1 : 256 < nA
  · have t1 : decide ((256 : Int) < (nA : Int)) = true := decide_eq_true (by omega)
    have t1n : decide (256 < nA) = true := decide_eq_true q1
    have HR := hideR (unhideR H2 (by rw [hE, if_pos (.inl q1)]))
    clear H2 H5 H0 hE hcA hcB
    go_enter Tryd.func39, Tryd.ntmps39
    go_wp2
    go_ret
    exact unhideR HR
  have t1 : decide ((256 : Int) < (nA : Int)) = false := decide_eq_false (by omega)
  have t1n : decide (256 < nA) = false := decide_eq_false q1
  by_cases q2 : 256 < nB
  · have t2 : decide ((256 : Int) < (nB : Int)) = true := decide_eq_true (by omega)
    have t2n : decide (256 < nB) = true := decide_eq_true q2
    have HR := hideR (unhideR H2 (by rw [hE, if_pos (.inr q2)]))
    clear H2 H5 H0 hE hcA hcB
    go_enter Tryd.func39, Tryd.ntmps39
    go_wp2
    go_ret
    exact unhideR HR
  have t2 : decide ((256 : Int) < (nB : Int)) = false := decide_eq_false (by omega)
  have t2n : decide (256 < nB) = false := decide_eq_false q2
  rw [if_neg (fun q => q.elim q1 q2)] at hE
  by_cases q3 : nA = 0
  · have t3 : ((nA : Int) == 0) = true := by simp; omega
    have t3n : (nA == 0) = true := by simp; omega
    have HR := hideR (unhideR H5 (by rw [hE, if_pos (.inl q3)]))
    clear H2 H5 H0 hE hcA hcB q3
    go_enter Tryd.func39, Tryd.ntmps39
    go_wp2
    go_ret
    exact unhideR HR
  have t3 : ((nA : Int) == 0) = false := by simp; omega
  have t3n : (nA == 0) = false := by simp; omega
  by_cases q4 : nA = nB
  case neg =>
    have t4 : ((nA : Int) != (nB : Int)) = true := by simp; omega
    have t4n : (nA != nB) = true := by simp; omega
    have HR := hideR (unhideR H5 (by rw [hE, if_pos (.inr q4)]))
    clear H2 H5 H0 hE hcA hcB q4
    go_enter Tryd.func39, Tryd.ntmps39
    go_wp2
    go_ret
    exact unhideR HR
  case pos =>
  subst q4
  have t4 : ((nA : Int) != (nA : Int)) = false := by simp
  have t4n : (nA != nA) = false := by simp
  rw [if_neg (fun q => q.elim q3 (fun q => q rfl))] at hE
  have hcA' := hcA (by omega)
  have hcB' := hcB (by omega)
  clear hcA hcB HBl q3
  generalize badR A nA = bA at *
  generalize badR B nA = bB at *
  cases bA with
  | true =>
    have HR := hideR (unhideR H2 (by rw [hE]; rfl))
    clear H2 H5 H0 hE hcB'
    go_enter Tryd.func39, Tryd.ntmps39
    go_wp2_with fail
    refine hcA'.mono ?_
    rintro e u ⟨rfl, rfl⟩
    go_wp2
    go_ret
    exact unhideR HR
  | false =>
  cases bB with
  | true =>
    have HR := hideR (unhideR H2 (by rw [hE]; rfl))
    clear H2 H5 H0 hE
    go_enter Tryd.func39, Tryd.ntmps39
    go_wp2_with fail
    refine hcA'.mono ?_
    rintro e u ⟨rfl, rfl⟩
    go_wp2_with fail
    refine hcB'.mono ?_
    rintro e u ⟨rfl, rfl⟩
    go_wp2
    go_ret
    exact unhideR HR
  | false =>
    have HR := hideR (unhideR H0 (by rw [hE]; rfl))
    clear H2 H5 H0 hE
    go_enter Tryd.func39, Tryd.ntmps39
    go_wp2_with fail
    refine hcA'.mono ?_
    rintro e u ⟨rfl, rfl⟩
    go_wp2_with fail
    refine hcB'.mono ?_
    rintro e u ⟨rfl, rfl⟩
    go_wp2
    go_ret
    exact unhideR HR
end Go.Proofs.YtngdemhhcablmakDoor
