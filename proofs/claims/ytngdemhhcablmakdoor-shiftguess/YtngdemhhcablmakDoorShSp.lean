/-
  The law's samePairs: two rows of complex numbers that are the same but for NaNs, by contract.
-/
import Derived.Test.YtngdemhhcablmakDoorShKA
import Derived.Test.YtngdemhhcablmakDoorSmB
import Derived.Deep.QuietTactic
namespace Go.Proofs.YtngdemhhcablmakDoor
open Go Go.RowKit

theorem drew_belowS {W : World} (u : World) (q : Nat) (h : Below W.heap.size W u) : Below W.heap.size W (u.drewN q) := ⟨h.os, h.tape, h.output, h.size, h.block⟩
def SpPost (w : World) (e : Ending) (w' : World) : Prop := e = .returned (.bool true) ∧ Below w.heap.size w w'
set_option maxRecDepth 100000 in
set_option maxHeartbeats 4000000 in
theorem samePairs_any {w : World} {a1 a2 : Option Addr} {c1 c2 n : Nat} {A B : List (Nat × Nat)} (hA : CxCame w a1 A) (hB : PrCame w a2 B) (l1 : A.length = n) (l2 : B.length = n) (hn : n ≤ 100000) (hs : ∀ k, k < n → CSame (A.getD k (0, 0)) (B.getD k (0, 0))) :
    Calls Tryd.prog 13 #[.slice a1 n c1, .slice a2 n c2] w (SpPost w) := by
  have HA := hideR hA
  have HB := hideR hB
  have H1 := hideR l1
  have H2 := hideR l2
  have HS := hideR hs
  have tnn : ((n : Int) != (n : Int)) = false := by simp
  have tnn' : (n != n) = false := by simp
  clear hA hB l1 l2 hs
  go_enter Tryd.func13, Tryd.ntmps13
  go_wp2
  go_loopw [5] (fun iv wl => ∃ k : Nat, k ≤ n ∧ iv = .int .i64 (k : Nat) ∧ HeldR (Below w.heap.size w wl)) (fun iv _ => n + 1 - (intOf iv).toNat)
  case atStart => exact ⟨0, by omega, rfl, hideR (Below.refl _ _)⟩
  case round =>
    obtain ⟨k, hk, rfl, HW⟩ := hrel
    by_cases hlt : k < n
    · have tk : decide (k < n) = true := decide_eq_true hlt
      have jk : (k : Int) < (n : Int) := by omega
      have wk : IntKind.i64.wrap ((k : Int) + 1) = ((k + 1 : Nat) : Int) := by rw [show (k : Int) + 1 = ((k + 1 : Nat) : Int) by omega]; exact iwrap (by omega) (by omega)
      obtain ⟨b1, o1, rfl, _, x1⟩ := ((unhideR HA).below (unhideR HW)).at_ k (by rw [unhideR H1]; exact hlt)
      obtain ⟨b2, o2, rfl, _, x2⟩ := ((unhideR HB).below (unhideR HW)).at_ k (by rw [unhideR H2]; exact hlt)
      have x3 := x2.c0
      have x4 := x2.c1
      obtain ⟨s1, s2⟩ := unhideR HS k hlt
      have t1 := same_iff.2 s1
      have t2 := same_iff.2 s2
      have hb1 := fun u => sameBits_any (A.getD k (0, 0)).1 (B.getD k (0, 0)).1 u
      have hb2 := fun u => sameBits_any (A.getD k (0, 0)).2 (B.getD k (0, 0)).2 u
      rw [t1] at hb1
      rw [t2] at hb2
      clear s1 s2 t1 t2 x2
      generalize (A.getD k (0, 0)).1 = p1 at *
      generalize (A.getD k (0, 0)).2 = p2 at *
      generalize (B.getD k (0, 0)).1 = q1 at *
      generalize (B.getD k (0, 0)).2 = q2 at *
      have y1 : ∀ m, (wr.drewN m).cell? ⟨b1, o1 + k, none⟩ = some (.complex .f64 p1 p2) := fun _ => x1
      have y4 : ∀ m, (wr.drewN m).cell? ⟨b2, o2 + k * 2 + 1, none⟩ = some (.float .f64 q2) := fun _ => x4
      go_wp2
      go_quiet (first | (go_at_call 31; exact Calls.quiet_of_same (hb1 _)))
      have z1 := y1 nq
      have z4 := y4 nq
      have HW2 := hideR (drew_belowS wr nq (unhideR HW))
      clear y1 y4 x1 x3 x4 HW
      generalize wr.drewN nq = wq at *
      clear nq
      go_wp2
      go_quiet (first | (go_at_call 31; exact Calls.quiet_of_same (hb2 _)))
      have HW3 := hideR (drew_belowS wq nq (unhideR HW2))
      go_wp2
      exact ⟨⟨k + 1, by omega, by first | rfl | go_num, HW3⟩, by simp [intOf]; omega⟩
    · obtain rfl : k = n := by omega
      have tk : decide (k < k) = false := decide_eq_false hlt
      go_wp2
      go_ret
      exact ⟨rfl, unhideR HW⟩
end Go.Proofs.YtngdemhhcablmakDoor
