/-
  What the program's Events and Valid of a track must answer; the first look of the laws; tracks that came in.
-/
import Derived.Test.YtlhjmmcimhceeahDoorEvTk
import Derived.Test.YtlhjmmcimhceeahDoorEvPut0
import Derived.Test.YtlhjmmcimhceeahDoorCodK
namespace Go.Proofs.YtlhjmmcimhceeahDoor
open Go Go.RowKit

def evE (t : Tr) (lev : Int) : Int := if trE t ≠ 0 then trE t else if 1099511627776 < lev ∨ lev < -1099511627776 then 5 else 0
def EventsOK (a : Nat → Addr) : Prop := ∀ (v : Value) (t : Tr) (lev : Int) (w : World), Sents w a → TrV w v t → t.L.length * 8 ≤ 140737488355328 →
  Calls Tryd.prog 21 #[v, .int .i64 lev] w fun e w' => ∃ (u x : Value) (L : List Evt) (ad : Option Addr) (cap : Nat), e = .returned (.tuple #[u, x]) ∧ ErrIs a (evE t lev) x ∧ (evE t lev = 0 → L = eventsV t lev) ∧ (evE t lev ≠ 0 → L = []) ∧ u = .slice ad L.length cap ∧ EvCame w' ad L ∧ Below w.heap.size w w'
def TrValidOK (a : Nat → Addr) : Prop := ∀ (v : Value) (t : Tr) (w : World), Sents w a → TrV w v t → t.L.length * 8 ≤ 140737488355328 →
  Calls Tryd.prog 38 #[v] w fun e w' => ∃ y : Value, e = .returned y ∧ ErrIs a (trE t) y ∧ Below w.heap.size w w'
def tr55 : Tr := ⟨0, 10, [-5, 5]⟩
theorem ev55 : evE tr55 0 = 0 ∧ eventsV tr55 0 = [⟨1, 5, 0⟩] := by decide +kernel
set_option maxRecDepth 100000 in
set_option maxHeartbeats 1600000 in
theorem tracked_any {a : Nat → Addr} (hE : EventsOK a) (w : World) (hS : Sents w a) : Calls Tryd.prog 5 #[] w fun e w' => e = .returned (.bool true) ∧ Below w.heap.size w w' := by
  have hc := hE (.agg #[.int .i64 0, .int .i64 10, .slice (some ⟨w.heap.size, 0, none⟩) 2 2]) tr55 0 (w.alloc (.cells #[.int .i64 (-5), .int .i64 5] 3)) (hS.below (below_a w _) (Nat.le_refl _)) (by
    refine ⟨some ⟨w.heap.size, 0, none⟩, 2, rfl, ⟨fun k hk => ⟨w.heap.size, 0, rfl, by simp, ?_⟩⟩⟩
    have hk2 : k < 2 := hk
    rw [Nat.zero_add, (cells_at (alloc_last w _) k (by simp; omega)).1]
    rcases (show k = 0 ∨ k = 1 by omega) with rfl | rfl <;> rfl) (by decide)
  rw [ev55.1, ev55.2] at hc
  clear hE hS
  go_enter Tryd.func5, Tryd.ntmps5
  go_wp2_with fail
  refine hc.mono ?_
  rintro e w1 ⟨u, x, L, ad, cap, rfl, hx, hL, _, rfl, hcm, hb⟩
  obtain rfl := hL trivial
  obtain rfl : x = .nilIface := by
    rcases hx with ⟨_, h⟩ | ⟨k, _, h, _⟩
    · exact h
    · omega
  obtain ⟨b, off, rfl, _, hat⟩ := hcm.at_ 0 (by decide)
  have c0 : w1.cell? ⟨b, off, none⟩ = some (.int .i64 1) := hat.c0
  have c1 : w1.cell? ⟨b, off + 1, none⟩ = some (.int .i64 5) := hat.c1
  have HW := hideR (below_go (below_a _ _) hb)
  clear hat hcm hL hx hb hc
  go_wp2
  go_ret
  exact ⟨rfl, unhideR HW⟩
/-- a track that came in, or none. -/
inductive TrArg (w : World) : Value → Option Tr → Prop where
  | none : TrArg w (.pointer Option.none) Option.none
  | some {b off cap : Nat} {ad : Option Addr} {t : Tr} : TrP w b off ad cap t → t.L.length * 8 ≤ 140737488355328 → (ad = Option.none → cap = 0 ∧ t.L = []) → TrArg w (.pointer (Option.some ⟨b, off, Option.none⟩)) (Option.some t)
end Go.Proofs.YtlhjmmcimhceeahDoor
