/-
  The law EventHeights: its walk, out of the program's Events, At, Valid by their contracts.
-/
import Derived.Test.YtlhjmmcimhceeagDoorEvTk
import Derived.Test.YtlhjmmcimhceeagDoorEvHt
import Derived.Test.YtlhjmmcimhceeagDoorEvPut
import Derived.Test.YtlhjmmcimhceeagDoorCodK
namespace Go.Proofs.YtlhjmmcimhceeagDoor
open Go Go.RowKit

def evE (t : Tr) (lev : Int) : Int := if trE t ≠ 0 then trE t else if 1099511627776 < lev ∨ lev < -1099511627776 then 5 else 0
def EventsOK (a : Nat → Addr) : Prop := ∀ (v : Value) (t : Tr) (lev : Int) (w : World), Sents w a → TrV w v t → t.L.length * 8 ≤ 140737488355328 →
  Calls Tryd.prog 31 #[v, .int .i64 lev] w fun e w' => ∃ (u x : Value) (L : List Evt) (ad : Option Addr) (cap : Nat), e = .returned (.tuple #[u, x]) ∧ ErrIs a (evE t lev) x ∧ (evE t lev = 0 → L = eventsV t lev) ∧ (evE t lev ≠ 0 → L = []) ∧ u = .slice ad L.length cap ∧ EvCame w' ad L ∧ Below w.heap.size w w'
def AtOK (a : Nat → Addr) : Prop := ∀ (v : Value) (t : Tr) (x : Int) (w : World), Sents w a → TrV w v t → t.L.length * 8 ≤ 140737488355328 →
  Calls Tryd.prog 27 #[v, .int .i64 x] w fun e w' => ∃ y : Value, e = .returned (.tuple #[.int .i64 (htV t x), y]) ∧ ErrIs a (htE t x) y ∧ Below w.heap.size w w'
def TrValidOK (a : Nat → Addr) : Prop := ∀ (v : Value) (t : Tr) (w : World), Sents w a → TrV w v t → t.L.length * 8 ≤ 140737488355328 →
  Calls Tryd.prog 29 #[v] w fun e w' => ∃ y : Value, e = .returned y ∧ ErrIs a (trE t) y ∧ Below w.heap.size w w'
def tr55 : Tr := ⟨0, 10, [-5, 5]⟩
theorem ev55 : evE tr55 0 = 0 ∧ eventsV tr55 0 = [⟨1, 5, 0⟩] := by decide +kernel
set_option maxRecDepth 100000 in
set_option maxHeartbeats 1600000 in
theorem tracked_any {a : Nat → Addr} (hE : EventsOK a) (w : World) (hS : Sents w a) : Calls Tryd.prog 25 #[] w fun e w' => e = .returned (.bool true) ∧ Below w.heap.size w w' := by
  have hc := hE (.agg #[.int .i64 0, .int .i64 10, .slice (some ⟨w.heap.size, 0, none⟩) 2 2]) tr55 0 (w.alloc (.cells #[.int .i64 (-5), .int .i64 5] 3)) (hS.below (below_a w _) (Nat.le_refl _)) (by
    refine ⟨some ⟨w.heap.size, 0, none⟩, 2, rfl, ⟨fun k hk => ⟨w.heap.size, 0, rfl, by simp, ?_⟩⟩⟩
    have hk2 : k < 2 := hk
    rw [Nat.zero_add, (cells_at (alloc_last w _) k (by simp; omega)).1]
    rcases (show k = 0 ∨ k = 1 by omega) with rfl | rfl <;> rfl) (by decide)
  rw [ev55.1, ev55.2] at hc
  clear hE hS
  go_enter Tryd.func25, Tryd.ntmps25
  go_wp2_with fail
  refine hc.mono ?_
  rintro e w1 ⟨u, x, L, ad, cap, rfl, hx, hL, _, rfl, hcm, hb⟩
  obtain rfl := hL trivial
  obtain rfl : x = .nilIface := by
    rcases hx with ⟨_, h⟩ | ⟨k, _, h, _⟩
    · exact h
    · omega
  obtain ⟨b, off, rfl, _, hat⟩ := hcm.at_ 0 (by decide)
  have c0 : w1.cell? ⟨b, off, none⟩ = some (.int .i64 1) := hat.c0
  have c1 : w1.cell? ⟨b, off + 1, none⟩ = some (.int .i64 5) := hat.c1
  have HW := hideR (below_go (below_a _ _) hb)
  clear hat hcm hL hx hb hc
  go_wp2
  go_ret
  exact ⟨rfl, unhideR HW⟩
/-- a track that came in, or none. -/
inductive TrArg (w : World) : Value → Option Tr → Prop where
  | none : TrArg w (.pointer Option.none) Option.none
  | some {b off cap : Nat} {ad : Option Addr} {t : Tr} : TrP w b off ad cap t → t.L.length * 8 ≤ 140737488355328 → (ad = Option.none → cap = 0 ∧ t.L = []) → TrArg w (.pointer (Option.some ⟨b, off, Option.none⟩)) (Option.some t)
set_option maxRecDepth 100000 in
set_option maxHeartbeats 1600000 in
theorem heights_walk {a : Nat → Addr} (hE : EventsOK a) (hA : AtOK a) (hV : TrValidOK a) {v : Value} {o : Option Tr} (x : Int) (w : World) (hS : Sents w a) (h : TrArg w v o) :
    Calls Tryd.prog 7 #[v, .int .i64 x] w fun e w' => e = .returned (.bool true) ∧ Below w.heap.size w w' := by
  have htr := tracked_any hE w hS
  have HS := hideR hS
  clear hS hE
  cases h with
  | none =>
    go_enter Tryd.func7, Tryd.ntmps7
    go_wp2_with fail
    refine htr.mono ?_
    rintro e w1 ⟨rfl, k1⟩
    have HW := hideR k1
    clear k1 htr
    go_wp2
    go_ret
    exact ⟨rfl, unhideR HW⟩
  | @some b off cap ad t hT hl hn =>
    have HT := hideR hT
    by_cases hbig : 4002 < t.L.length
    · go_enter Tryd.func7, Tryd.ntmps7
      go_wp2_with fail
      refine htr.mono ?_
      rintro e w1 ⟨rfl, k1⟩
      obtain ⟨_, c0, c1, c2, _⟩ := hT.below k1
      have HW := hideR k1
      clear k1 htr hT
      go_wp2
      go_ret
      exact ⟨rfl, unhideR HW⟩
    · go_enter Tryd.func7, Tryd.ntmps7
      go_wp2_with fail
      refine htr.mono ?_
      rintro e w1 ⟨rfl, k1⟩
      obtain ⟨_, c0, c1, c2, _⟩ := hT.below k1
      have HW := hideR k1
      have hk := track_any ((unhideR HT).below k1) hl hn
      clear k1 htr hT
      go_wp2_with fail
      refine hk.mono ?_
      rintro e w2 ⟨tv, rfl, hv, k2⟩
      replace HW := hideR (below_go (unhideR HW) k2)
      have hat := hA tv t x w2 ((unhideR HS).below (unhideR HW) (Nat.le_refl _)) hv hl
      clear hk k2 hv c0 c1 c2
      go_wp2_with fail
      refine hat.mono ?_
      rintro e w3 ⟨y, rfl, hy, k3⟩
      have HY := hideR hy
      replace HW := hideR (below_go (unhideR HW) k3)
      have hha := heightAt_any ((unhideR HT).below (unhideR HW)) (by omega) x
      clear hy k3 hat
      go_wp2_with fail
      refine hha.mono ?_
      rintro e w4 ⟨rfl, k4⟩
      replace HW := hideR (below_go (unhideR HW) k4)
      have hco := coded_err ((unhideR HS).below (unhideR HW) (Nat.le_refl _)) (unhideR HY)
      generalize htV t x = hv at *
      generalize htE t x = he at *
      clear k4 hha
      go_wp2_with fail
      refine hco.mono ?_
      rintro e w5 ⟨rfl, k5⟩
      replace HW := hideR (below_go (unhideR HW) k5)
      have hk := track_any ((unhideR HT).below (unhideR HW)) hl hn
      clear k5 hco
      go_wp2_with fail
      refine hk.mono ?_
      rintro e w6 ⟨tv2, rfl, hv2, k6⟩
      replace HW := hideR (below_go (unhideR HW) k6)
      have hva := hV tv2 t w6 ((unhideR HS).below (unhideR HW) (Nat.le_refl _)) hv2 hl
      clear hk k6 hv2
      go_wp2_with fail
      refine hva.mono ?_
      rintro e w7 ⟨y2, rfl, hy2, k7⟩
      have HY2 := hideR hy2
      replace HW := hideR (below_go (unhideR HW) k7)
      have hte := trackError_any ((unhideR HT).below (unhideR HW)) (by omega)
      clear hy2 k7 hva
      go_wp2_with fail
      refine hte.mono ?_
      rintro e w8 ⟨rfl, rfl⟩
      have hco := coded_err ((unhideR HS).below (unhideR HW) (Nat.le_refl _)) (unhideR HY2)
      generalize trE t = te at *
      clear hte
      go_wp2_with fail
      refine hco.mono ?_
      rintro e w9 ⟨rfl, k9⟩
      replace HW := hideR (below_go (unhideR HW) k9)
      clear k9 hco
      go_wp2
      go_ret
      exact ⟨by simp, unhideR HW⟩
end Go.Proofs.YtlhjmmcimhceeagDoor
