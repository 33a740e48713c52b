/-
  The document's reader of runes: its state, and its small calls by their contracts.
-/
import Derived.Test.YtfifbcoedfdnjabDoorRunes
import Derived.BigQuiet
import Derived.Deep.QuietTactic
namespace Go.Proofs.YtfifbcoedfdnjabDoor
open Go.RowKit Go.Lib

/-- A scan at g of the runes O: where it is, and where it was wrong. -/
structure Sc (g : Nat) (O : List Int) (a : Nat) (b : Int) (w : World) : Prop where
  row : ∃ (p : Option Addr) (cap : Nat), w.cell? ⟨g, 0, none⟩ = some (.slice p O.length cap) ∧ ∀ i, i < O.length → ∃ lb, p = some ⟨lb, 0, none⟩ ∧ lb < g ∧ w.cell? ⟨lb, i, none⟩ = some (.int .i64 (O.getD i 0))
  pos : w.cell? ⟨g, 1, none⟩ = some (.int .i64 a)
  bad : w.cell? ⟨g, 2, none⟩ = some (.int .i64 b)
  f1 : w.frozen? ⟨g, 1, none⟩ = false
  f2 : w.frozen? ⟨g, 2, none⟩ = false
  lt : g < w.heap.size
  small : a ≤ 1000000000
  long : O.length ≤ 1000000

theorem Sc.drew {g : Nat} {O : List Int} {a : Nat} {b : Int} {w : World} (h : Sc g O a b w) (n : Nat) : Sc g O a b (w.drewN n) := ⟨h.row, h.pos, h.bad, h.f1, h.f2, h.lt, h.small, h.long⟩

/-- What is seen. -/
def seeAt (O : List Int) (a : Nat) : Int := if a < O.length then O.getD a 0 else -2

theorem see_any (g : Nat) (O : List Int) (a : Nat) (b : Int) (w : World) (h : Sc g O a b w) :
    Calls Tryd.prog 38 #[.pointer (some ⟨g, 0, none⟩)] w fun e w' => e = .returned (.int .i64 (seeAt O a)) ∧ ∃ n, w' = w.drewN n := by
  obtain ⟨p, cap, c0, hrow⟩ := h.row
  have c1 := h.pos
  have long := h.long
  have small := h.small
  unfold seeAt
  by_cases hlt : a < O.length
  · rw [if_pos hlt]
    obtain ⟨lb, rfl, _, c2⟩ := hrow a hlt
    generalize O.getD a 0 = x at c2
    clear hrow h
    have hi : (a : Int) < (O.length : Int) := by omega
    go_enter Tryd.func38, Tryd.ntmps38
    go_wp2
    go_quiet (fail)
    go_wp2
    go_quiet (fail)
    go_wp2
    go_ret
    exact ⟨rfl, _, World.drewN_drewN _ _ _⟩
  · rw [if_neg hlt]
    clear hrow h
    have hi : ¬ (a : Int) < (O.length : Int) := by omega
    go_enter Tryd.func38, Tryd.ntmps38
    go_wp2
    go_quiet (fail)
    go_wp2
    go_ret
    exact ⟨rfl, _, rfl⟩

theorem Sc.at1 {g : Nat} {O : List Int} {a a' : Nat} {b z : Int} {w : World} (h : Sc g O a b w) (hz : z = a') (ha : a' ≤ 1000000000) : Sc g O a' b (w.setCell ⟨g, 1, none⟩ (.int .i64 z)) ∧ Below g w (w.setCell ⟨g, 1, none⟩ (.int .i64 z)) := by
  subst hz
  obtain ⟨p, cap, c0, hrow⟩ := h.row
  refine ⟨⟨⟨p, cap, ?_, fun i hi => ?_⟩, World.cell?_setCell_same _ _ _ h.pos, ?_, ?_, ?_, ?_, ha, h.long⟩, (Below.refl g w).setCell (Nat.le_refl _) _⟩
  · rw [World.cell?_setCell_other _ _ _ _ (by simp)]; exact c0
  · obtain ⟨lb, e, l, c⟩ := hrow i hi
    refine ⟨lb, e, l, ?_⟩
    rw [World.cell?_setCell_other _ _ _ _ (by intro e; injection e with e1; omega)]; exact c
  · rw [World.cell?_setCell_other _ _ _ _ (by simp)]; exact h.bad
  · rw [World.frozen?_setCell]; exact h.f1
  · rw [World.frozen?_setCell]; exact h.f2
  · rw [World.size_setCell]; exact h.lt
theorem Sc.bad2 {g : Nat} {O : List Int} {a : Nat} {b b' : Int} {w : World} (h : Sc g O a b w) : Sc g O a b' (w.setCell ⟨g, 2, none⟩ (.int .i64 b')) ∧ Below g w (w.setCell ⟨g, 2, none⟩ (.int .i64 b')) := by
  obtain ⟨p, cap, c0, hrow⟩ := h.row
  refine ⟨⟨⟨p, cap, ?_, fun i hi => ?_⟩, ?_, World.cell?_setCell_same _ _ _ h.bad, ?_, ?_, ?_, h.small, h.long⟩, (Below.refl g w).setCell (Nat.le_refl _) _⟩
  · rw [World.cell?_setCell_other _ _ _ _ (by simp)]; exact c0
  · obtain ⟨lb, e, l, c⟩ := hrow i hi
    refine ⟨lb, e, l, ?_⟩
    rw [World.cell?_setCell_other _ _ _ _ (by intro e; injection e with e1; omega)]; exact c
  · rw [World.cell?_setCell_other _ _ _ _ (by simp)]; exact h.pos
  · rw [World.frozen?_setCell]; exact h.f1
  · rw [World.frozen?_setCell]; exact h.f2
  · rw [World.size_setCell]; exact h.lt
theorem below_drew {B : Nat} {w v : World} (h : Below B w v) (n : Nat) : Below B w (v.drewN n) := ⟨h.os, h.tape, h.output, h.size, h.block⟩

/-- what is wrong first stays. -/
def firstBad (b : Int) (n : Nat) : Int := if b < 0 then n else b

theorem wrong_any (g : Nat) (O : List Int) (a n : Nat) (b z : Int) (w : World) (h : Sc g O a b w) (hz : z = n) :
    Calls Tryd.prog 42 #[.pointer (some ⟨g, 0, none⟩), .int .i64 z] w fun e w' => e = .returned (.tuple #[]) ∧ Sc g O a (firstBad b n) w' ∧ Below g w w' := by
  subst hz
  have c2 := h.bad
  have f2 := h.f2
  unfold firstBad
  by_cases hb : b < 0
  · rw [if_pos hb]
    have H := hide (h.bad2 (b' := (n : Int)))
    clear h
    go_enter Tryd.func42, Tryd.ntmps42
    go_wp2
    go_end0
    exact ⟨rfl, (unhide H).1, (unhide H).2⟩
  · rw [if_neg hb]
    have H := hide h
    clear h
    go_enter Tryd.func42, Tryd.ntmps42
    go_wp2
    go_end0
    exact ⟨rfl, unhide H, Below.refl _ _⟩

theorem needS_any (g : Nat) (O : List Int) (a : Nat) (b c : Int) (w : World) (h : Sc g O a b w) (ha : a < 1000000000) :
    Calls Tryd.prog 40 #[.pointer (some ⟨g, 0, none⟩), .int .i64 c] w fun e w' => e = .returned (.tuple #[]) ∧ Sc g O (a + 1) (if seeAt O a = c then b else firstBad b a) w' ∧ Below g w w' := by
  have H := hide h
  by_cases hc : seeAt O a = c
  · rw [if_pos hc]
    go_enter Tryd.func40, Tryd.ntmps40
    go_wp2_with fail
    refine (see_any g O a b _ h).mono ?_
    rintro e w1 ⟨rfl, n1, rfl⟩
    have c1 : (w.drewN n1).cell? ⟨g, 1, none⟩ = some (.int .i64 a) := h.pos
    have c1' := h.pos
    have f1 := h.f1
    have M := hide (((unhide H).drew n1).at1 (z := (a : Int) + 1) (a' := a + 1) (by omega) (by omega))
    clear h
    go_wp2
    go_end0
    exact ⟨rfl, (unhide M).1, (below_drew (Below.refl g w) n1).trans (unhide M).2⟩
  · rw [if_neg hc]
    go_enter Tryd.func40, Tryd.ntmps40
    go_wp2_with fail
    refine (see_any g O a b _ h).mono ?_
    rintro e w1 ⟨rfl, n1, rfl⟩
    have c1' := h.pos
    go_wp2_with fail
    refine (wrong_any g O a a b _ _ ((unhide H).drew n1) rfl).mono ?_
    rintro e w2 ⟨rfl, h2, hb2⟩
    have c2 := h2.pos
    have f2 := h2.f1
    have M := hide (h2.at1 (z := (a : Int) + 1) (a' := a + 1) (by omega) (by omega))
    clear h c1' h2
    go_wp2
    go_end0
    exact ⟨rfl, (unhide M).1, ((below_drew (Below.refl g w) n1).trans hb2).trans (unhide M).2⟩
end Go.Proofs.YtfifbcoedfdnjabDoor
