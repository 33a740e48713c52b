/-
  The law MountHears: what a program's sender must do, as contracts; a command that comes again.
-/
import Derived.Test.YteoappoijihomahDoorMtC
namespace Go.Proofs.YteoappoijihomahDoor
open Go Go.RowKit

theorem do_keeps (m : Mt) (c : Cmd) : (doV m c).1.taken = m.taken ∧ (doV m c).1.num = m.num := by
  unfold doV
  repeat' split
  all_goals exact ⟨rfl, rfl⟩
theorem take_fresh {m : Mt} {c : Cmd} (h : m.taken = true → m.num < c.num) : (takeV m c).1.taken = true ∧ (takeV m c).1.num = c.num ∧ (takeV m c).1.code = (takeV m c).2 := by
  unfold takeV
  rw [if_neg (fun k => by have := h k.1; omega), if_neg (fun k => by have := h k.1; omega)]
  obtain ⟨h1, h2⟩ := do_keeps { m with taken := true, num := c.num, quiet := 0 } c
  exact ⟨h1, h2, rfl⟩
theorem take_again {m : Mt} {c : Cmd} (h1 : m.taken = true) (h2 : m.num = c.num) : takeV m c = (m, m.code) := by
  unfold takeV
  rw [if_pos ⟨h1, h2.symm⟩]
theorem move_keeps (m : Mt) : (moveV m).taken = m.taken ∧ (moveV m).num = m.num := by
  unfold moveV
  repeat' split
  all_goals exact ⟨rfl, rfl⟩
theorem tick_keeps (m : Mt) : (tickV m).taken = m.taken ∧ (tickV m).num = m.num := move_keeps m
/-- whole numbers that came in. -/
structure ICame (w : World) (ad : Option Addr) (L : List Int) : Prop where
  at_ : ∀ k, k < L.length → ∃ b off, ad = some ⟨b, off, none⟩ ∧ b < w.heap.size ∧ w.cell? ⟨b, off + k, none⟩ = some (.int .i64 (L.getD k 0))
theorem ICame.below {w v : World} {ad : Option Addr} {L : List Int} (h : ICame w ad L) (k : Below w.heap.size w v) : ICame v ad L := ⟨fun j hj => by
  obtain ⟨b, off, e, hb, h1⟩ := h.at_ j hj
  exact ⟨b, off, e, Nat.lt_of_lt_of_le hb k.size, (k.cell (p := ⟨b, off + j, none⟩) hb).trans h1⟩⟩
structure BCame (w : World) (ad : Option Addr) (L : List Bool) : Prop where
  at_ : ∀ k, k < L.length → ∃ b off, ad = some ⟨b, off, none⟩ ∧ b < w.heap.size ∧ w.cell? ⟨b, off + k, none⟩ = some (.bool (L.getD k false))
theorem BCame.below {w v : World} {ad : Option Addr} {L : List Bool} (h : BCame w ad L) (k : Below w.heap.size w v) : BCame v ad L := ⟨fun j hj => by
  obtain ⟨b, off, e, hb, h1⟩ := h.at_ j hj
  exact ⟨b, off, e, Nat.lt_of_lt_of_le hb k.size, (k.cell (p := ⟨b, off + j, none⟩) hb).trans h1⟩⟩
/-- a sender: its last command, and whether a reply to it is waited for. -/
structure Snd where
  last : CmdS
  waits : Bool
/-- a program's sender: one block, whatever lies in it. -/
structure SnProg (RepS : World → Nat → Snd → Prop) : Prop where
  low : ∀ {w : World} {g : Nat} {s : Snd}, RepS w g s → g < w.heap.size
  keep : ∀ {w v : World} {g b : Nat} {s : Snd}, RepS w g s → Chg b w v → g ≠ b → RepS v g s
  new : ∀ (w : World), Calls Tryd.prog 37 #[] w fun e w' => ∃ (g : Nat) (s : Snd), e = .returned (.pointer (some ⟨g, 0, none⟩)) ∧ w.heap.size ≤ g ∧ RepS w' g s ∧ s.last.num = 0 ∧ s.waits = false ∧ Below w.heap.size w w'
  ask : ∀ {w : World} {g : Nat} {s : Snd} (k : ByteArray) (x y : Int), RepS w g s → 0 ≤ s.last.num → s.last.num ≤ 1000000 → Calls Tryd.prog 39 #[.pointer (some ⟨g, 0, none⟩), .string k, .int .i64 x, .int .i64 y] w fun e w' =>
    e = .returned (.agg #[.int .i64 (s.last.num + 1), .string k, .int .i64 x, .int .i64 y]) ∧ RepS w' g ⟨⟨s.last.num + 1, k, x, y⟩, true⟩ ∧ Chg g w w'
  again : ∀ {w : World} {g : Nat} {s : Snd}, RepS w g s → Calls Tryd.prog 38 #[.pointer (some ⟨g, 0, none⟩)] w fun e w' => ∃ c : CmdS, e = .returned (.tuple #[.agg #[.int .i64 c.num, .string c.s, .int .i64 c.a, .int .i64 c.b], .bool s.waits]) ∧ (s.waits = true → c = s.last) ∧ Below w.heap.size w w'
  hear : ∀ {w : World} {g : Nat} {s : Snd} (n p q st : Int) (er : Value), er.oneCell' = true → RepS w g s → Calls Tryd.prog 40 #[.pointer (some ⟨g, 0, none⟩), .agg #[.int .i64 n, er, .int .i64 p, .int .i64 q, .int .i64 st]] w fun e w' =>
    e = .returned (.bool (s.waits && (n == s.last.num))) ∧ RepS w' g ⟨s.last, s.waits && !(n == s.last.num)⟩ ∧ Chg g w w'
theorem SnProg.go {RepS : World → Nat → Snd → Prop} (h : SnProg RepS) {w v : World} {g : Nat} {s : Snd} (hR : RepS w g s) (k : Below w.heap.size w v) : RepS v g s :=
  h.keep (b := w.heap.size) hR (Chg.of k) (Nat.ne_of_lt (h.low hR))
end Go.Proofs.YteoappoijihomahDoor
