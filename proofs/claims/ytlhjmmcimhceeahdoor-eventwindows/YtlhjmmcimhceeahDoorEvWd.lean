/-
  The law EventWindows: what the program's Windows must answer; numbers that came in.
-/
import Derived.Test.YtlhjmmcimhceeahDoorEvHl0
import Derived.Test.YtlhjmmcimhceeahDoorEvAb
import Derived.Test.YtlhjmmcimhceeahDoorEvSpP
namespace Go.Proofs.YtlhjmmcimhceeahDoor
open Go Go.RowKit

def WinOK (a : Nat → Addr) : Prop := ∀ (v : Value) (t : Tr) (lev : Int) (w : World), Sents w a → TrV w v t → t.L.length * 8 ≤ 140737488355328 →
  Calls Tryd.prog 8 #[v, .int .i64 lev] w fun e w' => ∃ (x : Value) (S : List Spn) (ad : Option Addr) (cap : Nat), e = .returned (.tuple #[.slice ad S.length cap, x]) ∧ ErrIs a (evE t lev) x ∧ (evE t lev ≠ 0 → S = []) ∧
    (evE t lev = 0 → riseV S ∧ S.length ≤ 20000 ∧ (∀ k, k < S.length → t.fr ≤ (S.getD k sp0).f ∧ (S.getD k sp0).t ≤ t.last + 1) ∧ ∀ y, t.fr ≤ y → y ≤ t.last → inV S y = aboveV t lev y) ∧ SpCame w' ad S ∧ Below w.heap.size w w'
theorem levelLarge_any' (n : Int) (w : World) : Calls Tryd.prog 6 #[.int .i64 n] w fun e w' => e = .returned (.bool (decide (1099511627776 < n ∨ n < -1099511627776))) ∧ w' = w := by
  by_cases h1 : 1099511627776 < n
  · rw [decide_eq_true (.inl h1)]
    go_enter Tryd.func6, Tryd.ntmps6
    go_wp2
    go_ret
    exact ⟨rfl, rfl⟩
  · by_cases h2 : n < -1099511627776
    · rw [decide_eq_true (.inr h2)]
      go_enter Tryd.func6, Tryd.ntmps6
      go_wp2
      go_ret
      exact ⟨rfl, rfl⟩
    · rw [decide_eq_false (by omega)]
      go_enter Tryd.func6, Tryd.ntmps6
      go_wp2
      go_ret
      exact ⟨rfl, rfl⟩
/-- whole numbers that came in, or none. -/
def IntArg (w : World) (ad : Option Addr) (cap : Nat) (L : List Int) : Prop := (ad = none ∧ cap = 0 ∧ L = []) ∨ ∃ a0, ad = some a0 ∧ ICame w (some a0) L
theorem IntArg.below {w u : World} {ad : Option Addr} {cap : Nat} {L : List Int} (h : IntArg w ad cap L) (k : Below w.heap.size w u) : IntArg u ad cap L := by
  rcases h with h | ⟨a0, e, h⟩
  · exact .inl h
  · exact .inr ⟨a0, e, h.below k⟩
/-- whole numbers that came in are put behind none. -/
theorem append_arg {w : World} {ops : Array Oper} {rest : List Oper} {o : Oper} {a : Act} {Q : Exit → Act → World → Prop} (hgd : o.guard = none) (s x : Operand)
    (ho : o.op = .call { callee := .builtin .append, args := #[s, x], argTypes := #[23, 23] }) (hs : a.eval s = .slice none 0 0) (adl : Option Addr) (capl : Nat) (Ll : List Int) (hx : a.eval x = .slice adl Ll.length capl)
    (hI : IntArg w adl capl Ll) (hl : Ll.length ≤ 100) (h : ∀ v' w', HeldR (w'.ownsRow w.heap.size 3 1 v' Ll.length (Ll.map (Value.int .i64))) → HeldR (Below w.heap.size w w') → wpList Tryd.prog ops Q rest (a.put o.dst v') w') : wpList Tryd.prog ops Q (o :: rest) a w := by
  obtain ⟨i0, hi, hz0, hz1, hz2⟩ := info_parts infoI
  rcases hI with ⟨rfl, rfl, rfl⟩ | ⟨a0, rfl, hic⟩
  · exact wpList_append_own_none hgd s x 23 ho w.heap.size 3 i0 1 Tryd.underlying23 hi (.slice none 0 0) 0 [] hs (World.ownsRow_nil _ _ _ _) hx (h _ _ (World.ownsRow_nil _ _ _ _) (Below.refl _ _))
  · refine wpList_append_own _ hgd s x 23 ho w.heap.size 3 i0 (.int .i64 0) 1 8 Tryd.underlying23 hi hz0 hz1 hz2 rfl (by decide) (.slice none 0 0) 0 [] hs (World.ownsRow_nil _ _ _ _) a0 Ll.length capl (Ll.map (Value.int .i64)) hx (by simp) (int_cells hic) ?_ ?_ ?_ (Nat.le_refl _) ?_
    · intro u hu
      obtain ⟨y, _, rfl⟩ := List.mem_map.1 hu
      rfl
    · unfold maxLen; omega
    · omega
    · intro v3 w3 hown hgrow _
      refine h v3 w3 ?_ ((Below.refl w.heap.size w).grown hgrow (Nat.le_refl _) (fun g h => by cases h))
      unfold HeldR
      simpa using hown
def OneI (x : Int) (v : Value) (w : World) : Prop := ∀ b, v = .slice (some ⟨b, 0, none⟩) 1 1 → w.heap[b]? = some (.cells #[.int .i64 x] 3)
theorem oneI_stb (x : Int) (v : Value) : Stb (OneI x v) := fun _ _ h hb b e => keepB (h b e) hb
end Go.Proofs.YtlhjmmcimhceeahDoor
