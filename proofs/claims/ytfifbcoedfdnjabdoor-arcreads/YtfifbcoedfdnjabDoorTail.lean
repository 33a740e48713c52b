/-
  The document's runes, byte by byte: tail by its contract.
-/
import Derived.Test.YtfifbcoedfdnjabDoorReader
namespace Go.Proofs.YtfifbcoedfdnjabDoor
open Go.RowKit Go.Lib

/-- The byte at a place. -/
def byt (s : ByteArray) (i : Nat) : Nat := (s.get! i).toNat
theorem byt_lt (s : ByteArray) (i : Nat) : byt s i < 256 := UInt8.toNat_lt _
theorem byt_get (s : ByteArray) (i : Nat) (h : i < s.size) : (s[i]'h).toNat = byt s i := by
  unfold byt
  rw [show s.get! i = s[i]'h from (by simp [ByteArray.get!, getElem!_pos, h]; rfl)]
/-- what a byte behind the first one adds; -1: it is none. -/
def tl (s : ByteArray) (i : Nat) : Int := if i < s.size ∧ 128 ≤ byt s i ∧ byt s i < 192 then (byt s i : Int) - 128 else -1

set_option maxRecDepth 100000 in
theorem tail_any (s : ByteArray) (i : Nat) (z : Int) (w : World) (hz : z = i) :
    Calls Tryd.prog 81 #[.string s, .int .i64 z] w fun e w' => e = .returned (.int .i64 (tl s i)) ∧ w' = w := by
  subst hz
  by_cases h : i < s.size
  · have hg := byt_get s i h
    have hb := byt_lt s i
    have hi : 0 ≤ (i : Int) ∧ (i : Int) < s.size := by omega
    go_enter Tryd.func81, Tryd.ntmps81
    go_wp2
    all_goals
      go_ret
      refine ⟨?_, rfl⟩
      unfold tl
      first
        | (rw [if_pos (by omega)]; rfl)
        | (rw [if_neg (by omega)]; rfl)
  · have hd : decide ((i : Int) < (s.size : Int)) = false := by simp; omega
    have ht : tl s i = -1 := by unfold tl; rw [if_neg (by omega)]
    rw [ht]
    go_enter Tryd.func81, Tryd.ntmps81
    go_wp2
    go_ret
    exact ⟨rfl, rfl⟩

/-- The rune at a place, by the document's answer: its number (-1: it is none) and how many bytes it has. -/
def runeR (s : ByteArray) (i : Nat) : Int × Int :=
  if (byt s i : Int) < 128 then ((byt s i : Int), 1)
  else if (byt s i : Int) < 194 ∨ 244 < (byt s i : Int) ∨ tl s (i + 1) < 0 then (-1, 1)
  else if (byt s i : Int) < 224 then (((byt s i : Int) - 192) * 64 + tl s (i + 1), 2)
  else if tl s (i + 2) < 0 then (-1, 1)
  else if (byt s i : Int) < 240 then
    (if ((byt s i : Int) - 224) * 4096 + tl s (i + 1) * 64 + tl s (i + 2) < 2048 ∨ 55296 ≤ ((byt s i : Int) - 224) * 4096 + tl s (i + 1) * 64 + tl s (i + 2) ∧ ((byt s i : Int) - 224) * 4096 + tl s (i + 1) * 64 + tl s (i + 2) < 57344 then (-1, 1)
     else (((byt s i : Int) - 224) * 4096 + tl s (i + 1) * 64 + tl s (i + 2), 3))
  else if tl s (i + 3) < 0 then (-1, 1)
  else if ((byt s i : Int) - 240) * 262144 + tl s (i + 1) * 4096 + tl s (i + 2) * 64 + tl s (i + 3) < 65536 ∨ 1114111 < ((byt s i : Int) - 240) * 262144 + tl s (i + 1) * 4096 + tl s (i + 2) * 64 + tl s (i + 3) then (-1, 1)
  else (((byt s i : Int) - 240) * 262144 + tl s (i + 1) * 4096 + tl s (i + 2) * 64 + tl s (i + 3), 4)

theorem tl_range (s : ByteArray) (i : Nat) : -1 ≤ tl s i ∧ tl s i ≤ 63 := by
  unfold tl; split <;> omega

set_option maxRecDepth 100000 in
set_option maxHeartbeats 4000000 in
theorem runeAt_any (s : ByteArray) (i : Nat) (w : World) (h : i < s.size) (hs : s.size ≤ 1000000000) :
    Calls Tryd.prog 58 #[.string s, .int .i64 i] w fun e w' => e = .returned (.tuple #[.int .i64 (runeR s i).1, .int .i64 (runeR s i).2]) ∧ w' = w := by
  have hg := byt_get s i h
  have hb := byt_lt s i
  have hi : 0 ≤ (i : Int) ∧ (i : Int) < s.size := by omega
  obtain ⟨a1, a2⟩ := tl_range s (i + 1)
  obtain ⟨b1, b2⟩ := tl_range s (i + 2)
  obtain ⟨d1, d2⟩ := tl_range s (i + 3)
  have T1 := hide (fun z w hz => tail_any s (i + 1) z w hz)
  have T2 := hide (fun z w hz => tail_any s (i + 2) z w hz)
  have T3 := hide (fun z w hz => tail_any s (i + 3) z w hz)
  generalize hR : runeR s i = R
  have HR := hide hR
  clear hR
  go_enter Tryd.func58, Tryd.ntmps58
  go_wp2_with (first
    | (go_at_call 81; refine (unhide T1 _ _ (by omega)).mono ?_; rintro e w' ⟨rfl, rfl⟩)
    | (go_at_call 81; refine (unhide T2 _ _ (by omega)).mono ?_; rintro e w' ⟨rfl, rfl⟩)
    | (go_at_call 81; refine (unhide T3 _ _ (by omega)).mono ?_; rintro e w' ⟨rfl, rfl⟩))
  all_goals
    go_ret2
    refine ⟨?_, rfl⟩
    rw [← unhide HR]
    unfold runeR
    repeat' split
    all_goals first
      | rfl
      | (exfalso; omega)
end Go.Proofs.YtfifbcoedfdnjabDoor
