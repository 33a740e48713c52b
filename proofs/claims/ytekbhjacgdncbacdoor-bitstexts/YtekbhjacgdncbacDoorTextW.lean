/-
  The text of a number's bits: the program's and the document's, by their contracts.
-/
import Derived.Test.YtekbhjacgdncbacDoorHex
import Derived.Test.YtekbhjacgdncbacDoorSame1
import Derived.Test.YtekbhjacgdncbacDoorRowW
import Derived.WalkSmall
import Derived.OwnWalk
import Derived.Laws.BytesString
namespace Go.Proofs.YtekbhjacgdncbacDoor
open Go Go.RowKit

def HeldT (p : Prop) : Prop := p
theorem hideT {p : Prop} (h : p) : HeldT p := h
theorem unhideT {p : Prop} (h : HeldT p) : p := h
def textN (x : Nat) : Nat := if nanB x then 9221120237041090560 else x

theorem isNaN_any (x : Nat) (w : World) : Calls Tryd.prog 12 #[.float .f64 x] w fun e w' => e = .returned (.bool (nanB x)) ∧ w' = w := by
  have h := order_self x
  go_enter Tryd.func12, Tryd.ntmps12
  go_wp2
  go_ret
  exact ⟨rfl, rfl⟩

def zero16 : Array Value := #[.int .u8 0, .int .u8 0, .int .u8 0, .int .u8 0, .int .u8 0, .int .u8 0, .int .u8 0, .int .u8 0, .int .u8 0, .int .u8 0, .int .u8 0, .int .u8 0, .int .u8 0, .int .u8 0, .int .u8 0, .int .u8 0]
/-- the digits that are laid already. -/
def laidTo (n k : Nat) (j : Nat) : Value := if j < k then .int .u8 ((hexC (n / 16 ^ (15 - j) % 16)).toNat : Int) else .int .u8 0
theorem laidTo_start (n j : Nat) (h : j < 16) : zero16.getD j undef = laidTo n 0 j := by
  unfold laidTo
  rw [if_neg (by omega)]
  have hj : j = 0 ∨ j = 1 ∨ j = 2 ∨ j = 3 ∨ j = 4 ∨ j = 5 ∨ j = 6 ∨ j = 7 ∨ j = 8 ∨ j = 9 ∨ j = 10 ∨ j = 11 ∨ j = 12 ∨ j = 13 ∨ j = 14 ∨ j = 15 := by omega
  rcases hj with rfl | rfl | rfl | rfl | rfl | rfl | rfl | rfl | rfl | rfl | rfl | rfl | rfl | rfl | rfl | rfl <;> rfl
theorem laidTo_step (n k j : Nat) : updA (laidTo n k) k (.int .u8 ((hexC (n / 16 ^ (15 - k) % 16)).toNat : Int)) j = laidTo n (k + 1) j := by
  unfold updA laidTo
  by_cases h : j = k
  · subst h; simp
  · rw [if_neg h]
    by_cases h2 : j < k
    · rw [if_pos h2, if_pos (by omega)]
    · rw [if_neg h2, if_neg (by omega)]
theorem top_digit (n k : Nat) (h : k < 16) : n * 16 ^ k % 18446744073709551616 / 1152921504606846976 = n / 16 ^ (15 - k) % 16 := by
  have e1 : (18446744073709551616 : Nat) = 1152921504606846976 * 16 := by decide
  have e2 : (1152921504606846976 : Nat) = 16 ^ k * 16 ^ (15 - k) := by
    rw [← Nat.pow_add, show k + (15 - k) = 15 by omega]
  rw [e1, Nat.mod_mul_right_div_self, e2, ← Nat.div_div_eq_div_mul, Nat.mul_div_cancel _ (Nat.pow_pos (by decide))]
theorem next_left (n k : Nat) : n * 16 ^ k % 18446744073709551616 * 16 % 18446744073709551616 = n * 16 ^ (k + 1) % 18446744073709551616 := by
  rw [Nat.pow_succ, ← Nat.mul_assoc]
  omega
theorem digit_get (d : Nat) (h : d < (ByteArray.mk #[48, 49, 50, 51, 52, 53, 54, 55, 56, 57, 97, 98, 99, 100, 101, 102]).size) : (ByteArray.mk #[48, 49, 50, 51, 52, 53, 54, 55, 56, 57, 97, 98, 99, 100, 101, 102])[d]'h = hexC d := by
  have all : ∀ j : Fin 16, (ByteArray.mk #[48, 49, 50, 51, 52, 53, 54, 55, 56, 57, 97, 98, 99, 100, 101, 102])[j.val]'j.isLt = hexC j.val := by decide
  exact all ⟨d, h⟩
theorem foldl_push : ∀ (l : List UInt8) (r : ByteArray), (l.map fun b => (b.toNat : Int)).foldl (fun r n => r.push (UInt8.ofNat n.toNat)) r = ⟨r.data ++ l.toArray⟩
  | [], r => by simp
  | b :: l, r => by
    rw [List.map_cons, List.foldl_cons, foldl_push l]
    simp [ByteArray.push]
theorem bytes_hex (n : Nat) {w : World} {g : Nat} (r : RowIs w g 16 (laidTo n 16)) : (convert 40 9 (.slice (some ⟨g, 0, none⟩) 16 16)).run Tryd.prog w = .ok (.string (hexS n)) w := by
  rw [run_convert_bytes_string w 40 9 5 _ _ _ Tryd.underlying40 Tryd.underlying5 Tryd.underlying9]
  have h := run_loadCells_list (P := Tryd.prog) (w := w) ⟨g, 0, none⟩ (((hexL n 16).map fun b => (b.toNat : Int)).map (Value.int .u8)) (fun j v hj => by
    have hlen : j < 16 := by
      have := (List.getElem?_eq_some_iff.1 hj).1
      simpa [hexL_len] using this
    have e : (⟨g, 0, none⟩ : Addr).add j = ⟨g, j, none⟩ := by
      simp [Addr.add]
      omega
    rw [e, r.cell j hlen]
    unfold laidTo
    rw [if_pos hlen]
    rw [List.getElem?_map, List.getElem?_map, hexL_at n 16 j hlen] at hj
    simpa using hj)
  have hl : (((hexL n 16).map fun b => (b.toNat : Int)).map (Value.int .u8)).length = 16 := by simp [hexL_len]
  rw [hl] at h
  rw [run_bytesToString w ⟨g, 0, none⟩ 16 16 ((hexL n 16).map fun b => (b.toNat : Int)) h, foldl_push]
  simp [hexS, ByteArray.empty, ByteArray.emptyWithCapacity]
  rfl
set_option maxHeartbeats 1000000 in
theorem text_any (x : Nat) (w : World) (hx : x < 18446744073709551616) :
    Calls Tryd.prog 4 #[.float .f64 x] w fun e w' => e = .returned (.string (hexS (textN x))) ∧ Below w.heap.size w w' := by
  have hb := run_tobits
  have hn := fun v => isNaN_any x v
  unfold textN
  cases h : nanB x with
  | false =>
    rw [h] at hn
    simp only [Bool.false_eq_true, if_false]
    have R0 : HeldT (RowIs (w.alloc (.cells zero16 38)) w.heap.size 16 (laidTo x 0)) := (RowIs.new (n := 16) (by decide)).congr (laidTo_start x)
    have B0 : HeldT (Below w.heap.size w (w.alloc (.cells zero16 38))) := (Below.refl w.heap.size w).alloc (Nat.le_refl _) _
    unfold zero16 at R0 B0
    go_enter Tryd.func4, Tryd.ntmps4
    go_wp2_with (first
      | (go_at_call 12; refine (hn _).mono ?_; rintro e w1 ⟨rfl, rfl⟩))
    go_loopw [3, 10] (fun l i wl => ∃ k : Nat, k ≤ 16 ∧ l = .int .u64 ((x * 16 ^ k % 18446744073709551616 : Nat) : Int) ∧ i = .int .i64 k ∧ HeldT (RowIs wl w1.heap.size 16 (laidTo x k)) ∧ HeldT (Below w1.heap.size w1 wl)) (fun _ i _ => 16 - (intOf i).toNat)
    case atStart => exact ⟨0, by omega, by simp; omega, rfl, R0, B0⟩
    case round =>
      obtain ⟨k, hk, rfl, rfl, HR, HB⟩ := hrel
      by_cases hlt : k < 16
      · have hd := top_digit x k hlt
        have hl := next_left x k
        have hc := (unhideT HR).cell k hlt
        have hf := (unhideT HR).free k hlt
        generalize hy : x * 16 ^ k % 18446744073709551616 = y at *
        have hyl : y < 18446744073709551616 := by omega
        have HD := hideT hd
        have HL := hideT hl
        clear hd hl
        go_wp2
        refine ⟨⟨k + 1, by omega, ?_, by go_num, ?_, ?_⟩, by simp [intOf]; omega⟩
        · rw [IntKind.wrap_u64]
          have := unhideT HL
          congr 1
          omega
        · rw [digit_get, unhideT HD]
          exact ((unhideT HR).set hlt _).congr fun j _ => laidTo_step x k j
        · exact (unhideT HB).setCell (Nat.le_refl _) _
      · generalize x * 16 ^ k % 18446744073709551616 = y at *
        obtain rfl : k = 16 := by omega
        have hv := bytes_hex x (unhideT HR)
        go_wp2
        go_ret
        exact ⟨rfl, unhideT HB⟩
  | true =>
    rw [h] at hn
    simp only [if_true]
    obtain ⟨m, hm⟩ : ∃ m : Nat, m = 9221120237041090560 := ⟨_, rfl⟩
    rw [← hm]
    have HM := hideT hm
    clear hm
    have R0 : HeldT (RowIs (w.alloc (.cells zero16 38)) w.heap.size 16 (laidTo m 0)) := (RowIs.new (n := 16) (by decide)).congr (laidTo_start m)
    have B0 : HeldT (Below w.heap.size w (w.alloc (.cells zero16 38))) := (Below.refl w.heap.size w).alloc (Nat.le_refl _) _
    unfold zero16 at R0 B0
    go_enter Tryd.func4, Tryd.ntmps4
    go_wp2_with (first
      | (go_at_call 12; refine (hn _).mono ?_; rintro e w1 ⟨rfl, rfl⟩))
    go_loopw [3, 10] (fun l i wl => ∃ k : Nat, k ≤ 16 ∧ l = .int .u64 ((m * 16 ^ k % 18446744073709551616 : Nat) : Int) ∧ i = .int .i64 k ∧ HeldT (RowIs wl w1.heap.size 16 (laidTo m k)) ∧ HeldT (Below w1.heap.size w1 wl)) (fun _ i _ => 16 - (intOf i).toNat)
    case atStart => exact ⟨0, by omega, by rw [unhideT HM]; rfl, rfl, R0, B0⟩
    case round =>
      obtain ⟨k, hk, rfl, rfl, HR, HB⟩ := hrel
      by_cases hlt : k < 16
      · have hd := top_digit m k hlt
        have hl := next_left m k
        have hc := (unhideT HR).cell k hlt
        have hf := (unhideT HR).free k hlt
        generalize hy : m * 16 ^ k % 18446744073709551616 = y at *
        have hyl : y < 18446744073709551616 := by omega
        have HD := hideT hd
        have HL := hideT hl
        clear hd hl
        go_wp2
        refine ⟨⟨k + 1, by omega, ?_, by go_num, ?_, ?_⟩, by simp [intOf]; omega⟩
        · rw [IntKind.wrap_u64]
          have := unhideT HL
          congr 1
          omega
        · rw [digit_get, unhideT HD]
          exact ((unhideT HR).set hlt _).congr fun j _ => laidTo_step m k j
        · exact (unhideT HB).setCell (Nat.le_refl _) _
      · generalize m * 16 ^ k % 18446744073709551616 = y at *
        obtain rfl : k = 16 := by omega
        have hv := bytes_hex m (unhideT HR)
        go_wp2
        go_ret
        exact ⟨rfl, unhideT HB⟩
end Go.Proofs.YtekbhjacgdncbacDoor
