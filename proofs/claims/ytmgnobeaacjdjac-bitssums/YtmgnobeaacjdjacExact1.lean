/-
  Words of 64 bits, added and taken away; a number's parts: by their contracts. What a call that writes one block leaves.
-/
import Derived.Test.YtmgnobeaacjdjacSumF
import Derived.Test.YtmgnobeaacjdjacRowW
import Derived.Test.YtmgnobeaacjdjacInfF
import Derived.WalkSmall
namespace Go.Proofs.Ytmgnobeaacjdjac
open Go Go.RowKit

def HeldE (p : Prop) : Prop := p
theorem hideE {p : Prop} (h : p) : HeldE p := h
theorem unhideE {p : Prop} (h : HeldE p) : p := h

/-- block g alone may have been written. -/
structure Only (g : Nat) (w w' : World) : Prop where
  os : w'.os = w.os
  tape : w'.tape = w.tape
  output : w'.output = w.output
  size : w'.heap.size = w.heap.size
  block : ∀ k, k ≠ g → w'.heap[k]? = w.heap[k]?
theorem Only.refl (g : Nat) (w : World) : Only g w w := ⟨rfl, rfl, rfl, rfl, fun _ _ => rfl⟩
theorem Only.trans {g : Nat} {a b c : World} (h : Only g a b) (k : Only g b c) : Only g a c :=
  ⟨k.os.trans h.os, k.tape.trans h.tape, k.output.trans h.output, k.size.trans h.size, fun i hi => (k.block i hi).trans (h.block i hi)⟩
theorem Only.set {g : Nat} {a w : World} (h : Only g a w) (i : Nat) (u : Value) : Only g a (w.setCell ⟨g, i, none⟩ u) :=
  h.trans ⟨rfl, rfl, rfl, by simp [World.setCell], fun _ hk => Below.heap_setCell w ⟨g, i, none⟩ u _ hk⟩
theorem Only.draw {g : Nat} {a w : World} (h : Only g a w) (n : Nat) : Only g a (w.drewN n) := ⟨h.os, h.tape, h.output, h.size, h.block⟩
theorem Only.below {g B : Nat} {w w' : World} (h : Only g w w') (hB : B ≤ g) : Below B w w' := ⟨h.os, h.tape, h.output, Nat.le_of_eq h.size.symm, fun k hk => h.block k (by omega)⟩
theorem Only.row {g b n : Nat} {w w' : World} {v : Nat → Value} (h : Only g w w') (hb : b ≠ g) (r : RowIs w b n v) : RowIs w' b n v where
  cell j hj := by
    have e := World.cell?_of_block (w := w) (w' := w') (a := ⟨b, j, none⟩) (h.block b hb)
    rw [e]; exact r.cell j hj
  free j hj := by
    have e := World.frozen?_of_block (w := w) (w' := w') (a := ⟨b, j, none⟩) (h.block b hb)
    rw [e]; exact r.free j hj
  lt := by rw [h.size]; exact r.lt
theorem RowIs.drawn {w : World} {g n : Nat} {v : Nat → Value} (r : RowIs w g n v) (k : Nat) : RowIs (w.drewN k) g n v := ⟨r.cell, r.free, r.lt⟩

theorem run_add64 (x y c : Nat) (hc : c ≤ 1) (w : World) : (callFunc 48 #[.int .u64 x, .int .u64 y, .int .u64 c]).run Try.prog w = .ok (.value (.tuple #[.int .u64 ((x + y + c) % 18446744073709551616 : Nat), .int .u64 ((x + y + c) / 18446744073709551616 : Nat)])) w := by
  rw [run_callFunc_extern (e := fun args => do
    let (x, y, c) ← Extern.MathBitsCarry.three "Add64" args
    pure (Extern.MathBitsCarry.pair ((x + y + c) % Extern.MathBitsCarry.m64) ((x + y + c) / Extern.MathBitsCarry.m64))) Try.func48 (by kernel_rfl) (by kernel_rfl) (by kernel_rfl) (by kernel_rfl)]
  have h : (Extern.MathBitsCarry.three "Add64" #[.int .u64 x, .int .u64 y, .int .u64 c]).run Try.prog w = .ok (x, y, c) w := by
    rcases (show c = 0 ∨ c = 1 by omega) with rfl | rfl
    · rfl
    · rfl
  simp only [Sem.run_bind, h, Result.andThen, Sem.run_pure]
  rfl
theorem run_sub64 (x y c : Nat) (hc : c ≤ 1) (w : World) : (callFunc 49 #[.int .u64 x, .int .u64 y, .int .u64 c]).run Try.prog w = .ok (.value (.tuple #[.int .u64 ((x + 18446744073709551616 - y - c) % 18446744073709551616 : Nat), .int .u64 ((if x < y + c then 1 else 0 : Nat) : Int)])) w := by
  rw [run_callFunc_extern (e := fun args => do
    let (x, y, b) ← Extern.MathBitsCarry.three "Sub64" args
    pure (Extern.MathBitsCarry.pair ((x + Extern.MathBitsCarry.m64 - y - b) % Extern.MathBitsCarry.m64) (if x < y + b then 1 else 0))) Try.func49 (by kernel_rfl) (by kernel_rfl) (by kernel_rfl) (by kernel_rfl)]
  have h : (Extern.MathBitsCarry.three "Sub64" #[.int .u64 x, .int .u64 y, .int .u64 c]).run Try.prog w = .ok (x, y, c) w := by
    rcases (show c = 0 ∨ c = 1 by omega) with rfl | rfl
    · rfl
    · rfl
  simp only [Sem.run_bind, h, Result.andThen, Sem.run_pure]
  rfl
theorem and_low52 (x : Nat) (hx : x < 18446744073709551616) : bits .and .u64 (x : Int) 4503599627370495 = ((frac x : Nat) : Int) := by
  have h := u64_and_nat x 4503599627370495 hx (by omega)
  rw [show ((4503599627370495 : Nat) : Int) = 4503599627370495 by rfl] at h
  rw [h]
  congr 1
  rw [show (4503599627370495 : Nat) = 2 ^ 52 - 1 by decide, Nat.and_two_pow_sub_one_eq_mod]
  rfl
theorem and_low11 (y : Nat) (hy : y < 18446744073709551616) : bits .and .u64 (y : Int) 2047 = ((y % 2048 : Nat) : Int) := by
  have h := u64_and_nat y 2047 hy (by omega)
  rw [show ((2047 : Nat) : Int) = 2047 by rfl] at h
  rw [h]
  congr 1
  rw [show (2047 : Nat) = 2 ^ 11 - 1 by decide, Nat.and_two_pow_sub_one_eq_mod]
theorem or_bit52 (f : Nat) (hf : f < 4503599627370496) : bits .or .u64 (f : Int) 4503599627370496 = ((f + 4503599627370496 : Nat) : Int) := by
  have h := u64_or_nat f 4503599627370496 (by omega) (by omega)
  rw [show ((4503599627370496 : Nat) : Int) = 4503599627370496 by rfl] at h
  rw [h]
  congr 1
  have e := Nat.two_pow_add_eq_or_of_lt (i := 52) (show f < 2 ^ 52 by omega) 1
  rw [Nat.or_comm, show (4503599627370496 : Nat) = 2 ^ 52 * 1 by decide, ← e]
  omega
theorem parts_any (x : Nat) (w : World) (hx : x < 18446744073709551616) :
    Calls Try.prog 47 #[.float .f64 x] w fun e w' => e = .returned (.tuple #[.int .u64 (szU x : Nat), .int .i64 (upU x : Nat)]) ∧ w' = w := by
  have hb := run_tobitsI
  have a1 := and_low52 x hx
  have a2 := and_low11 (x / 4503599627370496) (by omega)
  have hfl : frac x < 4503599627370496 := Nat.mod_lt _ (by decide)
  have a3 := or_bit52 (frac x) hfl
  have he : x / 4503599627370496 % 2048 = expo x := rfl
  have hel : expo x < 2048 := Nat.mod_lt _ (by decide)
  have hdiv : (x : Int) / 4503599627370496 = ((x / 4503599627370496 : Nat) : Int) := by omega
  rw [he] at a2
  unfold szU upU
  by_cases h0 : expo x = 0
  · rw [if_pos h0]
    generalize x / 4503599627370496 = y at *
    generalize frac x = f at *
    rw [h0] at a2 ⊢
    clear h0 he hel a3
    go_enter Try.func47, Try.ntmps47
    go_wp2
    go_ret2
    exact ⟨rfl, rfl⟩
  · rw [if_neg h0]
    generalize x / 4503599627370496 = y at *
    generalize frac x = f at *
    generalize expo x = ex at *
    have h1 : ((ex : Int) == 0) = false := by rw [beq_eq_false_iff_ne]; omega
    have h2 : ((ex - 1 : Nat) : Int) = (ex : Int) - 1 := by omega
    rw [h2]
    clear he
    go_enter Try.func47, Try.ntmps47
    go_wp2
    go_ret2
    exact ⟨rfl, rfl⟩
end Go.Proofs.Ytmgnobeaacjdjac
