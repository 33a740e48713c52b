/-
  digits.Of by its contract.
-/
import Derived.Test.YtfifbcoedfdnjabDoorWide
import Derived.WalkKit
import Derived.ProofKit
import Derived.Lib.AppendIntMem
import Derived.Laws.Concat
namespace Go.Proofs.YtfifbcoedfdnjabDoor
open Go.RowKit Go.Lib

def Kept (p : Prop) : Prop := p
theorem keep {p : Prop} (h : p) : Kept p := h
theorem kept {p : Prop} (h : Kept p) : p := h

/-- The string of some bytes. -/
def str (l : List UInt8) : ByteArray := ⟨l.toArray⟩
theorem str_append (x y : List UInt8) : str x ++ str y = str (x ++ y) := ByteArray.mk_append_mk x y
theorem str_size (l : List UInt8) : (str l).size = l.length := by simp [str, ByteArray.size]
theorem str_list (l : List UInt8) : (str l).data.toList = l := by simp [str]

/-- The powers of ten lie where they should. -/
structure Tens (w : World) : Prop where
  tab : Lib.TabIs Tryd.prog w "internal/strconv.uint64pow10" .u64 Lib.pow10Tab
  size : 11 < w.heap.size
theorem Tens.below {w w' : World} (t : Tens w) {B : Nat} (h : Below B w w') (hB : 11 < B) : Tens w' where
  tab := by
    have ht := t.tab
    unfold Lib.TabIs World.var? at ht ⊢
    have e : Tryd.prog.globalNamed "internal/strconv.uint64pow10" = some 11 := by kernel_rfl
    rw [e] at ht ⊢
    simp only [Option.bind_some] at ht ⊢
    rw [h.block 11 (by omega)]
    exact ht
  size := Nat.lt_of_lt_of_le t.size h.size

theorem repeat_any (z : Int) (r : Nat) (w : World) (hz : z = r) (hr : r ≤ 1000) :
    Calls Tryd.prog 50 #[.string ⟨#[48]⟩, .int .i64 z] w fun e w' => ∃ s, e = .returned (.string s) ∧ Kept (s = str (List.replicate r 48)) ∧ s.size = r ∧ Below w.heap.size w w' := by
  subst hz
  have e : ∀ c, Lib.repeatL [48] c = List.replicate c 48 := by
    intro c
    induction c with
    | zero => rfl
    | succ c ih => rw [Lib.repeatL, ih]; rfl
  refine (Tryd.strings_Repeat ⟨#[48]⟩ r w (by omega) (by simp [ByteArray.size]; omega)).mono ?_
  rintro e' w' ⟨rfl, hb⟩
  refine ⟨_, rfl, ?_, ?_, hb⟩
  · show _ = _
    unfold str
    rw [← e r]
  · show (str (Lib.repeatL [48] r)).size = r
    rw [e, str_size, List.length_replicate]

theorem max_sub (m c : Nat) (h : c ≤ m) : ((m : Int) - (c : Int)) = ((m - c : Nat) : Int) := by omega

theorem itoa_any (n c : Nat) (w : World) (t : Tens w) (hn : n < 1000000000000000000) (hc : Kept ((decDigits n).length = c)) :
    Calls Tryd.prog 29 #[.int .i64 n] w fun e w' => ∃ s, e = .returned (.string s) ∧ Kept (s = str (decDigits n)) ∧ s.size = c ∧ Below w.heap.size w w' := by
  refine (Tryd.strconv_Itoa n (by omega) (by omega) _ t.tab).mono ?_
  rintro e w1 ⟨rfl, k, os, rfl⟩
  have hs1 : (⟨(Lib.itoa (n : Int)).toArray⟩ : ByteArray) = str (decDigits n) := by rw [Lib.itoa_nonneg]; rfl
  exact ⟨_, rfl, hs1, by rw [hs1, str_size]; exact hc, below_grow w.heap.size w (Nat.le_refl _) k os⟩

set_option maxHeartbeats 400000 in
theorem of_any (m n : Nat) (w : World) (t : Tens w) (m1 : 1 ≤ m) (m2 : m ≤ 18) (hn : n < 10 ^ m) (hn' : n < 1000000000000000000) :
    Calls Tryd.prog 27 #[.int .i64 n, .int .i64 m] w fun e w' => ∃ s, e = .returned (.string s) ∧ Kept (s = str (wide m n)) ∧ s.size = m ∧ Below w.heap.size w w' := by
  have hl : (decDigits n).length ≤ m := by
    have := dec_length_le (m - 1) n (by rw [show m - 1 + 1 = m by omega]; exact hn)
    omega
  have hw := wide_dec (m - 1) n (by rw [show m - 1 + 1 = m by omega]; exact hn)
  rw [show m - 1 + 1 = m by omega] at hw
  have HW := keep hw
  clear hw
  generalize hc : (decDigits n).length = c at hl
  have HC := keep hc
  clear hc
  have hmax : ((m : Int) - (c : Int)) = ((m - c : Nat) : Int) := max_sub m c hl
  go_enter Tryd.func27, Tryd.ntmps27
  go_wp2_with fail
  refine (itoa_any n c _ t hn' HC).mono ?_
  rintro e w1 ⟨s1, rfl, HS1, hz1, hb1⟩
  go_wp2_with fail
  refine (repeat_any _ (m - c) _ rfl (by omega)).mono ?_
  rintro e w2 ⟨s2, rfl, HS2, hz2, hb2⟩
  go_wp2
  go_ret
  refine ⟨_, rfl, ?_, by simp [ByteArray.size_append, hz1, hz2]; omega, hb1.trans (hb2.mono hb1.size)⟩
  show s2 ++ s1 = _
  rw [kept HS1, kept HS2, str_append, ← kept HW, kept HC]

theorem of_int (m n : Nat) (z : Int) (w : World) (t : Tens w) (hz : z = n) (m1 : 1 ≤ m) (m2 : m ≤ 18) (hn : n < 10 ^ m) (hn' : n < 1000000000000000000) :
    Calls Tryd.prog 27 #[.int .i64 z, .int .i64 m] w fun e w' => ∃ s, e = .returned (.string s) ∧ Kept (s = str (wide m n)) ∧ s.size = m ∧ Below w.heap.size w w' := by
  subst hz; exact of_any m n w t m1 m2 hn hn'

set_option maxHeartbeats 1000000 in
theorem sixtieths_any (n : Nat) (z : Int) (a b : List UInt8) (sa sb : ByteArray) (w : World) (t : Tens w) (hz : z = n) (hn : n < 3600000000) (HA : Kept (sa = str a)) (HB : Kept (sb = str b)) (za : sa.size ≤ 100) (zb : sb.size ≤ 100) :
    Calls Tryd.prog 28 #[.int .i64 z, .string sa, .string sb] w fun e w' => ∃ s, e = .returned (.string s) ∧ Kept (s = str (sixL n a b)) ∧ s.size ≤ 300 ∧ Below w.heap.size w w' := by
  subst hz
  have hu : sixL n a b = wide 2 (n / 60000000 % 60) ++ a ++ wide 2 (n / 1000000 % 60) ++ [46] ++ wide 6 (n % 1000000) ++ b := rfl
  have HU := keep hu
  clear hu
  go_enter Tryd.func28, Tryd.ntmps28
  go_wp2_with fail
  refine (of_int 2 (n / 60000000 % 60) _ _ t (by omega) (by omega) (by omega) (by omega) (by omega)).mono ?_
  rintro e w1 ⟨s1, rfl, HS1, hz1, hb1⟩
  have t1 := t.below hb1 t.size
  go_wp2_with fail
  refine (of_int 2 (n / 1000000 % 60) _ _ t1 (by omega) (by omega) (by omega) (by omega) (by omega)).mono ?_
  rintro e w2 ⟨s2, rfl, HS2, hz2, hb2⟩
  have t2 := t1.below hb2 t1.size
  go_wp2_with fail
  refine (of_int 6 (n % 1000000) _ _ t2 (by omega) (by omega) (by omega) (by omega) (by omega)).mono ?_
  rintro e w3 ⟨s3, rfl, HS3, hz3, hb3⟩
  go_wp2
  go_ret
  refine ⟨_, rfl, ?_, by simp [ByteArray.size_append, hz1, hz2, hz3, ByteArray.size_mk']; omega, (hb1.trans (hb2.mono hb1.size)).trans (hb3.mono (Nat.le_trans hb1.size hb2.size))⟩
  show _ = _
  rw [kept HS1, kept HS2, kept HS3, kept HA, kept HB, kept HU, show (⟨#[46]⟩ : ByteArray) = str [46] from rfl]
  simp only [str_append]
end Go.Proofs.YtfifbcoedfdnjabDoor
