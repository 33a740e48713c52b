/-
  Degrees and the document's, by their contracts.
-/
import Derived.Test.YtfifbcoedfdnjabDoorTexts
namespace Go.Proofs.YtfifbcoedfdnjabDoor
open Go.RowKit Go.Lib

theorem degL_pos (m : Nat) : degL (m : Int) = decDigits (m / 3600000000) ++ [194, 176] ++ sixL m [226, 128, 178] [226, 128, 179] := by
  unfold degL
  rw [if_neg (by omega), Int.natAbs_natCast]
  rfl
theorem degL_neg (m : Nat) (h : 0 < m) : degL (-(m : Int)) = [45] ++ decDigits (m / 3600000000) ++ [194, 176] ++ sixL m [226, 128, 178] [226, 128, 179] := by
  unfold degL
  rw [if_pos (by omega), Int.natAbs_neg, Int.natAbs_natCast]
theorem six_rest (m : Nat) (a b : List UInt8) : sixL (m % 3600000000) a b = sixL m a b := by
  unfold sixL
  rw [show m % 3600000000 / 60000000 % 60 = m / 60000000 % 60 by omega, show m % 3600000000 / 1000000 % 60 = m / 1000000 % 60 by omega, show m % 3600000000 % 1000000 = m % 1000000 by omega]

theorem itoa_int (n c : Nat) (z : Int) (w : World) (t : Tens w) (hz : z = n) (hn : n < 1000000000000000000) (hc : Kept ((decDigits n).length = c)) :
    Calls Tryd.prog 29 #[.int .i64 z] w fun e w' => ∃ s, e = .returned (.string s) ∧ Kept (s = str (decDigits n)) ∧ s.size = c ∧ Below w.heap.size w w' := by
  subst hz; exact itoa_any n c w t hn hc

set_option maxHeartbeats 1000000 in
theorem degrees_pos (m : Nat) (w : World) (t : Tens w) (hm : m ≤ 1152921504606846976) :
    Calls Tryd.prog 12 #[.int .i64 m] w fun e w' => ∃ s, e = .returned (.string s) ∧ Kept (s = str (degL m)) ∧ s.size ≤ 700 ∧ Below w.heap.size w w' := by
  have HU := keep (degL_pos m)
  have hl := dec_len (m / 3600000000) (by omega)
  generalize hc : (decDigits (m / 3600000000)).length = c at hl
  have HC := keep hc
  clear hc
  go_enter Tryd.func12, Tryd.ntmps12
  go_wp2_with fail
  refine (itoa_int (m / 3600000000) c _ _ t (by omega) (by omega) HC).mono ?_
  rintro e w1 ⟨s1, rfl, HS1, hz1, hb1⟩
  have t1 := t.below hb1 t.size
  go_wp2_with fail
  refine (sixtieths_any (m % 3600000000) _ [226, 128, 178] [226, 128, 179] _ _ _ t1 (by omega) (by omega) rfl rfl (by decide) (by decide)).mono ?_
  rintro e w2 ⟨s2, rfl, HS2, hz2, hb2⟩
  go_wp2
  go_ret
  refine ⟨_, rfl, ?_, by simp [ByteArray.size_append, hz1, ByteArray.size_mk']; omega, hb1.trans (hb2.mono hb1.size)⟩
  show _ = _
  rw [kept HS1, kept HS2, kept HU, six_rest, show (⟨#[194, 176]⟩ : ByteArray) = str [194, 176] from rfl, show (⟨#[]⟩ : ByteArray) = str [] from rfl]
  simp only [str_append, List.nil_append]

set_option maxHeartbeats 1000000 in
theorem degrees_neg (m : Nat) (w : World) (t : Tens w) (h0 : 0 < m) (hm : m ≤ 1152921504606846976) :
    Calls Tryd.prog 12 #[.int .i64 (-(m : Int))] w fun e w' => ∃ s, e = .returned (.string s) ∧ Kept (s = str (degL (-(m : Int)))) ∧ s.size ≤ 700 ∧ Below w.heap.size w w' := by
  have HU := keep (degL_neg m h0)
  have hneg : IntKind.u64.wrap (-IntKind.u64.wrap (-(m : Int))) = (m : Int) := by
    rw [IntKind.wrap_u64, IntKind.wrap_u64]; omega
  have hl := dec_len (m / 3600000000) (by omega)
  generalize hc : (decDigits (m / 3600000000)).length = c at hl
  have HC := keep hc
  clear hc
  go_enter Tryd.func12, Tryd.ntmps12
  go_wp2_with fail
  refine (itoa_int (m / 3600000000) c _ _ t (by omega) (by omega) HC).mono ?_
  rintro e w1 ⟨s1, rfl, HS1, hz1, hb1⟩
  have t1 := t.below hb1 t.size
  go_wp2_with fail
  refine (sixtieths_any (m % 3600000000) _ [226, 128, 178] [226, 128, 179] _ _ _ t1 (by omega) (by omega) rfl rfl (by decide) (by decide)).mono ?_
  rintro e w2 ⟨s2, rfl, HS2, hz2, hb2⟩
  go_wp2
  go_ret
  refine ⟨_, rfl, ?_, by simp [ByteArray.size_append, hz1, ByteArray.size_mk']; omega, hb1.trans (hb2.mono hb1.size)⟩
  show _ = _
  rw [kept HS1, kept HS2, kept HU, six_rest, show (⟨#[194, 176]⟩ : ByteArray) = str [194, 176] from rfl, show (⟨#[45]⟩ : ByteArray) = str [45] from rfl]
  simp only [str_append]

set_option maxHeartbeats 1000000 in
theorem degreesText_pos (m : Nat) (w : World) (hm : m ≤ 1152921504606846976) :
    Calls Tryd.prog 13 #[.int .i64 m] w fun e w' => ∃ s, e = .returned (.string s) ∧ Kept (s = str (degL m)) ∧ s.size ≤ 700 ∧ Below w.heap.size w w' := by
  have HU := keep (degL_pos m)
  go_enter Tryd.func13, Tryd.ntmps13
  go_wp2_with fail
  refine (decimal_any (m / 3600000000) _ _ (by omega) (by omega)).mono ?_
  rintro e w1 ⟨s1, rfl, HS1, hz1, hb1⟩
  go_wp2_with fail
  refine (sixties_any m _ [194, 176] [226, 128, 178] [226, 128, 179] _ _ _ _ (by omega) (by omega) rfl rfl rfl (by decide) (by decide) (by decide)).mono ?_
  rintro e w2 ⟨s2, rfl, HS2, hz2, hb2⟩
  go_wp2
  go_ret
  refine ⟨_, rfl, ?_, by simp [ByteArray.size_append, ByteArray.size_mk']; omega, hb1.trans (hb2.mono hb1.size)⟩
  show _ = _
  rw [kept HS1, kept HS2, kept HU, show (⟨#[]⟩ : ByteArray) = str [] from rfl]
  simp only [str_append, List.nil_append, List.append_assoc]

set_option maxHeartbeats 1000000 in
theorem degreesText_neg (m : Nat) (w : World) (h0 : 0 < m) (hm : m ≤ 1152921504606846976) :
    Calls Tryd.prog 13 #[.int .i64 (-(m : Int))] w fun e w' => ∃ s, e = .returned (.string s) ∧ Kept (s = str (degL (-(m : Int)))) ∧ s.size ≤ 700 ∧ Below w.heap.size w w' := by
  have HU := keep (degL_neg m h0)
  go_enter Tryd.func13, Tryd.ntmps13
  go_wp2_with fail
  refine (decimal_any (m / 3600000000) _ _ (by omega) (by omega)).mono ?_
  rintro e w1 ⟨s1, rfl, HS1, hz1, hb1⟩
  go_wp2_with fail
  refine (sixties_any m _ [194, 176] [226, 128, 178] [226, 128, 179] _ _ _ _ (by omega) (by omega) rfl rfl rfl (by decide) (by decide) (by decide)).mono ?_
  rintro e w2 ⟨s2, rfl, HS2, hz2, hb2⟩
  go_wp2
  go_ret
  refine ⟨_, rfl, ?_, by simp [ByteArray.size_append, ByteArray.size_mk']; omega, hb1.trans (hb2.mono hb1.size)⟩
  show _ = _
  rw [kept HS1, kept HS2, kept HU, show (⟨#[45]⟩ : ByteArray) = str [45] from rfl]
  simp only [str_append, List.append_assoc]

theorem degrees_any (a : Int) (w : World) (t : Tens w) (h1 : -1152921504606846976 ≤ a) (h2 : a ≤ 1152921504606846976) :
    Calls Tryd.prog 12 #[.int .i64 a] w fun e w' => ∃ s, e = .returned (.string s) ∧ Kept (s = str (degL a)) ∧ s.size ≤ 700 ∧ Below w.heap.size w w' := by
  rcases (show (∃ m : Nat, a = m) ∨ ∃ m : Nat, 0 < m ∧ a = -(m : Int) from (by
    rcases (show 0 ≤ a ∨ a < 0 by omega) with h | h
    · exact .inl ⟨a.toNat, by omega⟩
    · exact .inr ⟨(-a).toNat, by omega, by omega⟩)) with ⟨m, rfl⟩ | ⟨m, h0, rfl⟩
  · exact degrees_pos m w t (by omega)
  · exact degrees_neg m w t h0 (by omega)
theorem degreesText_any (a : Int) (w : World) (h1 : -1152921504606846976 ≤ a) (h2 : a ≤ 1152921504606846976) :
    Calls Tryd.prog 13 #[.int .i64 a] w fun e w' => ∃ s, e = .returned (.string s) ∧ Kept (s = str (degL a)) ∧ s.size ≤ 700 ∧ Below w.heap.size w w' := by
  rcases (show (∃ m : Nat, a = m) ∨ ∃ m : Nat, 0 < m ∧ a = -(m : Int) from (by
    rcases (show 0 ≤ a ∨ a < 0 by omega) with h | h
    · exact .inl ⟨a.toNat, by omega⟩
    · exact .inr ⟨(-a).toNat, by omega, by omega⟩)) with ⟨m, rfl⟩ | ⟨m, h0, rfl⟩
  · exact degreesText_pos m w (by omega)
  · exact degreesText_neg m w h0 (by omega)
end Go.Proofs.YtfifbcoedfdnjabDoor
