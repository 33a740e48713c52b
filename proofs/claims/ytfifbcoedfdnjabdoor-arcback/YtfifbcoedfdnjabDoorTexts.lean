/-
  Angles' texts: both typings of them, by their contracts.
-/
import Derived.Test.YtfifbcoedfdnjabDoorDecimal
import Derived.Test.YtfifbcoedfdnjabDoorNrm
namespace Go.Proofs.YtfifbcoedfdnjabDoor
open Go.RowKit Go.Lib

theorem wide_int (m n : Nat) (z : Int) (w : World) (hz : z = n) (hm : m ≤ 18) (hn : n < 9000000000000000000) :
    Calls Tryd.prog 33 #[.int .i64 z, .int .i64 m] w fun e w' => ∃ s, e = .returned (.string s) ∧ Kept (s = str (wide m n)) ∧ s.size = m ∧ Below w.heap.size w w' := by
  subst hz; exact wide_any m n w hm hn

set_option maxHeartbeats 1000000 in
theorem sixties_any (n : Nat) (z : Int) (f a b : List UInt8) (sf sa sb : ByteArray) (w : World) (hz : z = n) (hn : n < 9000000000000000000) (HF : Kept (sf = str f)) (HA : Kept (sa = str a)) (HB : Kept (sb = str b)) (zf : sf.size ≤ 100) (za : sa.size ≤ 100) (zb : sb.size ≤ 100) :
    Calls Tryd.prog 31 #[.int .i64 z, .string sf, .string sa, .string sb] w fun e w' => ∃ s, e = .returned (.string s) ∧ Kept (s = str (f ++ sixL n a b)) ∧ s.size ≤ 500 ∧ Below w.heap.size w w' := by
  subst hz
  have hu : sixL n a b = wide 2 (n / 60000000 % 60) ++ a ++ wide 2 (n / 1000000 % 60) ++ [46] ++ wide 6 (n % 1000000) ++ b := rfl
  have HU := keep hu
  clear hu
  go_enter Tryd.func31, Tryd.ntmps31
  go_wp2_with fail
  refine (wide_int 2 (n / 60000000 % 60) _ _ (by omega) (by omega) (by omega)).mono ?_
  rintro e w1 ⟨s1, rfl, HS1, hz1, hb1⟩
  go_wp2_with fail
  refine (wide_int 2 (n / 1000000 % 60) _ _ (by omega) (by omega) (by omega)).mono ?_
  rintro e w2 ⟨s2, rfl, HS2, hz2, hb2⟩
  go_wp2_with fail
  refine (wide_int 6 (n % 1000000) _ _ (by omega) (by omega) (by omega)).mono ?_
  rintro e w3 ⟨s3, rfl, HS3, hz3, hb3⟩
  go_wp2
  go_ret
  refine ⟨_, rfl, ?_, by simp [ByteArray.size_append, hz1, hz2, hz3, ByteArray.size_mk']; omega, (hb1.trans (hb2.mono hb1.size)).trans (hb3.mono (Nat.le_trans hb1.size hb2.size))⟩
  show _ = _
  rw [kept HS1, kept HS2, kept HS3, kept HF, kept HA, kept HB, kept HU, show (⟨#[46]⟩ : ByteArray) = str [46] from rfl]
  simp only [str_append, List.append_assoc]

theorem nrm_nat (a : Int) : ∃ x : Nat, nrm a = x ∧ (a % 1296000000000).toNat = x ∧ x < 1296000000000 := by
  have := nrm_range a
  exact ⟨(a % 1296000000000).toNat, by unfold nrm at *; omega, rfl, by unfold nrm at this; omega⟩
theorem hrs_of {a : Int} {x : Nat} (h : (a % 1296000000000).toNat = x) : hrs a = (x + 7) / 15 % 86400000000 := by unfold hrs; rw [h]

set_option maxHeartbeats 1000000 in
theorem hours_any (a : Int) (w : World) (t : Tens w) :
    Calls Tryd.prog 11 #[.int .i64 a] w fun e w' => ∃ s, e = .returned (.string s) ∧ Kept (s = str (hrsL a)) ∧ s.size ≤ 500 ∧ Below w.heap.size w w' := by
  obtain ⟨x, hx, hx', hlt⟩ := nrm_nat a
  have hu : hrsL a = wide 2 (hrs a / 3600000000) ++ [104] ++ sixL (hrs a) [109] [115] := rfl
  have he := hrs_of hx'
  have h6 : sixL (hrs a % 3600000000) [109] [115] = sixL (hrs a) [109] [115] := by unfold sixL; rw [show hrs a % 3600000000 / 60000000 % 60 = hrs a / 60000000 % 60 by omega, show hrs a % 3600000000 / 1000000 % 60 = hrs a / 1000000 % 60 by omega, show hrs a % 3600000000 % 1000000 = hrs a % 1000000 by omega]
  generalize hrs a = h at hu he h6
  have HU := keep hu
  have HE := keep he
  have H6 := keep h6
  clear hu he hx' h6
  go_enter Tryd.func11, Tryd.ntmps11
  go_wp2_with fail
  refine (norm_any _ _).mono ?_
  rintro e w1 ⟨rfl, rfl⟩
  go_wp2_with fail
  refine (of_int 2 (h / 3600000000) _ _ t (by have := kept HE; omega) (by omega) (by omega) (by have := kept HE; omega) (by have := kept HE; omega)).mono ?_
  rintro e w1 ⟨s1, rfl, HS1, hz1, hb1⟩
  have t1 := t.below hb1 t.size
  go_wp2_with fail
  refine (sixtieths_any (h % 3600000000) _ [109] [115] _ _ _ t1 (by have := kept HE; omega) (by omega) rfl rfl (by decide) (by decide)).mono ?_
  rintro e w2 ⟨s2, rfl, HS2, hz2, hb2⟩
  go_wp2
  go_ret
  refine ⟨_, rfl, ?_, by simp [ByteArray.size_append, hz1, ByteArray.size_mk']; omega, hb1.trans (hb2.mono hb1.size)⟩
  show _ = _
  rw [kept HS1, kept HS2, kept HU, kept H6, show (⟨#[104]⟩ : ByteArray) = str [104] from rfl]
  simp only [str_append]

set_option maxHeartbeats 1000000 in
theorem hoursText_any (a : Int) (w : World) :
    Calls Tryd.prog 14 #[.int .i64 a] w fun e w' => ∃ s, e = .returned (.string s) ∧ Kept (s = str (hrsL a)) ∧ s.size ≤ 700 ∧ Below w.heap.size w w' := by
  obtain ⟨x, hx, hx', hlt⟩ := nrm_nat a
  have hu : hrsL a = wide 2 (hrs a / 3600000000) ++ [104] ++ sixL (hrs a) [109] [115] := rfl
  have he := hrs_of hx'
  generalize hrs a = h at hu he
  have HU := keep hu
  have HE := keep he
  clear hu he hx'
  by_cases hq : (x + 7) / 15 = 86400000000
  · have hq1 : ((x : Int) + 7) / 15 = 86400000000 := by omega
    go_enter Tryd.func14, Tryd.ntmps14
    go_wp2_with fail
    refine (normOf_any _ _).mono ?_
    rintro e w1 ⟨rfl, rfl⟩
    go_wp2_with fail
    refine (wide_int 2 (h / 3600000000) _ _ (by have := kept HE; omega) (by omega) (by have := kept HE; omega)).mono ?_
    rintro e w1 ⟨s1, rfl, HS1, hz1, hb1⟩
    go_wp2_with fail
    refine (sixties_any h _ [104] [109] [115] _ _ _ _ (by have := kept HE; omega) (by have := kept HE; omega) rfl rfl rfl (by decide) (by decide) (by decide)).mono ?_
    rintro e w2 ⟨s2, rfl, HS2, hz2, hb2⟩
    go_wp2
    go_ret
    refine ⟨_, rfl, ?_, by simp [ByteArray.size_append, hz1]; omega, hb1.trans (hb2.mono hb1.size)⟩
    show _ = _
    rw [kept HS1, kept HS2, kept HU]
    simp only [str_append, List.append_assoc]
  · have hq1 : ¬ ((x : Int) + 7) / 15 = 86400000000 := by omega
    go_enter Tryd.func14, Tryd.ntmps14
    go_wp2_with fail
    refine (normOf_any _ _).mono ?_
    rintro e w1 ⟨rfl, rfl⟩
    go_wp2_with fail
    refine (wide_int 2 (h / 3600000000) _ _ (by have := kept HE; omega) (by omega) (by have := kept HE; omega)).mono ?_
    rintro e w1 ⟨s1, rfl, HS1, hz1, hb1⟩
    go_wp2_with fail
    refine (sixties_any h _ [104] [109] [115] _ _ _ _ (by have := kept HE; omega) (by have := kept HE; omega) rfl rfl rfl (by decide) (by decide) (by decide)).mono ?_
    rintro e w2 ⟨s2, rfl, HS2, hz2, hb2⟩
    go_wp2
    go_ret
    refine ⟨_, rfl, ?_, by simp [ByteArray.size_append, hz1]; omega, hb1.trans (hb2.mono hb1.size)⟩
    show _ = _
    rw [kept HS1, kept HS2, kept HU]
    simp only [str_append, List.append_assoc]
end Go.Proofs.YtfifbcoedfdnjabDoor
