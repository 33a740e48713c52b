/-
  The document's runes of a text, by their contract.
-/
import Derived.Test.YtfifbcoedfdnjabDoorTail
import Derived.Lib.RuneCountTail
import Derived.WalkSpells
namespace Go.Proofs.YtfifbcoedfdnjabDoor
open Go.RowKit Go.Lib

theorem tl_case (s : ByteArray) (i k : Nat) : (tl s (i + k) = -1 ∧ ¬ (k < s.size - i ∧ 128 ≤ (s.get! (i + k)).toNat ∧ (s.get! (i + k)).toNat < 192)) ∨ (tl s (i + k) = ((s.get! (i + k)).toNat : Int) - 128 ∧ k < s.size - i ∧ 128 ≤ (s.get! (i + k)).toNat ∧ (s.get! (i + k)).toNat < 192) := by
  unfold tl byt
  split <;> omega

theorem told_bad : told (-1) = 65533 := by decide
theorem told_ok {x : Int} (h : 0 ≤ x) : told x = x := by unfold told; rw [if_neg (by omega)]

set_option maxHeartbeats 4000000 in
theorem runeR_decode (s : ByteArray) (i : Nat) (h : i < s.size) : told (runeR s i).1 = ((Utf8.decode s i).1 : Int) ∧ (runeR s i).2 = ((Utf8.decode s i).2 : Int) := by
  rw [decode_at]
  have e0 : byt s i = (s.get! i).toNat := rfl
  have e1 := tl_case s i 1
  have e2 := tl_case s i 2
  have e3 := tl_case s i 3
  have l0 := UInt8.toNat_lt (s.get! i)
  unfold runeR
  rw [e0]
  generalize tl s (i + 1) = t1 at *
  generalize tl s (i + 2) = t2 at *
  generalize tl s (i + 3) = t3 at *
  generalize (s.get! i).toNat = b0 at *
  generalize (s.get! (i + 1)).toNat = b1 at *
  generalize (s.get! (i + 2)).toNat = b2 at *
  generalize (s.get! (i + 3)).toNat = b3 at *
  generalize hn : s.size - i = n at *
  have n1 : 1 ≤ n := by omega
  clear e0 hn h
  have bad : decodeN n b0 b1 b2 b3 = (65533, 1) → told (-1) = ((decodeN n b0 b1 b2 b3).1 : Int) ∧ (1 : Int) = ((decodeN n b0 b1 b2 b3).2 : Int) := fun e => by rw [e]; exact ⟨rfl, rfl⟩
  have good : ∀ (r w : Nat) (x : Int), decodeN n b0 b1 b2 b3 = (r, w) → x = r → told x = ((decodeN n b0 b1 b2 b3).1 : Int) ∧ (w : Int) = ((decodeN n b0 b1 b2 b3).2 : Int) := fun r w x e hx => by rw [e, hx, told_ok (by omega)]; exact ⟨rfl, rfl⟩
  rcases (show b0 < 128 ∨ (128 ≤ b0 ∧ (b0 < 194 ∨ 244 < b0)) ∨ (194 ≤ b0 ∧ b0 < 224) ∨ (224 ≤ b0 ∧ b0 < 240) ∨ (240 ≤ b0 ∧ b0 ≤ 244) by omega) with c | c | c | c | c
  · rw [if_pos (by omega)]
    exact good b0 1 _ (by unfold decodeN; rw [if_pos c]) rfl
  · rw [if_neg (by omega), if_pos (by omega)]
    clear e1 e2 e3
    refine bad ?_
    unfold decodeN
    repeat' split
    all_goals first
      | rfl
      | (exfalso; omega)
  · rw [if_neg (by omega)]
    clear e2 e3
    rcases e1 with ⟨e1, e1'⟩ | ⟨e1, e1'⟩
    · rw [if_pos (by omega)]
      refine bad ?_
      unfold decodeN
      repeat' split
      all_goals first
        | rfl
        | (exfalso; omega)
    · rw [if_neg (by omega), if_pos (by omega)]
      refine good (b0 % 32 * 64 + b1 % 64) 2 _ ?_ (by omega)
      unfold decodeN
      rw [if_neg (by omega), if_pos (by omega), if_pos (by omega)]
  · rw [if_neg (by omega)]
    clear e3
    rcases e1 with ⟨e1, e1'⟩ | ⟨e1, e1'⟩
    · rw [if_pos (by omega)]
      clear e2
      refine bad ?_
      unfold decodeN
      rw [if_neg (by omega), if_neg (by omega), if_neg (by omega), if_neg (by omega)]
    · rw [if_neg (by omega), if_neg (by omega)]
      rcases e2 with ⟨e2, e2'⟩ | ⟨e2, e2'⟩
      · rw [if_pos (by omega)]
        refine bad ?_
        unfold decodeN
        rw [if_neg (by omega), if_neg (by omega), if_neg (by omega), if_neg (by omega)]
      · rw [if_neg (by omega), if_pos (by omega)]
        rcases (show ((b0 : Int) - 224) * 4096 + t1 * 64 + t2 < 2048 ∨ 55296 ≤ ((b0 : Int) - 224) * 4096 + t1 * 64 + t2 ∧ ((b0 : Int) - 224) * 4096 + t1 * 64 + t2 < 57344 ∨ (2048 ≤ ((b0 : Int) - 224) * 4096 + t1 * 64 + t2 ∧ (((b0 : Int) - 224) * 4096 + t1 * 64 + t2 < 55296 ∨ 57344 ≤ ((b0 : Int) - 224) * 4096 + t1 * 64 + t2)) by omega) with q | q | q
        · rw [if_pos (by omega)]
          refine bad ?_
          unfold decodeN
          rw [if_neg (by omega), if_neg (by omega), if_pos (by omega), if_neg (by omega)]
        · rw [if_pos (by omega)]
          refine bad ?_
          unfold decodeN
          rw [if_neg (by omega), if_neg (by omega), if_pos (by omega), if_neg (by omega)]
        · rw [if_neg (by omega)]
          refine good (b0 % 16 * 4096 + b1 % 64 * 64 + b2 % 64) 3 _ ?_ (by omega)
          unfold decodeN
          rw [if_neg (by omega), if_neg (by omega), if_pos (by omega), if_pos (by omega)]
  · rw [if_neg (by omega)]
    rcases e1 with ⟨e1, e1'⟩ | ⟨e1, e1'⟩
    · rw [if_pos (by omega)]
      clear e2 e3
      refine bad ?_
      unfold decodeN
      rw [if_neg (by omega), if_neg (by omega), if_neg (by omega), if_neg (by omega)]
    · rw [if_neg (by omega), if_neg (by omega)]
      rcases e2 with ⟨e2, e2'⟩ | ⟨e2, e2'⟩
      · rw [if_pos (by omega)]
        clear e3
        refine bad ?_
        unfold decodeN
        rw [if_neg (by omega), if_neg (by omega), if_neg (by omega), if_neg (by omega)]
      · rw [if_neg (by omega), if_neg (by omega)]
        rcases e3 with ⟨e3, e3'⟩ | ⟨e3, e3'⟩
        · rw [if_pos (by omega)]
          refine bad ?_
          unfold decodeN
          rw [if_neg (by omega), if_neg (by omega), if_neg (by omega), if_neg (by omega)]
        · rw [if_neg (by omega)]
          rcases (show ((b0 : Int) - 240) * 262144 + t1 * 4096 + t2 * 64 + t3 < 65536 ∨ 1114111 < ((b0 : Int) - 240) * 262144 + t1 * 4096 + t2 * 64 + t3 ∨ (65536 ≤ ((b0 : Int) - 240) * 262144 + t1 * 4096 + t2 * 64 + t3 ∧ ((b0 : Int) - 240) * 262144 + t1 * 4096 + t2 * 64 + t3 ≤ 1114111) by omega) with q | q | q
          · rw [if_pos (by omega)]
            refine bad ?_
            unfold decodeN
            rw [if_neg (by omega), if_neg (by omega), if_neg (by omega), if_pos (by omega), if_neg (by omega)]
          · rw [if_pos (by omega)]
            refine bad ?_
            unfold decodeN
            rw [if_neg (by omega), if_neg (by omega), if_neg (by omega), if_pos (by omega), if_neg (by omega)]
          · rw [if_neg (by omega)]
            refine good (b0 % 8 * 262144 + b1 % 64 * 4096 + b2 % 64 * 64 + b3 % 64) 4 _ ?_ (by omega)
            unfold decodeN
            rw [if_neg (by omega), if_neg (by omega), if_neg (by omega), if_pos (by omega), if_pos (by omega)]

theorem rest_rest (s : ByteArray) (pos w : Nat) : (s.extract pos s.size).extract w (s.extract pos s.size).size = s.extract (pos + w) s.size := by
  apply ByteArray.ext
  have hs : s.size = s.data.size := rfl
  have hz : (s.extract pos s.size).size = s.size - pos := by rw [ByteArray.size_extract]; omega
  simp only [ByteArray.data_extract, hz]
  rw [Array.extract_extract]
  congr 1
  omega
theorem runs_step (s : ByteArray) (i : Nat) (h : i < s.size) (R : List Int) (hR : Runs (s.extract (i + (Utf8.decode s i).2) s.size) R) : Runs (s.extract i s.size) (told (runeR s i).1 :: R) := by
  have hz : (s.extract i s.size).size = s.size - i := by rw [ByteArray.size_extract]; omega
  have hd : decodeGo (s.extract i s.size) = Utf8.decode s i := by
    unfold decodeGo
    rw [if_neg (by omega), tail_decode]
    rfl
  have := @Runs.more (s.extract i s.size) R (by omega) (by rw [hd, rest_rest]; exact hR)
  rw [hd, ← (runeR_decode s i h).1] at this
  exact this
theorem width_at (s : ByteArray) (i : Nat) (h : i < s.size) : 1 ≤ (Utf8.decode s i).2 ∧ i + (Utf8.decode s i).2 ≤ s.size := by
  have hz : (s.extract i s.size).size = s.size - i := by rw [ByteArray.size_extract]; omega
  have hd : decodeGo (s.extract i s.size) = Utf8.decode s i := by
    unfold decodeGo
    rw [if_neg (by omega), tail_decode]
    rfl
  have := width_le (s.extract i s.size) (by omega)
  rw [hd] at this
  omega
theorem runeR_range (s : ByteArray) (i : Nat) (h : i < s.size) : -1 ≤ (runeR s i).1 ∧ (runeR s i).1 ≤ 1114111 := by
  have e := (runeR_decode s i h).1
  have l := rune_le s i
  unfold told at e
  split at e <;> omega

end Go.Proofs.YtfifbcoedfdnjabDoor
