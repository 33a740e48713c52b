/-
  Texts of a number's bits: what they are. No program here.
-/
import GoSem.Core.Value
namespace Go.Proofs.YtekbhjacgdncbacDoor
open Go

def hexC (d : Nat) : UInt8 := if d < 10 then UInt8.ofNat (48 + d) else UInt8.ofNat (87 + d)
/-- the k lowest digits. -/
def hexL (n : Nat) : Nat → List UInt8
  | 0 => []
  | k + 1 => hexC (n / 16 ^ k % 16) :: hexL n k
def hexS (n : Nat) : ByteArray := ⟨(hexL n 16).toArray⟩
theorem hexL_len (n : Nat) : ∀ k, (hexL n k).length = k
  | 0 => rfl
  | k + 1 => by rw [hexL, List.length_cons, hexL_len n k]
theorem hexL_at (n : Nat) : ∀ k j, j < k → (hexL n k)[j]? = some (hexC (n / 16 ^ (k - 1 - j) % 16))
  | 0, _, h => absurd h (by omega)
  | k + 1, 0, _ => by simp [hexL]
  | k + 1, j + 1, h => by
    rw [hexL, List.getElem?_cons_succ, hexL_at n k j (by omega)]
    rw [show k + 1 - 1 - (j + 1) = k - 1 - j by omega]
theorem hexS_size (n : Nat) : (hexS n).size = 16 := by
  show (hexL n 16).toArray.size = 16
  rw [List.size_toArray, hexL_len]
theorem hexC_lt (d : Nat) (h : d < 16) : (hexC d).toNat = if d < 10 then 48 + d else 87 + d := by
  unfold hexC
  split
  · rw [UInt8.toNat_ofNat']; omega
  · rw [UInt8.toNat_ofNat']; omega

/-- a digit's number. -/
def digB (c : Nat) : Option Nat := if 48 ≤ c ∧ c ≤ 57 then some (c - 48) else if 97 ≤ c ∧ c ≤ 102 then some (c - 87) else if 65 ≤ c ∧ c ≤ 70 then some (c - 55) else none
theorem digB_hexC (d : Nat) (h : d < 16) : digB (hexC d).toNat = some d := by
  rw [hexC_lt d h]
  unfold digB
  split
  · rw [if_pos (by omega)]; congr 1; omega
  · rw [if_neg (by omega), if_pos (by omega)]; congr 1; omega
theorem digB_lt {c d : Nat} (h : digB c = some d) : d < 16 := by
  unfold digB at h
  split at h
  · cases h; omega
  · split at h
    · cases h; omega
    · split at h
      · cases h; omega
      · cases h
def byteAt (s : ByteArray) (i : Nat) : Nat := (s.data.toList.getD i 0).toNat
/-- what is read from place i on, k digits being wanted: the number, and where it is wrong (or -1). -/
def rdFrom (s : ByteArray) : Nat → Nat → Nat → Nat × Int
  | 0, _, n => if 16 < s.size then (0, 16) else (n, -1)
  | k + 1, i, n => if s.size ≤ i then (0, (s.size : Int)) else match digB (byteAt s i) with
    | none => (0, (i : Int))
    | some d => rdFrom s k (i + 1) (n * 16 + d)
def rdV (s : ByteArray) : Nat × Int := rdFrom s 16 0 0
theorem rd_hex (n : Nat) : ∀ k, k ≤ 16 → rdFrom (hexS n) k (16 - k) (n / 16 ^ k) = (n, -1)
  | 0, _ => by
    rw [rdFrom, hexS_size]
    simp
  | k + 1, h => by
    have hb : byteAt (hexS n) (16 - (k + 1)) = (hexC (n / 16 ^ k % 16)).toNat := by
      unfold byteAt
      show (((hexL n 16).toArray.toList.getD (16 - (k + 1)) 0)).toNat = _
      have e := hexL_at n 16 (16 - (k + 1)) (by omega)
      rw [show 16 - 1 - (16 - (k + 1)) = k by omega] at e
      simp only [List.getD, e, Option.getD_some]
    rw [rdFrom, hexS_size, if_neg (by omega), hb, digB_hexC _ (Nat.mod_lt _ (by decide))]
    simp only
    have e2 : n / 16 ^ (k + 1) * 16 + n / 16 ^ k % 16 = n / 16 ^ k := by
      rw [Nat.pow_succ, ← Nat.div_div_eq_div_mul]
      omega
    rw [e2, show 16 - (k + 1) + 1 = 16 - k by omega]
    exact rd_hex n k (by omega)
theorem rdV_hex (n : Nat) (h : n < 18446744073709551616) : rdV (hexS n) = (n, -1) := by
  have := rd_hex n 16 (Nat.le_refl _)
  rw [Nat.div_eq_of_lt (by rw [show (16 : Nat) ^ 16 = 18446744073709551616 by decide]; exact h)] at this
  exact this
/-- a fault's number is 0. -/
theorem rd_fault (s : ByteArray) : ∀ k i n, (rdFrom s k i n).2 ≠ -1 → (rdFrom s k i n).1 = 0 ∧ 0 ≤ (rdFrom s k i n).2
  | 0, i, n => by
    rw [rdFrom]
    split
    · intro _; exact ⟨rfl, by decide⟩
    · intro h; exact absurd rfl h
  | k + 1, i, n => by
    rw [rdFrom]
    split
    · intro _; exact ⟨rfl, by simp only; omega⟩
    · split
      · intro _; exact ⟨rfl, by simp only; omega⟩
      · exact rd_fault s k _ _
end Go.Proofs.YtekbhjacgdncbacDoor
