/-
  A log's bytes and what is read of them. Nothing of the program.
-/
import Derived.Test.YtfonpobdnhifganKitA
namespace Go.Proofs.Ytfonpobdnhifgan
open Go Go.RowKit

abbrev Bs := List UInt8
/-- what is found in a picture. -/
structure Res where
  i : Int
  s : Int
  l : Int
def res0 : Res := ⟨0, 0, 0⟩
/-- a number of 64 bits without a sign. -/
def u64 (n : Int) : Nat := (n % 18446744073709551616).toNat
def i64 (n : Nat) : Int := if n < 9223372036854775808 then (n : Int) else (n : Int) - 18446744073709551616
def in64 (n : Int) : Prop := -9223372036854775808 ≤ n ∧ n ≤ 9223372036854775807
def Res.in (r : Res) : Prop := in64 r.i ∧ in64 r.s ∧ in64 r.l
/-- bytes, the low one first. -/
def leB : Nat → Nat → Bs
  | 0, _ => []
  | k + 1, n => UInt8.ofNat (n % 256) :: leB k (n / 256)
def unLe : Bs → Nat
  | [] => 0
  | b :: l => b.toNat + 256 * unLe l
def sumB (s : Nat) : Bs → Nat
  | [] => s
  | b :: l => sumB ((s * 31 + b.toNat) % 4294967296) l
def recB (r : Res) : Bs := leB 8 (u64 r.i) ++ (leB 8 (u64 r.s) ++ leB 8 (u64 r.l))
/-- the sum behind a result, the one ahead known. -/
def chk (a : Bs) (r : Res) : Bs := leB 4 (sumB (sumB 0 a) (recB r))
def logF (a : Bs) : List Res → Bs
  | [] => []
  | r :: l => recB r ++ (chk a r ++ logF (chk a r) l)
def z4 : Bs := [0, 0, 0, 0]
def logV (l : List Res) : Bs := logF z4 l
/-- the last sum. -/
def lastF (a : Bs) : List Res → Bs
  | [] => a
  | r :: l => lastF (chk a r) l
theorem leB_len : ∀ k n, (leB k n).length = k
  | 0, _ => rfl
  | k + 1, n => by
    show (leB k (n / 256)).length + 1 = k + 1
    rw [leB_len k]
theorem recB_len (r : Res) : (recB r).length = 24 := by
  unfold recB
  simp [leB_len]
theorem chk_len (a : Bs) (r : Res) : (chk a r).length = 4 := leB_len _ _
theorem logF_len : ∀ (l : List Res) (a : Bs), (logF a l).length = 28 * l.length
  | [], _ => rfl
  | r :: l, a => by
    show (recB r ++ (chk a r ++ logF (chk a r) l)).length = 28 * (l.length + 1)
    rw [List.length_append, List.length_append, recB_len, chk_len, logF_len l]
    omega
theorem logV_len (l : List Res) : (logV l).length = 28 * l.length := logF_len l z4
theorem logF_app : ∀ (l m : List Res) (a : Bs), logF a (l ++ m) = logF a l ++ logF (lastF a l) m
  | [], _, _ => rfl
  | r :: l, m, a => by
    show recB r ++ (chk a r ++ logF (chk a r) (l ++ m)) = (recB r ++ (chk a r ++ logF (chk a r) l)) ++ logF (lastF (chk a r) l) m
    rw [logF_app l m]
    simp
theorem logV_snoc (l : List Res) (r : Res) : logV (l ++ [r]) = logV l ++ (recB r ++ chk (lastF z4 l) r) := by
  unfold logV
  rw [logF_app]
  show logF z4 l ++ (recB r ++ (chk (lastF z4 l) r ++ [])) = _
  rw [List.append_nil]
theorem lastF_snoc : ∀ (l : List Res) (r : Res) (a : Bs), lastF a (l ++ [r]) = chk (lastF a l) r
  | [], _, _ => rfl
  | x :: l, r, a => lastF_snoc l r (chk a x)
theorem lastF_len : ∀ (l : List Res) (a : Bs), a.length = 4 → (lastF a l).length = 4
  | [], _, h => h
  | r :: l, a, _ => lastF_len l (chk a r) (chk_len a r)
theorem unLe_leB : ∀ k n, n < 256 ^ k → unLe (leB k n) = n
  | 0, n, h => by simp at h; subst h; rfl
  | k + 1, n, h => by
    show (UInt8.ofNat (n % 256)).toNat + 256 * unLe (leB k (n / 256)) = n
    have e : (UInt8.ofNat (n % 256)).toNat = n % 256 := by
      rw [UInt8.toNat_ofNat']
      exact Nat.mod_eq_of_lt (Nat.mod_lt _ (by decide))
    rw [e, unLe_leB k (n / 256) (by rw [Nat.pow_succ] at h; exact Nat.div_lt_of_lt_mul (by rw [Nat.mul_comm]; exact h))]
    omega
theorem u64_lt (n : Int) : u64 n < 18446744073709551616 := by unfold u64; omega
theorem i64_u64 {n : Int} (h : in64 n) : i64 (u64 n) = n := by
  unfold in64 at h
  unfold i64 u64
  split <;> omega
theorem unLe_u64 (n : Int) : unLe (leB 8 (u64 n)) = u64 n := unLe_leB 8 _ (by have := u64_lt n; simpa using this)
/-- a result out of 24 bytes. -/
def resAt (b : Bs) : Res := ⟨i64 (unLe (b.take 8)), i64 (unLe ((b.drop 8).take 8)), i64 (unLe ((b.drop 16).take 8))⟩
theorem resAt_rec {r : Res} (h : r.in) (t : Bs) : resAt (recB r ++ t) = r := by
  obtain ⟨i, s, l⟩ := r
  obtain ⟨h1, h2, h3⟩ := h
  simp only at h1 h2 h3
  unfold resAt recB
  simp only
  have e1 : ((leB 8 (u64 i) ++ (leB 8 (u64 s) ++ leB 8 (u64 l))) ++ t).take 8 = leB 8 (u64 i) := by
    rw [List.append_assoc, List.take_append_of_le_length (by rw [leB_len]; exact Nat.le_refl _), List.take_of_length_le (by rw [leB_len]; exact Nat.le_refl _)]
  have e2 : (((leB 8 (u64 i) ++ (leB 8 (u64 s) ++ leB 8 (u64 l))) ++ t).drop 8).take 8 = leB 8 (u64 s) := by
    rw [List.append_assoc, List.drop_append_of_le_length (by rw [leB_len]; exact Nat.le_refl _), List.drop_of_length_le (by rw [leB_len]; exact Nat.le_refl _), List.nil_append, List.append_assoc, List.take_append_of_le_length (by rw [leB_len]; exact Nat.le_refl _), List.take_of_length_le (by rw [leB_len]; exact Nat.le_refl _)]
  have e3 : (((leB 8 (u64 i) ++ (leB 8 (u64 s) ++ leB 8 (u64 l))) ++ t).drop 16).take 8 = leB 8 (u64 l) := by
    have : (leB 8 (u64 i) ++ (leB 8 (u64 s) ++ leB 8 (u64 l))) ++ t = (leB 8 (u64 i) ++ leB 8 (u64 s)) ++ (leB 8 (u64 l) ++ t) := by simp
    rw [this, List.drop_append_of_le_length (by simp [leB_len]), List.drop_of_length_le (by simp [leB_len]), List.nil_append, List.take_append_of_le_length (by rw [leB_len]; exact Nat.le_refl _), List.take_of_length_le (by rw [leB_len]; exact Nat.le_refl _)]
  rw [e1, e2, e3, unLe_u64, unLe_u64, unLe_u64, i64_u64 h1, i64_u64 h2, i64_u64 h3]
/-- the next result of a log's bytes, k are read. -/
def nxB (b : Bs) (k : Nat) : Bs := (b.drop (28 * k)).take 24
def resF (b : Bs) : Nat → Nat → List Res → List Res
  | 0, _, out => out
  | f + 1, k, out => if 28 * (k + 1) ≤ b.length then (if logV (out ++ [resAt (nxB b k)]) = b.take (28 * (k + 1)) then resF b f (k + 1) (out ++ [resAt (nxB b k)]) else out) else out
/-- as many results as are whole and right. -/
def resV (b : Bs) : List Res := resF b (b.length + 1) 0 []
/-- what is read of a log's bytes up to some byte: all that is whole. -/
theorem res_cut {l : List Res} (hl : ∀ r ∈ l, r.in) {c : Nat} (hc : c ≤ 28 * l.length) : resV ((logV l).take c) = l.take (c / 28) := by
  have hlen : ((logV l).take c).length = c := by rw [List.length_take, logV_len]; omega
  have key : ∀ f k, k ≤ c / 28 → c / 28 < k + f → resF ((logV l).take c) f k (l.take k) = l.take (c / 28) := by
    intro f
    induction f with
    | zero => intro k h1 h2; omega
    | succ f ih =>
      intro k h1 h2
      unfold resF
      rw [hlen]
      by_cases q : 28 * (k + 1) ≤ c
      · rw [if_pos q]
        have hk : k < l.length := by omega
        have e0 : l.take (k + 1) = l.take k ++ [l[k]] := by rw [List.take_add_one, List.getElem?_eq_getElem hk]; rfl
        have eT : ∀ j, j ≤ l.length → (logV l).take (28 * j) = logV (l.take j) := by
          intro j hj
          have : logV l = logV (l.take j) ++ logF (lastF z4 (l.take j)) (l.drop j) := by
            unfold logV
            rw [← logF_app, List.take_append_drop]
          rw [this, List.take_append_of_le_length (by rw [logV_len, List.length_take]; omega), List.take_of_length_le (by rw [logV_len, List.length_take]; omega)]
        have e1 : nxB ((logV l).take c) k = recB l[k] := by
          unfold nxB
          rw [List.drop_take, List.take_take]
          have h3 : min 24 (c - 28 * k) = 24 := by omega
          rw [h3]
          have : logV l = logV (l.take k) ++ logF (lastF z4 (l.take k)) (l.drop k) := by
            unfold logV
            rw [← logF_app, List.take_append_drop]
          have hlk : (logV (l.take k)).length = 28 * k := by rw [logV_len, List.length_take]; omega
          rw [this, List.drop_append_of_le_length (by omega), List.drop_of_length_le (by omega), List.nil_append, List.drop_eq_getElem_cons hk]
          show (recB l[k] ++ _).take 24 = _
          rw [List.take_append_of_le_length (by rw [recB_len]; exact Nat.le_refl _), List.take_of_length_le (by rw [recB_len]; exact Nat.le_refl _)]
        have e2 : resAt (nxB ((logV l).take c) k) = l[k] := by
          rw [e1]
          have := resAt_rec (hl l[k] (List.getElem_mem hk)) []
          rwa [List.append_nil] at this
        rw [e2, ← e0]
        have e3 : ((logV l).take c).take (28 * (k + 1)) = logV (l.take (k + 1)) := by
          rw [List.take_take, Nat.min_eq_left q, eT (k + 1) (by omega)]
        rw [e3, if_pos rfl]
        exact ih (k + 1) (by omega) (by omega)
      · rw [if_neg q]
        have : k = c / 28 := by omega
        rw [this]
  have := key (((logV l).take c).length + 1) 0 (by omega) (by rw [hlen]; omega)
  simpa [resV] using this
end Go.Proofs.Ytfonpobdnhifgan
