/-
  A log's bytes, read one behind the other by a running sum. Nothing of the program.
-/
import Derived.Test.YtfonpobdnhifganNgP
namespace Go.Proofs.Ytfonpobdnhifgan
open Go Go.RowKit

theorem leB_unLe : ∀ b : Bs, leB b.length (unLe b) = b
  | [] => rfl
  | x :: b => by
    show UInt8.ofNat ((x.toNat + 256 * unLe b) % 256) :: leB b.length ((x.toNat + 256 * unLe b) / 256) = x :: b
    have hx : x.toNat < 256 := x.toNat_lt
    have h1 : (x.toNat + 256 * unLe b) % 256 = x.toNat := by omega
    have h2 : (x.toNat + 256 * unLe b) / 256 = unLe b := by omega
    rw [h1, h2, leB_unLe b, UInt8.ofNat_toNat]
theorem unLe_bd : ∀ b : Bs, unLe b < 256 ^ b.length
  | [] => by simp [unLe]
  | x :: b => by
    have h := unLe_bd b
    have hx : x.toNat < 256 := x.toNat_lt
    show x.toNat + 256 * unLe b < 256 ^ (b.length + 1)
    rw [Nat.pow_succ]
    omega
theorem u64_i64 {n : Nat} (h : n < 18446744073709551616) : u64 (i64 n) = n := by
  unfold u64 i64
  split <;> omega
theorem part8 {x : Bs} (h : x.length = 8) : leB 8 (u64 (i64 (unLe x))) = x := by
  have := unLe_bd x
  rw [h] at this
  rw [u64_i64 (Nat.lt_of_lt_of_le this (by decide))]
  have e := leB_unLe x
  rwa [h] at e
theorem recB_resAt {x : Bs} (h : x.length = 24) : recB (resAt x) = x := by
  unfold recB resAt
  simp only
  rw [part8 (by rw [List.length_take]; omega), part8 (by rw [List.length_take, List.length_drop]; omega), part8 (by rw [List.length_take, List.length_drop]; omega)]
  have e3 : (x.drop 16).take 8 = x.drop 16 := List.take_of_length_le (by rw [List.length_drop]; omega)
  rw [e3]
  have e2 : (x.drop 8).take 8 ++ x.drop 16 = x.drop 8 := by
    have := List.take_append_drop 8 (x.drop 8)
    rwa [List.drop_drop] at this
  rw [e2, List.take_append_drop]
/-- the sum of a result's bytes behind the sum ahead. -/
def sumN (s : Nat) (x : Bs) : Nat := sumB (sumB 0 (leB 4 s)) x
theorem sumB_bd : ∀ (b : Bs) (s : Nat), s < 4294967296 → sumB s b < 4294967296
  | [], _, h => h
  | _ :: b, _, _ => sumB_bd b _ (Nat.mod_lt _ (by decide))
theorem sumN_bd (s : Nat) (x : Bs) : sumN s x < 4294967296 := sumB_bd _ _ (sumB_bd _ _ (by decide))
/-- so far all was right. -/
structure LgAt (b : Bs) (k : Nat) (out : List Res) (s : Nat) : Prop where
  len : out.length = k
  log : logV out = b.take (28 * k)
  last : lastF z4 out = leB 4 s
  sum : s < 4294967296
theorem LgAt.start (b : Bs) : LgAt b 0 [] 0 := ⟨rfl, by simp [logV, logF], by decide, by decide⟩
theorem nxB_len {b : Bs} {k : Nat} (h : 28 * (k + 1) ≤ b.length) : (nxB b k).length = 24 := by
  unfold nxB
  rw [List.length_take, List.length_drop]
  omega
/-- the four bytes of the sum. -/
def cxB (b : Bs) (k : Nat) : Bs := (b.drop (28 * k + 24)).take 4
theorem cxB_len {b : Bs} {k : Nat} (h : 28 * (k + 1) ≤ b.length) : (cxB b k).length = 4 := by
  unfold cxB
  rw [List.length_take, List.length_drop]
  omega
theorem take_next {b : Bs} {k : Nat} : b.take (28 * (k + 1)) = b.take (28 * k) ++ (nxB b k ++ cxB b k) := by
  have e1 : b.take (28 * (k + 1)) = b.take (28 * k) ++ (b.drop (28 * k)).take 28 := by
    rw [show 28 * (k + 1) = 28 * k + 28 by omega, List.take_add]
  have e2 : (b.drop (28 * k)).take 28 = nxB b k ++ cxB b k := by
    unfold nxB cxB
    rw [show (28 : Nat) = 24 + 4 from rfl, List.take_add, List.drop_drop]
  rw [e1, e2]
theorem LgAt.next {b : Bs} {k : Nat} {out : List Res} {s : Nat} (h : LgAt b k out s) (hk : 28 * (k + 1) ≤ b.length) : logV (out ++ [resAt (nxB b k)]) = b.take (28 * (k + 1)) ↔ sumN s (nxB b k) = unLe (cxB b k) := by
  have hx := nxB_len hk
  have hc := cxB_len hk
  rw [logV_snoc, h.log, h.last, take_next, recB_resAt hx]
  unfold chk
  rw [recB_resAt hx]
  show _ ++ (nxB b k ++ leB 4 (sumN s (nxB b k))) = _ ↔ _
  have hs := sumN_bd s (nxB b k)
  constructor
  · intro e
    have e := List.append_cancel_left (List.append_cancel_left e)
    rw [← e, unLe_leB 4 _ (by simpa using hs)]
  · intro e
    rw [e]
    have := leB_unLe (cxB b k)
    rw [hc] at this
    rw [this]
theorem LgAt.go {b : Bs} {k : Nat} {out : List Res} {s : Nat} (h : LgAt b k out s) (hk : 28 * (k + 1) ≤ b.length) (e : sumN s (nxB b k) = unLe (cxB b k)) : LgAt b (k + 1) (out ++ [resAt (nxB b k)]) (sumN s (nxB b k)) := by
  refine ⟨by rw [List.length_append, h.len]; rfl, (h.next hk).2 e, ?_, sumN_bd _ _⟩
  rw [lastF_snoc, h.last]
  unfold chk
  rw [recB_resAt (nxB_len hk)]
  rfl
/-- what is read at last. -/
structure LgTo (b : Bs) (k : Nat) (out : List Res) : Prop where
  ex : ∃ f, b.length < f + 28 * k ∧ resF b f k out = resV b
theorem LgTo.start (b : Bs) : LgTo b 0 [] := ⟨b.length + 1, by omega, rfl⟩
theorem LgTo.go {b : Bs} {k : Nat} {out : List Res} (h : LgTo b k out) (hk : 28 * (k + 1) ≤ b.length) (e : logV (out ++ [resAt (nxB b k)]) = b.take (28 * (k + 1))) : LgTo b (k + 1) (out ++ [resAt (nxB b k)]) := by
  obtain ⟨f, h1, h2⟩ := h.ex
  cases f with
  | zero => omega
  | succ f =>
    unfold resF at h2
    rw [if_pos hk, if_pos e] at h2
    exact ⟨f, by omega, h2⟩
theorem LgTo.stop {b : Bs} {k : Nat} {out : List Res} (h : LgTo b k out) (hk : 28 * (k + 1) ≤ b.length → ¬ logV (out ++ [resAt (nxB b k)]) = b.take (28 * (k + 1))) : out = resV b := by
  obtain ⟨f, h1, h2⟩ := h.ex
  cases f with
  | zero => exact h2
  | succ f =>
    unfold resF at h2
    by_cases q : 28 * (k + 1) ≤ b.length
    · rwa [if_pos q, if_neg (hk q)] at h2
    · rwa [if_neg q] at h2
/-- a number's bytes from the i-th on. -/
theorem leB_split : ∀ (i k n : Nat), leB (i + k) n = leB i n ++ leB k (n / 256 ^ i)
  | 0, k, n => by
    rw [Nat.zero_add, Nat.pow_zero, Nat.div_one]
    rfl
  | i + 1, k, n => by
    rw [show i + 1 + k = (i + k) + 1 by omega]
    show UInt8.ofNat (n % 256) :: leB (i + k) (n / 256) = UInt8.ofNat (n % 256) :: (leB i (n / 256) ++ leB k (n / 256 ^ (i + 1)))
    rw [leB_split i k (n / 256), Nat.pow_succ', Nat.div_div_eq_div_mul]
theorem leB_next (i n : Nat) : leB (i + 1) n = leB i n ++ [UInt8.ofNat (n / 256 ^ i % 256)] := leB_split i 1 n
/-- the number of the first so many bytes. -/
theorem unLe_snoc : ∀ (b : Bs) (x : UInt8), unLe (b ++ [x]) = unLe b + x.toNat * 256 ^ b.length
  | [], x => by simp [unLe]
  | y :: b, x => by
    show y.toNat + 256 * unLe (b ++ [x]) = y.toNat + 256 * unLe b + x.toNat * 256 ^ (b.length + 1)
    rw [unLe_snoc b x, Nat.pow_succ, Nat.mul_add, ← Nat.mul_assoc x.toNat, Nat.mul_comm 256 (x.toNat * 256 ^ b.length)]
    omega
theorem unLe_or {b : Bs} {x : UInt8} : unLe b ||| (x.toNat * 256 ^ b.length) = unLe (b ++ [x]) := by
  have h := unLe_bd b
  have e : (256 : Nat) ^ b.length = 2 ^ (8 * b.length) := by rw [Nat.pow_mul]
  rw [unLe_snoc, Nat.or_comm, Nat.add_comm, e, Nat.mul_comm x.toNat]
  rw [e] at h
  exact (Nat.two_pow_add_eq_or_of_lt h x.toNat).symm
end Go.Proofs.Ytfonpobdnhifgan
