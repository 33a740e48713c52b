/-
  Files: the document's bytes, and what is read of them. Nothing of the program.
-/
import Derived.Test.YtncbmkflilcdgaiGreatDoorFrP
namespace Go.Proofs.YtncbmkflilcdgaiGreatDoor

abbrev Bs := List UInt8
structure Crd where
  name : Bs
  value : Bs
deriving DecidableEq
def crd0 : Crd := ⟨[], []⟩
def nameC (c : UInt8) : Bool := (decide (65 ≤ c) && decide (c ≤ 90)) || (decide (48 ≤ c) && decide (c ≤ 57)) || c == 45 || c == 95
def ownNames : List Bs := [[83, 73, 77, 80, 76, 69], [66, 73, 84, 80, 73, 88], [78, 65, 88, 73, 83], [78, 65, 88, 73, 83, 49], [78, 65, 88, 73, 83, 50], [66, 90, 69, 82, 79], [69, 78, 68]]
def nameOk (L : List Crd) (i : Nat) (n : Bs) : Bool := decide (1 ≤ n.length) && decide (n.length ≤ 8) && n.all nameC && ownNames.all (fun o => o != n) && (L.take i).all (fun c => c.name != n)
def valC (c : UInt8) : Bool := decide (32 ≤ c) && decide (c ≤ 126)
def valOk (v : Bs) : Bool := decide (v.length ≤ 70) && (v.head? != some 32) && (v.getLast? != some 32) && v.all valC
def cardsE (L : List Crd) : Int := if 100 < L.length then 2 else if (List.range L.length).all (fun i => nameOk L i (L.getD i crd0).name) = false then 10 else if L.all (fun c => valOk c.value) = false then 1 else 0
def blanks (n : Nat) : Bs := List.replicate n 32
def rowV (name value : Bs) : Bs := name ++ blanks (8 - name.length) ++ [61, 32] ++ value ++ blanks (70 - value.length)
def dg (n : Nat) : UInt8 := UInt8.ofNat (48 + n % 10)
/-- decimal digits of a side. -/
def dec3 (n : Nat) : Bs := if n < 10 then [dg n] else if n < 100 then [dg (n / 10), dg n] else [dg (n / 100), dg (n / 10), dg n]
def blocksV (n : Nat) : Nat := (n + 2879) / 2880 * 2880
def padV (n : Nat) (x : UInt8) (b : Bs) : Bs := b ++ List.replicate (n - b.length) x
def hi8 (n : Nat) : UInt8 := UInt8.ofNat ((n + 32768) % 65536 / 256)
def lo8 (n : Nat) : UInt8 := UInt8.ofNat ((n + 32768) % 65536 % 256)
/-- the first six cards. -/
def six (p : Pic) : List Crd := [⟨[83, 73, 77, 80, 76, 69], [84]⟩, ⟨[66, 73, 84, 80, 73, 88], [49, 54]⟩, ⟨[78, 65, 88, 73, 83], [50]⟩, ⟨[78, 65, 88, 73, 83, 49], dec3 p.wide.toNat⟩, ⟨[78, 65, 88, 73, 83, 50], dec3 p.high.toNat⟩, ⟨[66, 90, 69, 82, 79], [51, 50, 55, 54, 56]⟩]
def rowsV (L : List Crd) : Bs := (L.map fun c => rowV c.name c.value).flatten
def headV (p : Pic) (L : List Crd) : Bs := rowsV (six p ++ L) ++ [69, 78, 68]
/-- the counts of the first k pixels, as they are written: from the last row up. -/
def pixAt (p : Pic) (k : Nat) : Nat := (p.L.getD ((p.high.toNat - 1 - k / p.wide.toNat) * p.wide.toNat + k % p.wide.toNat) 0).toNat
def dataV (p : Pic) (k : Nat) : Bs := ((List.range k).map fun j => [hi8 (pixAt p j), lo8 (pixAt p j)]).flatten
def fileE (p : Pic) (L : List Crd) : Int := if picE p = 0 then cardsE L else picE p
def fullHead (p : Pic) (L : List Crd) : Bs := padV (blocksV (headV p L).length) 32 (headV p L)
def bodyV (p : Pic) (L : List Crd) : Bs := fullHead p L ++ dataV p p.L.length
def fileV (p : Pic) (L : List Crd) : Bs := padV (blocksV (bodyV p L).length) 0 (bodyV p L)
/-! what is read -/
def numV : Bs → Nat → Nat
  | [], n => n
  | c :: r, n => if c < 48 ∨ 57 < c ∨ 100000 < n then 0 else numV r (n * 10 + (c.toNat - 48))
def trimV (b : Bs) : Bs := (b.reverse.dropWhile (· == 32)).reverse
def cardAt (b : Bs) (k : Nat) : Crd := ⟨trimV ((b.drop (80 * k)).take 8), trimV ((b.drop (80 * k + 10)).take 70)⟩
def endB (b : Bs) (k : Nat) : Bool := decide (b.length < 80 * k + 80) || ((cardAt b k).name == [69, 78, 68])
def stopV (b : Bs) : Nat → Nat → Nat
  | 0, k => k
  | f + 1, k => if endB b k then k else stopV b f (k + 1)
def cardsOf (b : Bs) (k : Nat) : List Crd := (List.range k).map (cardAt b)
def pixOf (b : Bs) (at_ j : Nat) : Int := ((((b.getD (at_ + 2 * j) 0).toNat * 256 + (b.getD (at_ + 2 * j + 1) 0).toNat + 32768) % 65536 : Nat) : Int)
def picOf (b : Bs) (at_ W H : Nat) : Pic := ⟨W, H, (List.range (W * H)).map fun i => pixOf b at_ ((H - 1 - i / W) * W + i % W)⟩
/-- what is read of bytes: an error's number, the picture, the cards. -/
def readV (b : Bs) : Int × Pic × List Crd :=
  if 400000 < b.length then (2, pic0, [])
  else if 106 < stopV b 107 0 ∨ stopV b 107 0 < 6 then (8, pic0, [])
  else if 256 < numV (cardAt b 3).value 0 ∨ 256 < numV (cardAt b 4).value 0 ∨ b.length < blocksV (80 * stopV b 107 0 + 80) + 2 * numV (cardAt b 3).value 0 * numV (cardAt b 4).value 0 then (8, pic0, [])
  else if fileE (picOf b (blocksV (80 * stopV b 107 0 + 80)) (numV (cardAt b 3).value 0) (numV (cardAt b 4).value 0)) ((cardsOf b (stopV b 107 0)).drop 6) ≠ 0 ∨ fileV (picOf b (blocksV (80 * stopV b 107 0 + 80)) (numV (cardAt b 3).value 0) (numV (cardAt b 4).value 0)) ((cardsOf b (stopV b 107 0)).drop 6) ≠ b then (8, pic0, [])
  else (0, picOf b (blocksV (80 * stopV b 107 0 + 80)) (numV (cardAt b 3).value 0) (numV (cardAt b 4).value 0), (cardsOf b (stopV b 107 0)).drop 6)
theorem read_back {b : Bs} {p : Pic} {L : List Crd} (h : readV b = (0, p, L)) : fileE p L = 0 ∧ fileV p L = b := by
  unfold readV at h
  split at h
  · cases h
  · split at h
    · cases h
    · split at h
      · cases h
      · split at h
        · cases h
        · rename_i q
          cases h
          exact ⟨Decidable.byContradiction fun k => q (.inl k), Decidable.byContradiction fun k => q (.inr k)⟩
/-! a card, written and read -/
theorem trim_blanks {v : Bs} (h : v.getLast? ≠ some 32) (n : Nat) : trimV (v ++ blanks n) = v := by
  unfold trimV blanks
  rw [List.reverse_append, List.reverse_replicate]
  have h1 : ∀ n, (List.replicate n (32 : UInt8) ++ v.reverse).dropWhile (· == 32) = v.reverse.dropWhile (· == 32) := by
    intro n
    induction n with
    | zero => rfl
    | succ n ih => rw [List.replicate_succ, List.cons_append, List.dropWhile_cons_of_pos (by decide)]; exact ih
  rw [h1]
  have h2 : v.reverse.dropWhile (· == 32) = v.reverse := by
    cases e : v.reverse with
    | nil => rfl
    | cons x r =>
      have : v.getLast? = some x := by rw [List.getLast?_eq_head?_reverse, e]; rfl
      rw [this] at h
      exact List.dropWhile_cons_of_neg (fun k => h (by rw [eq_of_beq k]))
  rw [h2, List.reverse_reverse]
theorem row_length {n v : Bs} (hn : n.length ≤ 8) (hv : v.length ≤ 70) : (rowV n v).length = 80 := by
  unfold rowV blanks
  simp only [List.length_append, List.length_replicate, List.length_cons, List.length_nil]
  omega
theorem row_name {n v r : Bs} (hn : n.length ≤ 8) : (rowV n v ++ r).take 8 = n ++ blanks (8 - n.length) := by
  unfold rowV
  rw [List.append_assoc, List.append_assoc, List.append_assoc]
  rw [List.take_append_of_le_length (by unfold blanks; simp; omega)]
  rw [List.take_of_length_le (by unfold blanks; simp; omega)]
theorem row_value {n v r : Bs} (hn : n.length ≤ 8) (hv : v.length ≤ 70) : ((rowV n v ++ r).drop 10).take 70 = v ++ blanks (70 - v.length) := by
  have e : rowV n v ++ r = (n ++ blanks (8 - n.length) ++ [61, 32]) ++ ((v ++ blanks (70 - v.length)) ++ r) := by
    unfold rowV
    simp only [List.append_assoc]
  have l1 : (n ++ blanks (8 - n.length) ++ [61, 32]).length = 10 := by unfold blanks; simp; omega
  rw [e, List.drop_append_of_le_length (by omega), List.drop_of_length_le (by omega), List.nil_append]
  have l2 : (v ++ blanks (70 - v.length)).length = 70 := by unfold blanks; simp; omega
  rw [List.take_append_of_le_length (by omega), List.take_of_length_le (by omega)]
/-- a card whose name and value may be written. -/
structure CrdOk (c : Crd) : Prop where
  n1 : c.name.length ≤ 8
  n2 : c.name.getLast? ≠ some 32
  v1 : c.value.length ≤ 70
  v2 : c.value.getLast? ≠ some 32
theorem rows_length {L : List Crd} (h : ∀ c ∈ L, CrdOk c) : (rowsV L).length = 80 * L.length := by
  unfold rowsV
  induction L with
  | nil => rfl
  | cons c L ih =>
    rw [List.map_cons, List.flatten_cons, List.length_append, ih (fun d hd => h d (List.mem_cons_of_mem _ hd)), row_length (h c List.mem_cons_self).n1 (h c List.mem_cons_self).v1, List.length_cons]
    omega
theorem rows_drop {L : List Crd} (h : ∀ c ∈ L, CrdOk c) (r : Bs) : ∀ k, k < L.length → ∃ s, (rowsV L ++ r).drop (80 * k) = rowV (L.getD k crd0).name (L.getD k crd0).value ++ s := by
  induction L with
  | nil => intro k hk; cases hk
  | cons c L ih =>
    intro k hk
    have hc := h c List.mem_cons_self
    have e : rowsV (c :: L) ++ r = rowV c.name c.value ++ (rowsV L ++ r) := by
      unfold rowsV
      rw [List.map_cons, List.flatten_cons, List.append_assoc]
    cases k with
    | zero => exact ⟨rowsV L ++ r, by rw [e]; rfl⟩
    | succ k =>
      obtain ⟨s, hs⟩ := ih (fun d hd => h d (List.mem_cons_of_mem _ hd)) k (by simpa using hk)
      refine ⟨s, ?_⟩
      have l := row_length hc.n1 hc.v1
      rw [e, show 80 * (k + 1) = (rowV c.name c.value).length + 80 * k by omega, List.drop_append]
      rw [List.drop_of_length_le (by omega), List.nil_append]
      rw [show (rowV c.name c.value).length + 80 * k - (rowV c.name c.value).length = 80 * k by omega]
      exact hs
theorem card_read {L : List Crd} (h : ∀ c ∈ L, CrdOk c) (r : Bs) {k : Nat} (hk : k < L.length) : cardAt (rowsV L ++ r) k = L.getD k crd0 := by
  obtain ⟨s, hs⟩ := rows_drop h r k hk
  have hc : CrdOk (L.getD k crd0) := by
    rw [show L.getD k crd0 = L[k] by simp [List.getD, List.getElem?_eq_getElem hk]]
    exact h _ (List.getElem_mem hk)
  unfold cardAt
  rw [hs, show 80 * k + 10 = 80 * k + 10 from rfl, ← List.drop_drop, hs, row_name hc.n1, row_value hc.n1 hc.v1, trim_blanks hc.n2, trim_blanks hc.v2]
/-! the head, written and read -/
theorem name_ok {L : List Crd} {i : Nat} {n : Bs} (h : nameOk L i n = true) : n.length ≤ 8 ∧ n.getLast? ≠ some 32 ∧ n ≠ [69, 78, 68] := by
  unfold nameOk at h
  simp only [Bool.and_eq_true, decide_eq_true_eq] at h
  obtain ⟨⟨⟨⟨h1, h2⟩, h3⟩, h4⟩, _⟩ := h
  refine ⟨h2, fun k => ?_, fun k => ?_⟩
  · have hm : (32 : UInt8) ∈ n := List.mem_of_getLast? k
    have := (List.all_eq_true.1 h3) _ hm
    revert this
    decide
  · subst k
    revert h4
    decide
theorem val_ok {v : Bs} (h : valOk v = true) : v.length ≤ 70 ∧ v.getLast? ≠ some 32 := by
  unfold valOk at h
  simp only [Bool.and_eq_true, decide_eq_true_eq] at h
  obtain ⟨⟨⟨h1, _⟩, h3⟩, _⟩ := h
  exact ⟨h1, fun k => by rw [k] at h3; revert h3; decide⟩
structure CardsOk (L : List Crd) : Prop where
  few : L.length ≤ 100
  names : ∀ i, i < L.length → nameOk L i (L.getD i crd0).name = true
  values : ∀ c ∈ L, valOk c.value = true
theorem cards_ok {L : List Crd} (h : cardsE L = 0) : CardsOk L := by
  unfold cardsE at h
  split at h
  · cases h
  · rename_i q1
    split at h
    · cases h
    · rename_i q2
      split at h
      · cases h
      · rename_i q3
        refine ⟨by omega, fun i hi => ?_, fun c hc => ?_⟩
        · have := (Bool.not_eq_false _).mp q2
          exact List.all_eq_true.1 this i (List.mem_range.2 hi)
        · exact List.all_eq_true.1 ((Bool.not_eq_false _).mp q3) c hc
theorem CardsOk.each {L : List Crd} (h : CardsOk L) : ∀ c ∈ L, CrdOk c ∧ c.name ≠ [69, 78, 68] := by
  intro c hc
  obtain ⟨i, hi, rfl⟩ := List.getElem_of_mem hc
  have hn := h.names i hi
  rw [show L.getD i crd0 = L[i] by simp [List.getD, List.getElem?_eq_getElem hi]] at hn
  obtain ⟨a1, a2, a3⟩ := name_ok hn
  obtain ⟨b1, b2⟩ := val_ok (h.values _ hc)
  exact ⟨⟨a1, a2, b1, b2⟩, a3⟩
set_option maxRecDepth 20000 in
theorem dec_num : ∀ n : Fin 257, numV (dec3 n) 0 = n ∧ (dec3 n).length ≤ 70 ∧ (dec3 n).getLast? ≠ some 32 := by decide +kernel
theorem six_ok {p : Pic} (h : PicOk p) : ∀ c ∈ six p, CrdOk c ∧ c.name ≠ [69, 78, 68] := by
  have h1 := dec_num ⟨p.wide.toNat, by have := h.w2; have := h.w1; omega⟩
  have h2 := dec_num ⟨p.high.toNat, by have := h.h2; have := h.h1; omega⟩
  intro c hc
  unfold six at hc
  simp only [List.mem_cons, List.not_mem_nil, or_false] at hc
  rcases hc with rfl | rfl | rfl | rfl | rfl | rfl
  · exact ⟨⟨by decide, by decide, by decide, by decide⟩, by decide⟩
  · exact ⟨⟨by decide, by decide, by decide, by decide⟩, by decide⟩
  · exact ⟨⟨by decide, by decide, by decide, by decide⟩, by decide⟩
  · exact ⟨⟨show List.length [78, 65, 88, 73, 83, 49] ≤ 8 by decide, show List.getLast? [(78 : UInt8), 65, 88, 73, 83, 49] ≠ some 32 by decide, h1.2.1, h1.2.2⟩, show [(78 : UInt8), 65, 88, 73, 83, 49] ≠ [69, 78, 68] by decide⟩
  · exact ⟨⟨show List.length [78, 65, 88, 73, 83, 50] ≤ 8 by decide, show List.getLast? [(78 : UInt8), 65, 88, 73, 83, 50] ≠ some 32 by decide, h2.2.1, h2.2.2⟩, show [(78 : UInt8), 65, 88, 73, 83, 50] ≠ [69, 78, 68] by decide⟩
  · exact ⟨⟨by decide, by decide, by decide, by decide⟩, by decide⟩
end Go.Proofs.YtncbmkflilcdgaiGreatDoor
