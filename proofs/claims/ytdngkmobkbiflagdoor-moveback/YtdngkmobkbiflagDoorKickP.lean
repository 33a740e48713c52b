/-
  A kick, body by body; a drift, body by body.
-/
import Derived.Test.YtdngkmobkbiflagDoorKickN
namespace Go.Proofs.YtdngkmobkbiflagDoor
open Go Go.RowKit

def cntQ (n a j k : Nat) : Nat := if k < a then n else if k = a then j else 0
def kq (l : List Bd) (s : Int) (a j k : Nat) : Bd := { l.getD k bd0 with sp := (l.getD k bd0).sp.add (Cl.mul s (forceK l (l.getD k bd0).at_ (cntQ l.length a j k))) }
theorem kq_at (l : List Bd) (s : Int) (a j k : Nat) : (kq l s a j k).at_ = (l.getD k bd0).at_ := rfl
theorem kq_m (l : List Bd) (s : Int) (a j k : Nat) : (kq l s a j k).m = (l.getD k bd0).m := rfl
theorem kq_of {l : List Bd} {s : Int} {a j a' j' k : Nat} (h : cntQ l.length a j k = cntQ l.length a' j' k) : kq l s a j k = kq l s a' j' k := by
  unfold kq
  rw [h]
theorem kq_start (l : List Bd) (s : Int) (k : Nat) : kq l s 0 0 k = l.getD k bd0 := by
  have e : cntQ l.length 0 0 k = 0 := by
    unfold cntQ
    rw [if_neg (by omega)]
    split <;> rfl
  have h : forceK l (l.getD k bd0).at_ (cntQ l.length 0 0 k) = cl0 := by
    rw [e]
    rfl
  unfold kq
  rw [h, mul_zero, add_zero]
theorem kq_sp {l : List Bd} {s : Int} {a j : Nat} : (kq l s a (j + 1) a).sp = (kq l s a j a).sp.add (Cl.mul (s * (l.getD j bd0).m) (pullV ((l.getD j bd0).at_.sub (l.getD a bd0).at_))) := by
  have e1 : cntQ l.length a (j + 1) a = j + 1 := by unfold cntQ; rw [if_neg (by omega), if_pos rfl]
  have e2 : cntQ l.length a j a = j := by unfold cntQ; rw [if_neg (by omega), if_pos rfl]
  unfold kq
  show (l.getD a bd0).sp.add (Cl.mul s (forceK l (l.getD a bd0).at_ (cntQ l.length a (j + 1) a))) = ((l.getD a bd0).sp.add (Cl.mul s (forceK l (l.getD a bd0).at_ (cntQ l.length a j a)))).add _
  rw [e1, e2]
  show (l.getD a bd0).sp.add (Cl.mul s ((forceK l (l.getD a bd0).at_ j).add (Cl.mul (l.getD j bd0).m (pullV ((l.getD j bd0).at_.sub (l.getD a bd0).at_))))) = _
  rw [mul_add', add_assoc']
theorem kq_next {l : List Bd} {s : Int} {a j : Nat} {X : Cl} (h : (kq l s a (j + 1) a).sp = X) (k : Nat) : updB (kq l s a j) a { kq l s a j a with sp := X } k = kq l s a (j + 1) k := by
  by_cases e : k = a
  · subst e
    rw [updB_same, ← h]
    rfl
  · rw [updB_other e]
    refine kq_of ?_
    unfold cntQ
    by_cases b : k < a
    · rw [if_pos b, if_pos b]
    · rw [if_neg b, if_neg b, if_neg e, if_neg e]
theorem kq_row (l : List Bd) (s : Int) (a k : Nat) : kq l s a l.length k = kq l s (a + 1) 0 k := by
  refine kq_of ?_
  unfold cntQ
  by_cases b : k < a
  · rw [if_pos b, if_pos (by omega)]
  · rw [if_neg b]
    by_cases c : k = a
    · rw [if_pos c, if_pos (by omega)]
    · rw [if_neg c, if_neg (by omega)]
      split <;> rfl
theorem kq_end {l : List Bd} {s : Int} {k : Nat} (hk : k < l.length) : kq l s l.length 0 k = (kick s l).getD k bd0 := by
  unfold kick
  rw [getD_map l hk]
  unfold kq force cntQ
  rw [if_pos hk]
theorem cntQ_le {n a j k : Nat} (h : j ≤ n) : cntQ n a j k ≤ n := by
  unfold cntQ
  split
  · omega
  · split <;> omega
theorem kq_size {l : List Bd} {s C : Int} (hs : s = 1 ∨ s = -1) (hm : ∀ j, 0 ≤ (l.getD j bd0).m ∧ (l.getD j bd0).m ≤ 65536) {a j k : Nat} (hl : l.length ≤ 12) (hj : j ≤ l.length) (hc : (l.getD k bd0).sp.In C) : (kq l s a j k).sp.In (C + 3458764513820540928) := by
  have hn := cntQ_le (n := l.length) (a := a) (k := k) hj
  have q := forceK_size hm (l.getD k bd0).at_ (cntQ l.length a j k)
  have b : ((cntQ l.length a j k : Nat) : Int) * 288230376151711744 ≤ 3458764513820540928 := by omega
  unfold kq
  generalize forceK l (l.getD k bd0).at_ (cntQ l.length a j k) = F at *
  obtain ⟨q1, q2, q3, q4, q5, q6⟩ := q
  obtain ⟨c1, c2, c3, c4, c5, c6⟩ := hc
  rcases hs with rfl | rfl
  all_goals
    refine ⟨?_, ?_, ?_, ?_, ?_, ?_⟩
    all_goals
      simp only [Cl.add, Cl.mul]
      omega
/-! a drift -/
def dq (l : List Bd) (s : Int) (a k : Nat) : Bd := if k < a then { l.getD k bd0 with at_ := (l.getD k bd0).at_.add (Cl.mul s (l.getD k bd0).sp) } else l.getD k bd0
theorem dq_start (l : List Bd) (s : Int) (k : Nat) : dq l s 0 k = l.getD k bd0 := by
  unfold dq
  rw [if_neg (by omega)]
theorem dq_here (l : List Bd) (s : Int) (a : Nat) : dq l s a a = l.getD a bd0 := by
  unfold dq
  rw [if_neg (by omega)]
theorem dq_next (l : List Bd) (s : Int) (a k : Nat) : updB (dq l s a) a { l.getD a bd0 with at_ := (l.getD a bd0).at_.add (Cl.mul s (l.getD a bd0).sp) } k = dq l s (a + 1) k := by
  by_cases e : k = a
  · subst e
    rw [updB_same]
    unfold dq
    rw [if_pos (by omega)]
  · rw [updB_other e]
    unfold dq
    by_cases b : k < a
    · rw [if_pos b, if_pos (by omega)]
    · rw [if_neg b, if_neg (by omega)]
theorem dq_end {l : List Bd} {s : Int} {k : Nat} (hk : k < l.length) : dq l s l.length k = (drift s l).getD k bd0 := by
  unfold drift
  rw [getD_map l hk]
  unfold dq
  rw [if_pos hk]
/-! of one block alone something is written -/
structure Chg (g : Nat) (w w' : World) : Prop where
  os : w'.os = w.os
  tape : w'.tape = w.tape
  output : w'.output = w.output
  size : w.heap.size ≤ w'.heap.size
  block : ∀ k, k < w.heap.size → k ≠ g → w'.heap[k]? = w.heap[k]?
theorem Chg.refl (g : Nat) (w : World) : Chg g w w := ⟨rfl, rfl, rfl, Nat.le_refl _, fun _ _ _ => rfl⟩
theorem Chg.trans {g : Nat} {a b c : World} (h : Chg g a b) (k : Chg g b c) : Chg g a c :=
  ⟨k.os.trans h.os, k.tape.trans h.tape, k.output.trans h.output, Nat.le_trans h.size k.size, fun i hi hn => (k.block i (Nat.lt_of_lt_of_le hi h.size) hn).trans (h.block i hi hn)⟩
theorem Chg.of {g : Nat} {w v : World} (h : Below w.heap.size w v) : Chg g w v := ⟨h.os, h.tape, h.output, h.size, fun k hk _ => h.block k hk⟩
theorem Chg.go {g : Nat} {w v u : World} (h : Chg g w v) (k : Below v.heap.size v u) : Chg g w u := h.trans (Chg.of k)
theorem Chg.set {g o : Nat} {w v : World} (h : Chg g w v) (p : Cl) : Chg g w (set3c v g o p) := by
  refine h.trans ⟨rfl, rfl, rfl, ?_, fun k _ hn => set3c_blk hn⟩
  rw [set3c_size]
  exact Nat.le_refl _
theorem Chg.below {g B : Nat} {w v u : World} (h : Below B w v) (k : Chg g v u) (hB : B ≤ g) (hv : B ≤ v.heap.size) : Below B w u :=
  h.trans ⟨k.os, k.tape, k.output, k.size, fun i hi => k.block i (by omega) (by omega)⟩
theorem Chg.blk {g b : Nat} {w v : World} {o : Obj} (h : Chg g w v) (k : w.heap[b]? = some o) (hb : b ≠ g) : v.heap[b]? = some o := (h.block b (ltB k) hb).trans k
/-- a slice whose bodies may be written: none, or those of the block g. -/
def OSl (w : World) (g : Nat) (ad : Option Addr) (n : Nat) (f : Nat → Bd) : Prop := (ad = none ∧ n = 0) ∨ (ad = some ⟨g, 0, none⟩ ∧ FOwn w g n f)
theorem OSl.below {w v : World} {g n : Nat} {ad : Option Addr} {f : Nat → Bd} (h : OSl w g ad n f) (k : Below w.heap.size w v) : OSl v g ad n f := by
  rcases h with h | ⟨h1, h2⟩
  · exact .inl h
  · exact .inr ⟨h1, h2.below k h2.lt⟩
theorem OSl.congr {w : World} {g n : Nat} {ad : Option Addr} {f f' : Nat → Bd} (h : OSl w g ad n f) (k : ∀ j, j < n → f j = f' j) : OSl w g ad n f' := by
  rcases h with h | ⟨h1, h2⟩
  · exact .inl h
  · exact .inr ⟨h1, h2.congr k⟩
theorem OSl.came {w : World} {g : Nat} {ad : Option Addr} {L : List Bd} (h : OSl w g ad L.length (fun j => L.getD j bd0)) : BCame w ad L := by
  rcases h with ⟨_, h2⟩ | ⟨h1, h2⟩
  · exact ⟨fun k hk => absurd hk (by omega)⟩
  · exact ⟨fun k hk => ⟨g, 0, h1, h2.lt, by rw [Nat.zero_add]; exact h2.at_ k hk⟩⟩
end Go.Proofs.YtdngkmobkbiflagDoor
