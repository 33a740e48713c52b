/-
  One fitting more among those of a house: the library's Insert, by contract.
-/
import Derived.Test.YtoacdaemhcbbhaaDoorNsE
import Derived.Laws.IdiomCopy
import Derived.Laws.CopyRow
import Derived.Lib.AppendZerosOnto
import Derived.Lib.Overlaps
import Derived.Laws.Externs
import Derived.Laws.NewBlocks
namespace Go.Proofs.YtoacdaemhcbbhaaDoor
open Go Go.RowKit

/-- 'copy' of elements of two cells each into a row. -/
theorem run_copy_two {P : Program} (w : World) (dT sT ty elem : TypeId) (g o dLen dCap : Nat) (a : Addr) (sLen sCap m : Nat) (cur : Array Value) (t : TypeId) (cs : List Value)
    (hu : P.underlying dT = some (.slice elem)) (hs : (P.info? elem).map (·.size) = some 2) (hg : w.heap[g]? = some (.cells cur t (0, 0))) (hm : Nat.min sLen dLen = m) (hn : cs.length = m * 2)
    (hsrc : ∀ j v, cs[j]? = some v → w.cell? (a.add j) = some v) (hfit : o + cs.length ≤ cur.size) (h1 : ∀ v ∈ cs, v.oneCell' = true) :
    (Builtin.copy_ #[dT, sT] ty #[.slice (some ⟨g, o, none⟩) dLen dCap, .slice (some a) sLen sCap]).run P w = .ok (goInt m) (w.setRow g (cur.toList.take o ++ cs ++ cur.toList.drop (o + cs.length)).toArray) := by
  have hl := run_loadCells_list (P := P) w a cs hsrc
  have hst := run_storeCells_at P g o t cs 0 cur w hg (by simpa using hfit) h1
  cases hq : P.info? elem with
  | none => simp [hq] at hs
  | some i =>
    have hi : i.size = 2 := by simpa [hq] using hs
    rw [hn] at hl
    simp [Builtin.copy_, run_underlying hu, Builtin.lenOf, Builtin.firstCells, sizeOf, typeInfo, hq, hi, hm, hl, hst]
theorem flatFg_take : ∀ (L : List Fg) (k : Nat), flatFg (L.take k) = (flatFg L).take (k * 2)
  | L, 0 => by simp [flatFg]
  | [], k + 1 => by simp [flatFg]
  | q :: L, k + 1 => by
    rw [List.take_succ_cons]
    show valFg q ++ flatFg (L.take k) = (valFg q ++ flatFg L).take ((k + 1) * 2)
    rw [flatFg_take L k, List.take_append, show (valFg q).length = 2 from rfl, show (k + 1) * 2 - 2 = k * 2 by omega, List.take_of_length_le (show (valFg q).length ≤ (k + 1) * 2 by show 2 ≤ _; omega)]
theorem flatFg_drop : ∀ (L : List Fg) (k : Nat), flatFg (L.drop k) = (flatFg L).drop (k * 2)
  | L, 0 => by simp
  | [], k + 1 => by simp [flatFg]
  | q :: L, k + 1 => by
    rw [List.drop_succ_cons]
    show flatFg (L.drop k) = (valFg q ++ flatFg L).drop ((k + 1) * 2)
    rw [flatFg_drop L k, List.drop_append, show (valFg q).length = 2 from rfl, show (k + 1) * 2 - 2 = k * 2 by omega, List.drop_eq_nil_of_le (show (valFg q).length ≤ (k + 1) * 2 by show 2 ≤ _; omega), List.nil_append]
/-- a row with one fitting more. -/
def insF (X : List Fg) (k : Nat) (f : Fg) : List Fg := X.take k ++ f :: X.drop k
theorem insF_len (X : List Fg) {k : Nat} (hk : k ≤ X.length) (f : Fg) : (insF X k f).length = X.length + 1 := by
  unfold insF
  rw [List.length_append, List.length_cons, List.length_take, List.length_drop]
  omega
theorem insF_flat (X : List Fg) (k : Nat) (f : Fg) : flatFg (insF X k f) = flatFg (X.take k) ++ (valFg f ++ flatFg (X.drop k)) := by
  unfold insF
  rw [flatFg_append]
  rfl
theorem shift_row {c : List Value} {X : List Fg} {k n m : Nat} (f : Fg) (hn : X.length = n) (hk : k < n) (hc : c.take (n * 2) = flatFg X) (hl : c.length = m) (hm : (n + 1) * 2 ≤ m) :
    ∀ R1, R1 = c.take ((k + 1) * 2) ++ flatFg (X.drop k) ++ c.drop ((k + 1) * 2 + (flatFg (X.drop k)).length) →
    R1.length = m ∧ (R1.take (k * 2) ++ valFg f ++ R1.drop (k * 2 + (valFg f).length)).length = m ∧ (R1.take (k * 2) ++ valFg f ++ R1.drop (k * 2 + (valFg f).length)).take ((n + 1) * 2) = flatFg (insF X k f) := by
  rintro R1 rfl
  have hD : (flatFg (X.drop k)).length = (n - k) * 2 := by rw [flatFg_length, List.length_drop, hn]
  have ht : c.take (k * 2) = flatFg (X.take k) := by
    rw [flatFg_take, ← hc, List.take_take, Nat.min_eq_left (by omega)]
  have hT : (flatFg (X.take k)).length = k * 2 := by rw [flatFg_length, List.length_take, hn, Nat.min_eq_left (by omega)]
  have h2 : (valFg f).length = 2 := rfl
  have l1 : (c.take ((k + 1) * 2)).length = (k + 1) * 2 := by rw [List.length_take, hl]; omega
  have e1 : (c.take ((k + 1) * 2) ++ flatFg (X.drop k) ++ c.drop ((k + 1) * 2 + (flatFg (X.drop k)).length)).take (k * 2) = flatFg (X.take k) := by
    rw [List.append_assoc, List.take_append_of_le_length (by omega), List.take_take, Nat.min_eq_left (by omega), ht]
  have e2 : (c.take ((k + 1) * 2) ++ flatFg (X.drop k) ++ c.drop ((k + 1) * 2 + (flatFg (X.drop k)).length)).drop (k * 2 + (valFg f).length) = flatFg (X.drop k) ++ c.drop ((k + 1) * 2 + (flatFg (X.drop k)).length) := by
    rw [List.append_assoc, h2, show k * 2 + 2 = (c.take ((k + 1) * 2)).length by omega, List.drop_left]
  refine ⟨?_, ?_, ?_⟩
  · simp only [List.length_append, List.length_take, List.length_drop, hl, hD]
    omega
  · rw [e1, e2]
    simp only [List.length_append, List.length_drop, hT, h2, hD, hl]
    omega
  · rw [e1, e2, insF_flat, List.append_assoc, ← List.append_assoc (valFg f), ← List.append_assoc (flatFg (X.take k)), List.take_append_of_le_length (by simp only [List.length_append, hT, h2, hD]; omega), List.take_of_length_le (by simp only [List.length_append, hT, h2, hD]; omega)]
theorem grow_row {Z : List Value} {X : List Fg} {k n m : Nat} (f : Fg) (hn : X.length = n) (hk : k < n) (hl : (flatFg (X.take k) ++ Z).length = m) (hm : (n + 1) * 2 ≤ m) :
    ∀ R1, R1 = (flatFg (X.take k) ++ Z).take (k * 2) ++ valFg f ++ (flatFg (X.take k) ++ Z).drop (k * 2 + (valFg f).length) →
    R1.length = m ∧ (R1.take ((k + 1) * 2) ++ flatFg (X.drop k) ++ R1.drop ((k + 1) * 2 + (flatFg (X.drop k)).length)).length = m ∧ (R1.take ((k + 1) * 2) ++ flatFg (X.drop k) ++ R1.drop ((k + 1) * 2 + (flatFg (X.drop k)).length)).take ((n + 1) * 2) = flatFg (insF X k f) := by
  rintro R1 rfl
  have hD : (flatFg (X.drop k)).length = (n - k) * 2 := by rw [flatFg_length, List.length_drop, hn]
  have hT : (flatFg (X.take k)).length = k * 2 := by rw [flatFg_length, List.length_take, hn, Nat.min_eq_left (by omega)]
  have h2 : (valFg f).length = 2 := rfl
  have hZ : Z.length = m - k * 2 := by rw [List.length_append, hT] at hl; omega
  have e0 : (flatFg (X.take k) ++ Z).take (k * 2) = flatFg (X.take k) := by rw [← hT, List.take_left]
  have e00 : (flatFg (X.take k) ++ Z).drop (k * 2 + (valFg f).length) = Z.drop 2 := by
    rw [h2, ← hT, ← List.drop_drop, List.drop_left]
  rw [e0, e00]
  have e1 : (flatFg (X.take k) ++ valFg f ++ Z.drop 2).take ((k + 1) * 2) = flatFg (X.take k) ++ valFg f := by
    rw [show (k + 1) * 2 = (flatFg (X.take k) ++ valFg f).length by rw [List.length_append, hT, h2]; omega, List.take_left]
  rw [e1]
  refine ⟨?_, ?_, ?_⟩
  · simp only [List.length_append, List.length_drop, hT, h2, hZ]
    omega
  · simp only [List.length_append, List.length_drop, hT, h2, hZ, hD]
    omega
  · rw [insF_flat, List.take_append_of_le_length (by simp only [List.length_append, hT, h2, hD]; omega), List.take_of_length_le (by simp only [List.length_append, hT, h2, hD]; omega), List.append_assoc]
end Go.Proofs.YtoacdaemhcbbhaaDoor
