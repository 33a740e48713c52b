/-
  Pictures in rows: what came in. (cut out of FrStk)
-/
import Derived.Test.YtgmaganajfcpbaiDoorFrRef
import Derived.WalkSpells
namespace Go.Proofs.YtgmaganajfcpbaiDoor
open Go Go.RowKit

/-- pictures that came in. -/
structure PCame (w : World) (ad : Option Addr) (Ls : List Pic) : Prop where
  at_ : ∀ k, k < Ls.length → ∃ b off adk capk, ad = some ⟨b, off, none⟩ ∧ PicAt w b (off + k * 3) adk capk (Ls.getD k pic0) ∧ (Ls.getD k pic0).L.length * 8 ≤ 140737488355328
theorem PCame.below {w v : World} {ad : Option Addr} {Ls : List Pic} (h : PCame w ad Ls) (k : Below w.heap.size w v) : PCame v ad Ls := ⟨fun j hj => by
  obtain ⟨b, off, adk, capk, e, h1, h2⟩ := h.at_ j hj
  exact ⟨b, off, adk, capk, e, h1.below k, h2⟩⟩
theorem picE_range (p : Pic) : picE p = 0 ∨ picE p = 2 ∨ picE p = 5 := by
  unfold picE
  split
  · simp
  · split
    · simp
    · split <;> simp
theorem firstE_zero : ∀ {Ls : List Pic}, (∀ j, j < Ls.length → picE (Ls.getD j pic0) = 0) → firstE Ls = 0
  | [], _ => rfl
  | p :: Ls, h => by
    have h0 : picE p = 0 := h 0 (by simp)
    unfold firstE
    rw [if_neg (fun k => k h0)]
    exact firstE_zero (fun j hj => h (j + 1) (by simp; omega))
theorem firstE_at : ∀ {Ls : List Pic} {i : Nat}, (∀ j, j < i → picE (Ls.getD j pic0) = 0) → i < Ls.length → picE (Ls.getD i pic0) ≠ 0 → firstE Ls = picE (Ls.getD i pic0)
  | [], i, _, hi, _ => absurd hi (Nat.not_lt_zero i)
  | p :: Ls, 0, _, _, hn => by
    have hn' : picE p ≠ 0 := hn
    unfold firstE
    rw [if_pos hn']
    rfl
  | p :: Ls, i + 1, h, hi, hn => by
    have h0 : picE p = 0 := h 0 (by omega)
    unfold firstE
    rw [if_neg (fun k => k h0)]
    exact firstE_at (fun j hj => h (j + 1) (by omega)) (by simpa using hi) hn
theorem size_at {Ls : List Pic} {W H : Int} : (Ls.all fun p => decide (p.wide = W) && decide (p.high = H)) = true ↔ ∀ j, j < Ls.length → (Ls.getD j pic0).wide = W ∧ (Ls.getD j pic0).high = H := by
  rw [List.all_eq_true]
  constructor
  · intro h j hj
    have e : Ls.getD j pic0 = Ls[j] := by simp [List.getD, List.getElem?_eq_getElem hj]
    have := h _ (List.getElem_mem hj)
    rw [e]
    simpa using this
  · intro h x hx
    obtain ⟨j, hj, rfl⟩ := List.getElem_of_mem hx
    have e : Ls.getD j pic0 = Ls[j] := by simp [List.getD, List.getElem?_eq_getElem hj]
    have := h j hj
    rw [e] at this
    simpa using this
def colV (Ls : List Pic) (k : Nat) : List Int := Ls.map fun p => p.L.getD k 0
def stkK (Ls : List Pic) (k : Nat) : List Int := (List.range k).map fun k => medV (colV Ls k)
theorem stkK_next (Ls : List Pic) (k : Nat) : stkK Ls (k + 1) = stkK Ls k ++ [medV (colV Ls k)] := by
  unfold stkK
  rw [List.range_succ, List.map_append]
  rfl
theorem stkK_length (Ls : List Pic) (k : Nat) : (stkK Ls k).length = k := by simp [stkK]
theorem stk_all (Ls : List Pic) : stkK Ls (Ls.getD 0 pic0).L.length = stackV Ls := rfl
theorem col_next {Ls : List Pic} {k i : Nat} (h : i < Ls.length) : colV (Ls.take (i + 1)) k = colV (Ls.take i) k ++ [(Ls.getD i pic0).L.getD k 0] := by
  unfold colV
  rw [List.take_add_one, List.getElem?_eq_getElem h, List.map_append]
  simp [List.getElem?_eq_getElem h]
theorem col_length (Ls : List Pic) (k : Nat) : (colV Ls k).length = Ls.length := by simp [colV]
theorem one_int (w : World) (x : Int) : ∀ k u, ([.int .i64 x] : List Value)[k]? = some u → (w.alloc (.cells #[.int .i64 x] 3)).cell? ((⟨w.heap.size, 0, none⟩ : Addr).add k) = some u := by
  intro k u hu
  have hk : k = 0 := by
    have := (List.getElem?_eq_some_iff.1 hu).1
    simpa using this
  subst hk
  rw [add_pl2, Nat.zero_add]
  rw [one_at (alloc_last w (.cells #[.int .i64 x] 3))]
  exact hu
end Go.Proofs.YtgmaganajfcpbaiDoor
