/-
  Names in order: what the library's sort leaves is what the document inserts one by one. The numbers of stars, their names in order.
-/
import Derived.Test.YtfonpobdnhifgamGreatDoorAtM6
import Derived.Test.YtfonpobdnhifgamGreatDoorShelf
import Derived.Sort.OwnSorted
namespace Go.Proofs.YtfonpobdnhifgamGreatDoor
open Go Go.RowKit Go.Sort

def insB (M : List ByteArray) : List ByteArray := M.foldl insV []
theorem insB_app (M : List ByteArray) (s : ByteArray) : insB (M ++ [s]) = insV (insB M) s := by
  unfold insB
  rw [List.foldl_append]
  rfl
theorem insV_perm (M : List ByteArray) (s : ByteArray) : (insV M s).Perm (s :: M) := by
  unfold insV
  refine List.perm_middle.trans ?_
  rw [List.takeWhile_append_dropWhile]
theorem less_is (a b : ByteArray) : lessB a b = decide (a.data.toList < b.data.toList) := by
  unfold lessB
  rw [bytesLess_eq, ByteArray.toList_eq, ByteArray.toList_eq]
def leN (a b : ByteArray) : Prop := a.data.toList ≤ b.data.toList
theorem tw_imp {p : ByteArray → Bool} : ∀ (M : List ByteArray) {a : ByteArray}, a ∈ M.takeWhile p → p a = true
  | [], _, h => by cases h
  | b :: M, a, h => by
    rw [List.takeWhile_cons] at h
    split at h
    · rename_i hb
      rcases List.mem_cons.1 h with rfl | h
      · exact hb
      · exact tw_imp M h
    · cases h
theorem insV_sorted {M : List ByteArray} (h : M.Pairwise leN) (s : ByteArray) : (insV M s).Pairwise leN := by
  unfold insV
  have hd := List.takeWhile_append_dropWhile (p := fun a => lessB a s) (l := M)
  have h' := h
  rw [← hd] at h'
  obtain ⟨p1, p2, p3⟩ := List.pairwise_append.1 h'
  have low : ∀ a ∈ M.takeWhile (fun a => lessB a s), leN a s := by
    intro a ha
    have := tw_imp M ha
    rw [less_is, decide_eq_true_eq] at this
    exact List.le_of_lt this
  have hi : ∀ a ∈ M.dropWhile (fun a => lessB a s), leN s a := by
    intro a ha
    cases hq : M.dropWhile (fun a => lessB a s) with
    | nil => rw [hq] at ha; cases ha
    | cons b l =>
      have hb : lessB b s = false := by
        have := List.head_dropWhile_not (p := fun a => lessB a s) (l := M) (by rw [hq]; simp)
        simpa [hq] using this
      have hbs : leN s b := by
        rw [less_is, decide_eq_false_iff_not] at hb
        exact List.not_lt.1 hb
      rw [hq] at ha p2
      rcases List.mem_cons.1 ha with rfl | ha
      · exact hbs
      · exact List.le_trans hbs ((List.pairwise_cons.1 p2).1 a ha)
  refine List.pairwise_append.2 ⟨p1, List.pairwise_cons.2 ⟨hi, p2⟩, fun a ha b hb => ?_⟩
  rcases List.mem_cons.1 hb with rfl | hb
  · exact low a ha
  · exact p3 a ha b hb
theorem insB_both (M : List ByteArray) : (insB M).Perm M ∧ (insB M).Pairwise leN := by
  have key : ∀ (M A : List ByteArray), A.Pairwise leN → (M.foldl insV A).Perm (M ++ A) ∧ (M.foldl insV A).Pairwise leN := by
    intro M
    induction M with
    | nil => intro A hA; exact ⟨List.Perm.refl _, hA⟩
    | cons s M ih =>
      intro A hA
      obtain ⟨h1, h2⟩ := ih (insV A s) (insV_sorted hA s)
      refine ⟨h1.trans ?_, h2⟩
      exact ((insV_perm A s).append_left M).trans List.perm_middle
  have := key M [] List.Pairwise.nil
  rw [List.append_nil] at this
  exact this
def bts (s : ByteArray) : List UInt8 := s.data.toList
theorem enc_bts (s : ByteArray) : encStr (bts s) = .string s := by simp [encStr, bts]
theorem enc_map (M : List ByteArray) : (M.map bts).map encStr = M.map Value.string := by
  rw [List.map_map]
  exact List.map_congr_left (fun s _ => enc_bts s)
theorem sort_is (M : List ByteArray) : ((M.map bts).mergeSort fun x y => decide (x ≤ y)) = (insB M).map bts := by
  obtain ⟨hp, hs⟩ := insB_both M
  have tr : ∀ a b c : List UInt8, decide (a ≤ b) = true → decide (b ≤ c) = true → decide (a ≤ c) = true := fun a b c h1 h2 => by simp only [decide_eq_true_eq] at *; exact List.le_trans h1 h2
  have tot : ∀ a b : List UInt8, (decide (a ≤ b) || decide (b ≤ a)) = true := fun a b => by simp only [Bool.or_eq_true, decide_eq_true_eq]; exact List.le_total a b
  refine List.Perm.eq_of_pairwise (le := fun a b => decide (a ≤ b) = true) (fun a b _ _ h1 h2 => ?_) (List.pairwise_mergeSort tr tot _) ?_ ((List.mergeSort_perm _ _).trans (hp.map bts).symm)
  · simp only [decide_eq_true_eq] at h1 h2
    exact List.le_antisymm h1 h2
  · rw [List.pairwise_map]
    exact hs.imp (fun {a b} (h : leN a b) => decide_eq_true (show bts a ≤ bts b from h))
/-- names are sorted. -/
theorem sortN_any {w : World} {B : Nat} {v : Value} {M : List ByteArray} (h : w.ownsRow B 9 1 v M.length (M.map Value.string)) (hB : B ≤ w.heap.size) (hl : M.length ≤ 4000) :
    Calls Tryz.prog 31 #[v] w fun r w' => r = .returned (.tuple #[]) ∧ w'.ownsRow B 9 1 v M.length ((insB M).map Value.string) ∧ Below B w w' := by
  have hlen : (insB M).length = M.length := (insB_both M).1.length_eq
  rcases h.2 with ⟨e, h0⟩ | ⟨g, cap, cur, e, hBg, hh, hn, hc, hsz, ht⟩
  · have hM : M = [] := List.length_eq_zero_iff.1 h0
    subst hM
    rw [e]
    refine (Tryz.slices_Sort_string_none none 0 w).mono ?_
    rintro r w' ⟨rfl, rfl⟩
    exact ⟨rfl, World.ownsRow_nil _ _ _ _, Below.refl _ _⟩
  · rw [e]
    have hl1 : (M.map bts).length = M.length := List.length_map ..
    have hlt := ltB hh
    have hH : Holds encStr w g 0 (M.map bts).toArray := holds_of_block hh (by rw [hl1, enc_map]; rw [Nat.mul_one] at ht; exact ht)
    have hc1 := Tryz.slices_Sort_string g 0 cap (M.map bts) w hH hlt (by rw [hl1]; omega)
    rw [hl1] at hc1
    refine hc1.mono ?_
    rintro r w' ⟨rfl, n, os, rfl⟩
    rw [sort_is]
    refine ⟨rfl, ?_, ?_⟩
    · have := ownsRow_sorted (w := w) (base := B) (g := g) (cap := cap) (n := n) (os := os) (ss := M.map bts) (ts := (insB M).map bts) (by rw [List.length_map, List.length_map, hlen]) hBg hh (by rw [hl1]; exact hn) hc (by rw [hsz])
      rw [hl1, enc_map] at this
      exact this
    · have g2 := grownBy_sorted (w := w) (g := g) (n := n) (os := os) ((insB M).map bts).toArray
      exact (Below.refl B w).grown g2 hB (fun k e => by injection e with e; omega)
end Go.Proofs.YtfonpobdnhifgamGreatDoor
namespace Go.Proofs.YtfonpobdnhifgamGreatDoor
open Go Go.RowKit

def nmAt (L : List En) (z : Int) : ByteArray := (L.getD z.toNat en0).nm
/-- the names of those of which p is so, in order. -/
theorem ixN {L : List En} {p : En → Bool} (F : Nat → List ByteArray) (h0 : F 0 = []) (hs : ∀ i, i < L.length → F (i + 1) = if p (L.getD i en0) then insV (F i) (L.getD i en0).nm else F i) : ∀ i, i ≤ L.length → F i = insB ((ixL L p i).map (nmAt L))
  | 0, _ => h0
  | i + 1, h => by
    rw [hs i (by omega), ixN F h0 hs i (by omega)]
    show _ = insB ((if p (L.getD i en0) then ixL L p i ++ [(i : Int)] else ixL L p i).map (nmAt L))
    split
    · rw [List.map_append, List.map_singleton, insB_app]
      unfold nmAt
      rw [Int.toNat_natCast]
    · rfl
theorem IRow.at {w : World} {base : Nat} {v : Value} {zs : List Int} (h : IRow w base v zs) : ∃ ad cap, v = .slice ad zs.length cap ∧ ∀ k, k < zs.length → ∃ b, ad = some ⟨b, 0, none⟩ ∧ b < w.heap.size ∧ w.cell? ⟨b, k, none⟩ = some (.int .i64 (zs.getD k 0)) := by
  rcases h.2 with ⟨e, h0⟩ | ⟨g, cap, cur, e, hB, hh, hn, hc, hsz, ht⟩
  · exact ⟨none, 0, by rw [e, h0], fun k hk => absurd hk (by omega)⟩
  · refine ⟨_, cap, e, fun k hk => ⟨g, rfl, ltB hh, ?_⟩⟩
    have h1 : (zs.map (Value.int .i64))[k]? = some (.int .i64 (zs.getD k 0)) := by
      rw [List.getElem?_map, List.getElem?_eq_getElem hk, List.getD_eq_getElem?_getD, List.getElem?_eq_getElem hk]
      rfl
    rw [← ht, List.getElem?_take, if_pos (by omega), Array.getElem?_toList] at h1
    simp [World.cell?, hh, h1]
theorem nm_get (L : List En) {zs : List Int} {k : Nat} (hk : k < zs.length) : (zs.map (nmAt L)).getD k ByteArray.empty = (L.getD (zs.getD k 0).toNat en0).nm := by
  have e : zs.getD k 0 = zs[k] := by rw [List.getD_eq_getElem?_getD, List.getElem?_eq_getElem hk]; rfl
  rw [e, List.getD_eq_getElem?_getD, List.getElem?_map, List.getElem?_eq_getElem hk]
  rfl
end Go.Proofs.YtfonpobdnhifgamGreatDoor
