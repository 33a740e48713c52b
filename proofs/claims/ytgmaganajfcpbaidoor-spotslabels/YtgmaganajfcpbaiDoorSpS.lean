/-
  Stars out of parts: their boxes, light and middles; in order. Nothing of the program.
-/
import Derived.Test.YtgmaganajfcpbaiDoorSpG
import Derived.Test.YtgmaganajfcpbaiDoorSpL
namespace Go.Proofs.YtgmaganajfcpbaiDoor

/-- what is known of a part: its box, its pixels, its light, the sums of its middles; its number. -/
structure Sp where
  le : Int
  tp : Int
  ri : Int
  lo : Int
  px : Int
  li : Int
  sx : Int
  sy : Int
  k : Nat
def sp0 (W H k : Nat) : Sp := ⟨W, H, -1, -1, 0, 0, 0, 0, k⟩
/-- one pixel more. -/
def spStep (W : Nat) (ov : List Int) (s : Sp) (i : Nat) : Sp :=
  ⟨min s.le (i % W : Nat), min s.tp (i / W : Nat), max s.ri (i % W : Nat), max s.lo (i / W : Nat), s.px + 1, s.li + ov.getD i 0, s.sx + (1024 * ((i % W : Nat) : Int) + 512) * ov.getD i 0, s.sy + (1024 * ((i / W : Nat) : Int) + 512) * ov.getD i 0, s.k⟩
theorem step_swap (W : Nat) (ov : List Int) (s : Sp) (i j : Nat) : spStep W ov (spStep W ov s i) j = spStep W ov (spStep W ov s j) i := by
  unfold spStep
  simp only [Sp.mk.injEq, and_true]
  refine ⟨?_, ?_, ?_, ?_, ?_, ?_, ?_⟩ <;> first | trivial | omega
/-- the pixels of a part up to a place. -/
def inPart (lab : List Int) (k n : Nat) : List Nat := (List.range n).filter fun i => decide (lab.getD i 0 = (k : Int))
theorem in_next (lab : List Int) (k n : Nat) : inPart lab k (n + 1) = if lab.getD n 0 = (k : Int) then inPart lab k n ++ [n] else inPart lab k n := by
  unfold inPart
  rw [List.range_succ, List.filter_append]
  by_cases e : lab.getD n 0 = (k : Int)
  · rw [if_pos e, List.filter_cons_of_pos (by simpa using e)]
    rfl
  · rw [if_neg e, List.filter_cons_of_neg (by simpa using e)]
    simp
def spN (lab ov : List Int) (W H k n : Nat) : Sp := (inPart lab k n).foldl (spStep W ov) (sp0 W H k)
theorem spN_next (lab ov : List Int) (W H k n : Nat) : spN lab ov W H k (n + 1) = if lab.getD n 0 = (k : Int) then spStep W ov (spN lab ov W H k n) n else spN lab ov W H k n := by
  unfold spN
  rw [in_next]
  split
  · rw [List.foldl_append]
    rfl
  · rfl
/-- in whatever order its pixels come. -/
theorem sp_perm {W : Nat} {ov : List Int} {s : Sp} {l m : List Nat} (h : l.Perm m) : l.foldl (spStep W ov) s = m.foldl (spStep W ov) s := by
  induction h generalizing s with
  | nil => rfl
  | cons x _ ih => exact ih
  | swap x y l => simp only [List.foldl_cons]; rw [step_swap]
  | trans _ _ ih1 ih2 => exact ih1.trans ih2
def spK (lab ov : List Int) (W H k : Nat) : Sp := spN lab ov W H k lab.length
theorem step_k (W : Nat) (ov : List Int) (l : List Nat) (s : Sp) : (l.foldl (spStep W ov) s).k = s.k := by
  induction l generalizing s with
  | nil => rfl
  | cons x l ih => rw [List.foldl_cons, ih]; rfl
theorem spK_k (lab ov : List Int) (W H k : Nat) : (spK lab ov W H k).k = k := by unfold spK spN; rw [step_k]; rfl
/-- the first so many parts that are large enough. -/
def bigV (lab ov : List Int) (W H : Nat) (least : Int) : Nat → List Sp
  | 0 => []
  | n + 1 => bigV lab ov W H least n ++ if (spK lab ov W H (n + 1)).px < least then [] else [spK lab ov W H (n + 1)]
/-- the brighter one first, of equal ones the one with the lesser number. -/
def spLt (a b : Sp) : Prop := b.li < a.li ∨ (a.li = b.li ∧ a.k < b.k)
theorem lt_asymm {a b : Sp} (h : spLt a b) (g : spLt b a) : False := by
  unfold spLt at *
  omega
theorem lt_trans3 {a b c : Sp} (h : spLt a b) (g : spLt b c) : spLt a c := by
  unfold spLt at *
  omega
/-- behind all that are as bright. -/
def placeV (l : List Sp) (s : Sp) : List Sp := l.takeWhile (fun a => decide (s.li ≤ a.li)) ++ [s] ++ l.dropWhile (fun a => decide (s.li ≤ a.li))
theorem place_perm (l : List Sp) (s : Sp) : (placeV l s).Perm (l ++ [s]) := by
  unfold placeV
  have h : (l.takeWhile (fun a => decide (s.li ≤ a.li)) ++ l.dropWhile (fun a => decide (s.li ≤ a.li)) ++ [s]).Perm (l ++ [s]) := by rw [List.takeWhile_append_dropWhile]
  refine List.Perm.trans ?_ h
  rw [List.append_assoc, List.append_assoc]
  exact List.Perm.append_left _ List.perm_append_comm
theorem place_sorted {l : List Sp} {s : Sp} (h : l.Pairwise spLt) (hk : ∀ a ∈ l, a.k < s.k) : (placeV l s).Pairwise spLt := by
  induction l with
  | nil => unfold placeV; simp
  | cons a l ih =>
    have hl := List.pairwise_cons.1 h
    have ht := ih hl.2 (fun b hb => hk b (List.mem_cons_of_mem _ hb))
    by_cases c : s.li ≤ a.li
    · have e : placeV (a :: l) s = a :: placeV l s := by
        unfold placeV
        rw [List.takeWhile_cons_of_pos (by simpa using c), List.dropWhile_cons_of_pos (by simpa using c)]
        rfl
      rw [e]
      refine List.pairwise_cons.2 ⟨fun b hb => ?_, ht⟩
      have hb2 := (place_perm l s).mem_iff.1 hb
      rcases List.mem_append.1 hb2 with hb2 | hb2
      · exact hl.1 b hb2
      · rw [List.mem_singleton.1 hb2]
        have := hk a List.mem_cons_self
        unfold spLt
        omega
    · have e : placeV (a :: l) s = s :: a :: l := by
        unfold placeV
        rw [List.takeWhile_cons_of_neg (by simpa using c), List.dropWhile_cons_of_neg (by simpa using c)]
        rfl
      rw [e]
      refine List.pairwise_cons.2 ⟨fun b hb => ?_, h⟩
      have hsa : spLt s a := by unfold spLt; omega
      rcases List.mem_cons.1 hb with rfl | hb
      · exact hsa
      · exact lt_trans3 hsa (hl.1 b hb)
def placedV : List Sp → List Sp → List Sp
  | acc, [] => acc
  | acc, s :: r => placedV (placeV acc s) r
/-- in order, each behind those that are as bright. -/
def spotsV (lab ov : List Int) (W H : Nat) (least : Int) : Nat → List Sp
  | 0 => []
  | n + 1 => if (spK lab ov W H (n + 1)).px < least then spotsV lab ov W H least n else placeV (spotsV lab ov W H least n) (spK lab ov W H (n + 1))
theorem spots_perm (lab ov : List Int) (W H : Nat) (least : Int) : ∀ n, (spotsV lab ov W H least n).Perm (bigV lab ov W H least n)
  | 0 => .refl _
  | n + 1 => by
    unfold spotsV bigV
    split
    · rw [List.append_nil]
      exact spots_perm lab ov W H least n
    · exact (place_perm _ _).trans ((spots_perm lab ov W H least n).append_right _)
theorem big_k (lab ov : List Int) (W H : Nat) (least : Int) : ∀ n, ∀ a ∈ bigV lab ov W H least n, a.k ≤ n ∧ 1 ≤ a.k
  | 0, a, h => absurd h List.not_mem_nil
  | n + 1, a, h => by
    unfold bigV at h
    rcases List.mem_append.1 h with h | h
    · have := big_k lab ov W H least n a h
      omega
    · split at h
      · cases h
      · rw [List.mem_singleton.1 h, spK_k]
        omega
theorem spots_sorted (lab ov : List Int) (W H : Nat) (least : Int) : ∀ n, (spotsV lab ov W H least n).Pairwise spLt
  | 0 => List.Pairwise.nil
  | n + 1 => by
    unfold spotsV
    split
    · exact spots_sorted lab ov W H least n
    · refine place_sorted (spots_sorted lab ov W H least n) (fun a ha => ?_)
      have := big_k lab ov W H least n a ((spots_perm lab ov W H least n).mem_iff.1 ha)
      rw [spK_k]
      omega
/-- two lists of the same in order are one. -/
theorem sorted_one {l m : List Sp} (h : l.Perm m) (hl : l.Pairwise spLt) (hm : m.Pairwise spLt) : l = m :=
  List.Perm.eq_of_pairwise (fun _ _ _ _ h1 h2 => (lt_asymm h1 h2).elim) hl hm h
end Go.Proofs.YtgmaganajfcpbaiDoor
