/-
  All parts that are large enough, in order: from the row to the list. Nothing of the program. From labels to what is gathered; a row of spots put in order.
-/
import Derived.Test.YtmgnobeaacjdjajGreatDoorDXA
import Derived.Test.YtmgnobeaacjdjajGreatDoorDRC
import Derived.Test.YtmgnobeaacjdjajGreatDoorDW4
import Derived.Test.YtmgnobeaacjdjajGreatDoorSpKA
namespace Go.Proofs.YtmgnobeaacjdjajGreatDoor
open Go Go.RowKit Go.Shelf Go.Lib Go.Sort

/-- of the places that stay, the parts. -/
theorem keep_big (lab ov : List Int) (W H : Nat) (least : Int) : ∀ n, (keepN (fun j => starOf (spK lab ov W H (j + 1))) least n).map (fun x => spK lab ov W H (x + 1)) = bigV lab ov W H least n
  | 0 => rfl
  | n + 1 => by
    rw [keep_next]
    unfold bigV
    have ih := keep_big lab ov W H least n
    by_cases e : least ≤ (spK lab ov W H (n + 1)).px
    · rw [if_pos (show least ≤ (starOf (spK lab ov W H (n + 1))).px from e), if_neg (by omega), List.map_append, ih]
      rfl
    · rw [if_neg (show ¬ least ≤ (starOf (spK lab ov W H (n + 1))).px from e), if_pos (by omega), ih, List.append_nil]
theorem keep_up (f : Nat → Sta) (least : Int) (n : Nat) : (keepN f least n).Pairwise (· < ·) := List.Pairwise.filter _ List.pairwise_lt_range
/-- the parts that stay, by their places. -/
def bigP (lab ov : List Int) (W H : Nat) (least : Int) (n : Nat) : Nat → Sp := fun a => spK lab ov W H ((keepN (fun j => starOf (spK lab ov W H (j + 1))) least n).getD a 0 + 1)
theorem big_up (lab ov : List Int) (W H : Nat) (least : Int) (n : Nat) : KUp (bigP lab ov W H least n) 0 (keepN (fun j => starOf (spK lab ov W H (j + 1))) least n).length := fun i j _ h2 h3 => by
  unfold bigP
  rw [spK_k, spK_k]
  have hp := List.pairwise_iff_getElem.1 (keep_up (fun j => starOf (spK lab ov W H (j + 1))) least n) i j (by omega) h3 h2
  rw [List.getD_eq_getElem?_getD, List.getElem?_eq_getElem (by omega), List.getD_eq_getElem?_getD, List.getElem?_eq_getElem h3]
  simp only [Option.getD_some]
  omega
theorem row_list (l : List Nat) (f : Nat → Sp) : (List.range l.length).map (fun a => f (l.getD a 0)) = l.map f := by
  refine List.ext_getElem (by simp) (fun i h1 h2 => ?_)
  have hi : i < l.length := by simpa using h1
  simp [List.getD, hi]
/-- the same things in another order. -/
theorem Re.perm {p q : Nat → Sp} {n : Nat} (h : Re 0 n p q) : ((List.range n).map q).Perm ((List.range n).map p) := by
  obtain ⟨s, t, h1, h2, h3, h4, h5⟩ := h
  have hs : ∀ x y, s x = s y → x = y := fun x y e => by rw [← h1 x, ← h1 y, e]
  have e : (List.range n).map q = ((List.range n).map s).map p := by
    rw [List.map_map]
    exact List.map_congr_left (fun a _ => h5 a)
  rw [e]
  refine List.Perm.map p ?_
  have ht : ∀ x, x < n → t x < n := fun x hx => by
    refine Decidable.byContradiction (fun q => ?_)
    have := h4 (t x) (by omega)
    rw [h2 x] at this
    omega
  refine (List.perm_ext_iff_of_nodup ?_ List.nodup_range).2 (fun a => ?_)
  · refine List.Pairwise.map s (fun x y hxy e => hxy (hs x y e)) List.nodup_range
  · constructor
    · intro ha
      obtain ⟨x, hx, rfl⟩ := List.mem_map.1 ha
      rw [List.mem_range] at hx ⊢
      exact (h3 x (Nat.zero_le _) hx).2
    · intro ha
      rw [List.mem_range] at ha
      exact List.mem_map.2 ⟨t a, List.mem_range.2 (ht a ha), h2 a⟩
theorem Ord.pair {q : Nat → Sp} {n : Nat} (h : Ord q 0 n) : ((List.range n).map q).Pairwise spLt := by
  rw [List.pairwise_iff_getElem]
  intro i j hi hj hij
  simp only [List.length_map, List.length_range] at hi hj
  simp only [List.getElem_map, List.getElem_range]
  exact h i j (Nat.zero_le _) hij hj
/-- what the stable order leaves is the document's list. -/
theorem order_spots {lab ov : List Int} {W H n m : Nat} {least : Int} {q : Nat → Sp} (hm : (keepN (fun j => starOf (spK lab ov W H (j + 1))) least n).length = m) (d : Done (bigP lab ov W H least n) q 0 m) : (List.range m).map q = spotsV lab ov W H least n := by
  refine sorted_one ?_ d.ord.pair (spots_sorted lab ov W H least n)
  refine d.re.perm.trans ?_
  have e : (List.range m).map (bigP lab ov W H least n) = bigV lab ov W H least n := by
    rw [← hm, ← keep_big]
    exact row_list _ (fun x => spK lab ov W H (x + 1))
  rw [e]
  exact (spots_perm lab ov W H least n).symm
end Go.Proofs.YtmgnobeaacjdjajGreatDoor
namespace Go.Proofs.YtmgnobeaacjdjajGreatDoor
open Go Go.RowKit Go.Shelf Go.Lib Go.Sort

theorem part_has {lab ov : List Int} {W H k i : Nat} (hi : i < lab.length) (h : lab.getD i 0 = (k : Int)) : 1 ≤ (spK lab ov W H k).px := by
  unfold spK spN
  rw [fold_px]
  have hm : i ∈ inPart lab k lab.length := by
    unfold inPart
    exact List.mem_filter.2 ⟨List.mem_range.2 hi, by simpa using h⟩
  have := List.length_pos_of_mem hm
  show 1 ≤ (0 : Int) + _
  omega
theorem ga_in {p : Pic} {t : Nat} {over : Int} {lab : List Int} {parts : Nat} (hok : PicOk p) (ht : 1 ≤ t) (ho : 0 ≤ over) (hl : IsLabels (litV p t over) p.wide.toNat lab parts) (hp : parts ≤ (litV p t over).length) : GaIn p.wide.toNat p.high.toNat parts lab (overV p t) := by
  have w1 := hok.w1
  have w2 := hok.w2
  have h1 := hok.h1
  have h2 := hok.h2
  have hlen : lab.length = p.high.toNat * p.wide.toNat := by rw [hl.len, lit_len]
  have hfew : lab.length ≤ 65536 := by
    rw [hlen]
    exact Nat.mul_le_mul (show p.high.toNat ≤ 256 by omega) (show p.wide.toNat ≤ 256 by omega)
  have lit : ∀ i, i < lab.length → litB (litV p t over) i = decide (over < (overV p t).getD i 0) := fun i hi => by
    show (litV p t over).getD i false = _
    exact lit_at (by rw [← hlen]; exact hi)
  refine ⟨by omega, by omega, by omega, hlen, hfew, by rw [over_len, hlen], by rw [hl.len] at hfew; omega, fun i hi => ?_, fun i hi e => ?_, fun k k1 k2 => ?_⟩
  · cases hb : litB (litV p t over) i with
    | true => have := hl.low i hb; have := hl.high i hb; omega
    | false => rw [hl.dark i hb]; omega
  · cases hb : litB (litV p t over) i with
    | true =>
      rw [lit i hi] at hb
      have := of_decide_eq_true hb
      exact ⟨by omega, over_hi hok ht (by rw [← hlen]; exact hi)⟩
    | false => rw [hl.dark i hb] at e; omega
  · rcases hl.all with e | ⟨i, li, e⟩
    · omega
    · have hil : i < lab.length := by rw [hl.len]; exact lit_lt li
      by_cases ek : k = parts
      · exact part_has hil (by rw [e, ek])
      · obtain ⟨j, hj, lj, ej⟩ := hl.first i k li (by omega) (by rw [e]; omega)
        exact part_has (i := j) (by omega) ej
/-- a row of spots as the sorting asks it. -/
theorem row_start {w w0 : World} {g m : Nat} {h : Nat → Sta} (hg : GRow 9 w0 g m h w) (p : Nat → Sp) (hp : ∀ a, a < m → h a = starOf (p a)) : ∃ p' : Nat → Sp, (∀ a, a < m → p' a = p a) ∧ Row0 9 w g m ∧ Srt 9 w g m p' w := by
  obtain ⟨d, h1, h2, h3⟩ := hg.has
  have hsz : (((List.range m).map p).toArray).size = m := by simp
  have hat : ∀ a, a < m → (((List.range m).map p).toArray)[a]! = p a := fun a ha => by simp [ha]
  have hH : HoldsK encX 9 w g 0 ((List.range m).map p).toArray := by
    have e : flatK encX 9 ((List.range m).map p).toArray = flatK valSx 9 d := by
      refine ext_get! (by rw [size_flatK, size_flatK, hsz, h1]) fun t ht => ?_
      rw [size_flatK, hsz] at ht
      have hd : t / 9 < m := by omega
      rw [get_flatK _ _ _ _ (by rw [hsz]; exact ht), get_flatK _ _ _ _ (by rw [h1]; exact ht), hat _ hd, h2 _ hd, hp _ hd]
      rfl
    unfold HoldsK
    rw [e]
    exact h3
  exact ⟨pa ((List.range m).map p).toArray, hat, ⟨_, hsz, encX_len, encX_one, hH, hg.lt⟩, _, hsz, rfl, SWK.start hH⟩
theorem sort_below (w : World) (g n B : Nat) (d : Array Sp) (os : Array Obj) (hB : B ≤ g) (hg : g < w.heap.size) : Below B w (sortWorldK encX 9 w g 0 n d os) := by
  refine ⟨rfl, rfl, rfl, ?_, fun k hk => ?_⟩
  · simp [sortWorldK, grow, putRowK]
  · simp only [sortWorldK, grow, putRowK, putRow, mapBlock, heap_ahead]
    rw [Array.getElem?_append_left (by simp; omega), Array.getElem?_modify, if_neg (by omega)]
theorem row_end {w v : World} {g m : Nat} {q : Nat → Sp} (R : Row0 9 w g m) (S : Srt 9 w g m q v) : SxCame v (some ⟨g, 0, none⟩) ((List.range m).map (fun a => starOf (q a))) ∧ Below g w v := by
  obtain ⟨d0, hd0, R⟩ := R
  obtain ⟨d, hd, hp, S⟩ := S
  have hH := S.holds R.hblk R.hH (by omega)
  constructor
  · refine ⟨fun k hk => ?_⟩
    have hk2 : k < m := by simpa using hk
    refine ⟨g, 0, rfl, S.lt R.hblk, Sxat_of (fun i hi => ?_)⟩
    have := HoldsK.cells hH encX_len (i := k) (by omega) i ((encX d[k]!)[i]'(by rw [encX_len]; exact hi)) (List.getElem?_eq_getElem _)
    rw [add_pl2] at this
    rw [this]
    have e : ((List.range m).map (fun a => starOf (q a))).getD k sx0 = starOf d[k]! := by
      rw [← hp]
      simp [List.getD, hk2, pa]
    rw [e]
    exact (List.getElem?_eq_getElem _).symm
  · obtain ⟨n, os, rfl⟩ := S
    exact sort_below w g n g d os (Nat.le_refl _) R.hblk
theorem order_spots2 {lab ov : List Int} {W H n m : Nat} {least : Int} {p q : Nat → Sp} (hm : (keepN (fun j => starOf (spK lab ov W H (j + 1))) least n).length = m) (hp : ∀ a, a < m → p a = bigP lab ov W H least n a) (d : Done p q 0 m) : (List.range m).map q = spotsV lab ov W H least n := by
  refine sorted_one ?_ d.ord.pair (spots_sorted lab ov W H least n)
  refine d.re.perm.trans ?_
  have e : (List.range m).map p = bigV lab ov W H least n := by
    rw [← keep_big, ← row_list _ (fun x => spK lab ov W H (x + 1)), hm]
    exact List.map_congr_left (fun a ha => hp a (List.mem_range.1 ha))
  rw [e]
  exact (spots_perm lab ov W H least n).symm
end Go.Proofs.YtmgnobeaacjdjajGreatDoor
