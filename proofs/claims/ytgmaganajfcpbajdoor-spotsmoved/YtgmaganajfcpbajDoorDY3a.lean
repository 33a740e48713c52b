/-
  The law of moved pictures: what its pictures and their stars are; its rows in memory.
-/
import Derived.Test.YtgmaganajfcpbajDoorSpMv
import Derived.Test.YtgmaganajfcpbajDoorDXC
import Derived.Test.YtgmaganajfcpbajDoorSpLw0
namespace Go.Proofs.YtgmaganajfcpbajDoor
open Go Go.RowKit

/-- a star, moved. -/
def mvQ (dx dy : Nat) (s : Sta) : Sta := ⟨s.le + dx, s.tp + dy, s.ri + dx, s.lo + dy, s.px, s.li, s.x + 1024 * dx, s.y + 1024 * dy, s.lt⟩
/-- how large a star's numbers are. -/
structure StB (s : Sta) : Prop where
  x0 : 0 ≤ s.x
  x1 : s.x ≤ 1125899906842624
  y0 : 0 ≤ s.y
  y1 : s.y ≤ 1125899906842624
  l0 : 0 ≤ s.le
  l1 : s.le ≤ 256
  t0 : 0 ≤ s.tp
  t1 : s.tp ≤ 256
theorem pad_each {P : List Int} {w h W H ex ey : Nat} {C : List Int} (p : PadAll P w h W H ex ey C) (hP : ∀ k, 0 ≤ P.getD k 0 ∧ P.getD k 0 ≤ 65535) (j : Nat) : 0 ≤ C.getD j 0 ∧ C.getD j 0 ≤ 65535 := by
  rw [p.at_ j]
  split
  · exact hP _
  · omega
theorem getD_mem {C : List Int} {x : Int} (h : x ∈ C) : ∃ k, C.getD k 0 = x := by
  obtain ⟨k, hk, e⟩ := List.getElem_of_mem h
  exact ⟨k, by rw [← e]; simp [List.getD, List.getElem?_eq_getElem hk]⟩
/-- the law's picture: its error, its ground. -/
structure PadPic (W H : Nat) (C : List Int) : Prop where
  w1 : 1 ≤ W
  w2 : W ≤ 50
  h1 : 1 ≤ H
  h2 : H ≤ 50
  len : C.length = H * W
  each : ∀ j, 0 ≤ C.getD j 0 ∧ C.getD j 0 ≤ 65535
  few : 2 * C.countP (fun y => decide (y ≠ 0)) < H * W
section
variable {W H : Nat} {C : List Int}
theorem PadPic.ok (h : PadPic W H C) : picE ⟨(W : Nat), (H : Nat), C⟩ = 0 := by
  have a1 := h.w1
  have a2 := h.w2
  have a3 := h.h1
  have a4 := h.h2
  have e : ((C.length : Nat) : Int) = (W : Int) * (H : Int) := by rw [h.len, ← Int.natCast_mul, Nat.mul_comm]
  unfold picE
  rw [if_neg (by show ¬ (256 < (W : Int) ∨ 256 < (H : Int)); omega), if_neg (by
    show ¬ ((W : Int) < 1 ∨ (H : Int) < 1 ∨ (C.length : Int) ≠ (W : Int) * (H : Int))
    rw [e]
    omega), if_neg]
  show ¬ C.all countB = false
  rw [all_of (f := countB) (fun k _ => by have := h.each k; generalize C.getD k 0 = c at *; unfold countB; simp; omega)]
  decide
theorem PadPic.fnd (h : PadPic W H C) {o : Int} (ho : 1 ≤ o) : fndE ⟨(W : Nat), (H : Nat), C⟩ 256 o 1 = 0 := by
  have e : groundE ⟨(W : Nat), (H : Nat), C⟩ 256 = 0 := by
    unfold groundE
    rw [h.ok]
    rfl
  have e2 : litE ⟨(W : Nat), (H : Nat), C⟩ 256 o = 0 := by
    unfold litE
    rw [e, if_neg (by simp), if_neg (by omega)]
  unfold fndE
  rw [e2]
  rfl
theorem PadPic.over (h : PadPic W H C) : overV ⟨(W : Nat), (H : Nat), C⟩ 256 = C := by
  have a1 := h.w1
  have a2 := h.w2
  have a3 := h.h1
  have a4 := h.h2
  refine over_none (q := ⟨(W : Nat), (H : Nat), C⟩) rfl rfl h.len (ground_none (q := ⟨(W : Nat), (H : Nat), C⟩) rfl rfl a1 (by omega) a3 (by omega) h.len (fun x hx => ?_) h.few)
  obtain ⟨k, e⟩ := getD_mem hx
  rw [← e]
  exact (h.each k).1
theorem PadPic.lit (h : PadPic W H C) (o : Int) : litV ⟨(W : Nat), (H : Nat), C⟩ 256 o = C.map fun n => decide (o < n) := by
  unfold litV
  rw [h.over]
end
theorem box_keep {lab ov : List Int} {W H k : Nat} (hW : W ≤ 256) (hH : H ≤ 256) : ∀ n, n ≤ H * W → 0 ≤ (spN lab ov W H k n).le ∧ (spN lab ov W H k n).le ≤ 256 ∧ 0 ≤ (spN lab ov W H k n).tp ∧ (spN lab ov W H k n).tp ≤ 256
  | 0, _ => ⟨by show (0 : Int) ≤ (W : Int); omega, by show (W : Int) ≤ 256; omega, by show (0 : Int) ≤ (H : Int); omega, by show (H : Int) ≤ 256; omega⟩
  | n + 1, hn => by
    have ih := box_keep (lab := lab) (ov := ov) (k := k) hW hH n (by omega)
    rw [spN_next]
    split
    · unfold spStep
      have a := Int.natCast_nonneg (n % W)
      have b := Int.natCast_nonneg (n / W)
      refine ⟨?_, ?_, ?_, ?_⟩
      · show 0 ≤ min (spN lab ov W H k n).le _; omega
      · show min (spN lab ov W H k n).le _ ≤ 256; omega
      · show 0 ≤ min (spN lab ov W H k n).tp _; omega
      · show min (spN lab ov W H k n).tp _ ≤ 256; omega
    · exact ih
theorem moved_stars {P : List Int} {w h W H dn en : Nat} {A B : List Int} {o : Int} {l m : List Int} {p q : Nat} (pa : PadPic W H A) (pb : PadPic W H B) (ha : PadAll P w h W H 1 1 A) (hb : PadAll P w h W H (1 + dn) (1 + en) B) (ho : 1 ≤ o) (hx : 1 + w + dn ≤ W) (hy : 1 + h + en ≤ H)
    (hl : IsLabels (litV ⟨(W : Nat), (H : Nat), A⟩ 256 o) W l p) (hm : IsLabels (litV ⟨(W : Nat), (H : Nat), B⟩ 256 o) W m q) :
    (spotsV m (overV ⟨(W : Nat), (H : Nat), B⟩ 256) W H 1 q).map starOf = ((spotsV l (overV ⟨(W : Nat), (H : Nat), A⟩ 256) W H 1 p).map starOf).map (mvQ dn en) ∧ ∀ s ∈ (spotsV l (overV ⟨(W : Nat), (H : Nat), A⟩ 256) W H 1 p).map starOf, StB s := by
  rw [pa.lit] at hl
  rw [pb.lit] at hm
  rw [pa.over, pb.over]
  have mv := pads_moved ha hb ho hx hy
  obtain ⟨rfl, rfl⟩ := labels_one hm (mv.lit.labels hl)
  have hs : en * W + dn ≤ H * W := by
    have := Nat.mul_le_mul_right W (show en + 1 ≤ H by omega)
    rw [Nat.add_mul, Nat.one_mul] at this
    omega
  have a2 := pa.w2
  have a4 := pa.h2
  have a1 := pa.w1
  have fine := mv_fine mv hl q
  constructor
  · rw [mv_spots mv hl hs, List.map_map, List.map_map]
    refine List.map_congr_left (fun s hs => ?_)
    obtain ⟨f1, f2, f3⟩ := fine s hs
    show starOf (mvS dn en s) = mvQ dn en (starOf s)
    unfold starOf mvS mvQ
    simp only [Sta.mk.injEq, true_and, and_true]
    exact ⟨mv_quo f1 f3 (Int.natCast_nonneg _), mv_quo f2 f3 (Int.natCast_nonneg _)⟩
  · intro s hs
    obtain ⟨z, hz, rfl⟩ := List.mem_map.1 hs
    refine spots_in (fun z => StB (starOf z)) (fun k hk hp => ?_) q z hz
    have hll : l.length = H * W := by rw [hl.len, List.length_map, pa.len]
    have bx := box_keep (lab := l) (ov := A) (k := k) (show W ≤ 256 by omega) (show H ≤ 256 by omega) l.length (by rw [hll]; exact Nat.le_refl _)
    have pos := sp_pos mv hl hk l.length
    have bd : SpB (spN l A W H k l.length) l.length := spN_bound (n := l.length) (fun i hi => by
      rw [hll] at hi
      have c1 := Nat.mod_lt i (show 0 < W by omega)
      have c2 : i / W < H := (Nat.div_lt_iff_lt_mul (by omega)).2 hi
      omega) (fun i hi e => by
      have hn : litB (A.map fun n => decide (o < n)) i = true := by
        cases c : litB (A.map fun n => decide (o < n)) i with
        | true => rfl
        | false =>
          rw [hl.dark i c] at e
          omega
      exact ⟨mv.pos i hn, (pa.each i).2⟩) l.length (Nat.le_refl _)
    have hb : l.length ≤ 65536 := by
      rw [hll]
      exact Nat.mul_le_mul (show H ≤ 256 by omega) (show W ≤ 256 by omega)
    unfold spK at hp ⊢
    generalize spN l A W H k l.length = z at *
    have q1 : 0 ≤ z.sx.tdiv z.li ∧ z.sx.tdiv z.li ≤ z.sx := by
      have := bd.x0
      rw [Int.tdiv_eq_ediv_of_nonneg this]
      exact ⟨Int.ediv_nonneg this (by omega), Int.ediv_le_self _ this⟩
    have q2 : 0 ≤ z.sy.tdiv z.li ∧ z.sy.tdiv z.li ≤ z.sy := by
      have := bd.y0
      rw [Int.tdiv_eq_ediv_of_nonneg this]
      exact ⟨Int.ediv_nonneg this (by omega), Int.ediv_le_self _ this⟩
    have q3 := bd.x1
    have q4 := bd.y1
    unfold starOf
    exact ⟨q1.1, by show z.sx.tdiv z.li ≤ _; omega, q2.1, by show z.sy.tdiv z.li ≤ _; omega, bx.1, bx.2.1, bx.2.2.1, bx.2.2.2⟩
/-- two rows of counts that are written side by side, each behind a picture in a block of its own. -/
structure PdS (w1 : World) (K n : Nat) (x0 x1 : Value) (A B : List Int) (u : World) : Prop where
  own1 : IOwn u K (.slice (some ⟨K, 0, none⟩) n n) A
  len1 : A.length = n
  own2 : IOwn u K (.slice (some ⟨K + 2, 0, none⟩) n n) B
  len2 : B.length = n
  sa : u.heap[K + 1]? = some (.cells #[x0, x1, .slice (some ⟨K, 0, none⟩) n n] 28)
  sb : u.heap[K + 3]? = some (.cells #[x0, x1, .slice (some ⟨K + 2, 0, none⟩) n n] 28)
  bel : Below K w1 u
section
variable {w1 u : World} {K n : Nat} {x0 x1 : Value} {A B : List Int}
theorem PdS.go (h : PdS w1 K n x0 x1 A B u) {v : World} (k : Below u.heap.size u v) : PdS w1 K n x0 x1 A B v :=
  ⟨h.own1.below k, h.len1, h.own2.below k, h.len2, keepB h.sa k, keepB h.sb k, h.bel.trans (k.mono (by have := ltB h.sa; omega))⟩
theorem PdS.put1 (h : PdS w1 K n x0 x1 A B u) (k : Nat) (x : Int) : PdS w1 K n x0 x1 (A.set k x) B (u.setCell ⟨K, k, none⟩ (.int .i64 x)) := by
  refine ⟨h.own1.put h.len1 k x, by rw [List.length_set]; exact h.len1, ?_, h.len2, ?_, ?_, h.bel.setCell (Nat.le_refl _) _⟩
  · have := h.own2
    unfold IOwn at this ⊢
    rw [h.len2] at this ⊢
    exact own_apart this (heap_setCell_other _ _ _ _ (by show K + 2 ≠ K; omega))
  · rw [heap_setCell_other _ _ _ _ (by show K + 1 ≠ K; omega)]; exact h.sa
  · rw [heap_setCell_other _ _ _ _ (by show K + 3 ≠ K; omega)]; exact h.sb
theorem PdS.put2 (h : PdS w1 K n x0 x1 A B u) (k : Nat) (x : Int) : PdS w1 K n x0 x1 A (B.set k x) (u.setCell ⟨K + 2, k, none⟩ (.int .i64 x)) := by
  refine ⟨?_, h.len1, h.own2.put h.len2 k x, by rw [List.length_set]; exact h.len2, ?_, ?_, h.bel.setCell (by show K ≤ K + 2; omega) _⟩
  · have := h.own1
    unfold IOwn at this ⊢
    rw [h.len1] at this ⊢
    exact own_apart this (heap_setCell_other _ _ _ _ (by show K ≠ K + 2; omega))
  · rw [heap_setCell_other _ _ _ _ (by show K + 1 ≠ K + 2; omega)]; exact h.sa
  · rw [heap_setCell_other _ _ _ _ (by show K + 3 ≠ K + 2; omega)]; exact h.sb
end
theorem own_zero {u : World} {B g n : Nat} (hn : n ≤ 65536) (h1 : B ≤ g) (f1 : u.heap[g]? = some (.cells (madeCells #[.int .i64 0] n) 3)) : IOwn u B (.slice (some ⟨g, 0, none⟩) n n) (List.replicate n 0) := by
  have s1 : (madeCells #[Value.int .i64 0] n).toList = (List.replicate n (0 : Int)).map (Value.int .i64) := by rw [toList_madeCells_one, List.map_replicate]
  unfold IOwn
  rw [List.length_replicate]
  refine ⟨by simp, .inr ⟨g, n, _, rfl, h1, f1, Nat.le_refl _, by unfold maxLen; omega, ?_, ?_⟩⟩
  · rw [← Array.length_toList, s1]; simp
  · rw [s1, List.take_of_length_le (by simp)]
/-- two pictures of noughts. -/
theorem pads_new (v : World) (n : Nat) (hn : n ≤ 65536) (x0 x1 : Value) : PdS v v.heap.size n x0 x1 (List.replicate n 0) (List.replicate n 0) ((((v.alloc (.cells (madeCells #[.int .i64 0] n) 3)).alloc (.cells #[x0, x1, .slice (some ⟨v.heap.size, 0, none⟩) n n] 28)).alloc (.cells (madeCells #[.int .i64 0] n) 3)).alloc (.cells #[x0, x1, .slice (some ⟨v.heap.size + 1 + 1, 0, none⟩) n n] 28)) := by
  have s1 : (v.alloc (.cells (madeCells #[.int .i64 0] n) 3)).heap.size = v.heap.size + 1 := by simp
  have s2 : ((v.alloc (.cells (madeCells #[.int .i64 0] n) 3)).alloc (.cells #[x0, x1, .slice (some ⟨v.heap.size, 0, none⟩) n n] 28)).heap.size = v.heap.size + 2 := by simp
  have s3 : (((v.alloc (.cells (madeCells #[.int .i64 0] n) 3)).alloc (.cells #[x0, x1, .slice (some ⟨v.heap.size, 0, none⟩) n n] 28)).alloc (.cells (madeCells #[.int .i64 0] n) 3)).heap.size = v.heap.size + 3 := by simp
  refine ⟨own_zero hn (Nat.le_refl _) (keepA (keepA (keepA (alloc_last _ _)))), by simp, own_zero hn (by omega) (keepA ?_), by simp, keepA (keepA ?_), ?_, below_go (below_al2 v _ _) (below_al2 _ _ _)⟩
  · rw [← s2]; exact alloc_last _ _
  · rw [← s1]; exact alloc_last _ _
  · rw [← s3]; exact alloc_last _ _
end Go.Proofs.YtgmaganajfcpbajDoor
