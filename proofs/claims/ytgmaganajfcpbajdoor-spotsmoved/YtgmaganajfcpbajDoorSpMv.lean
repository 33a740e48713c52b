/-
  A picture that is moved: the same parts, moved; the same stars, moved. Nothing of the program.
-/
import Derived.Test.YtgmaganajfcpbajDoorPureA
namespace Go.Proofs.YtgmaganajfcpbajDoor

theorem mv_div {W i dx dy : Nat} (h : i % W + dx < W) : (i + (dy * W + dx)) / W = i / W + dy ∧ (i + (dy * W + dx)) % W = i % W + dx := by
  have hW : 0 < W := by omega
  have e : i + (dy * W + dx) = (i % W + dx) + W * (i / W + dy) := by
    have := Nat.mod_add_div i W
    rw [Nat.mul_add, Nat.mul_comm W dy]
    omega
  rw [e, Nat.add_mul_div_left _ _ hW, Nat.add_mul_mod_self_left, Nat.div_eq_of_lt h, Nat.mod_eq_of_lt h]
  omega
theorem lab_le {L : List Bool} {W : Nat} {l : List Int} {parts : Nat} (h : IsLabels L W l parts) : ∀ i, litB L i = true → l.getD i 0 ≤ (i : Int) + 1 := by
  intro i
  induction i using Nat.strongRecOn with
  | _ i ih =>
    intro hi
    refine Int.not_lt.1 (fun c => ?_)
    obtain ⟨j, hj, lj, ej⟩ := h.first i (l.getD i 0 - 1) hi (by omega) (by omega)
    have := ih j hj lj
    omega
theorem parts_le {L : List Bool} {W : Nat} {l : List Int} {parts : Nat} (h : IsLabels L W l parts) : parts ≤ L.length := by
  rcases h.all with e | ⟨i, hi, e⟩
  · omega
  · have h1 := lab_le h i hi
    have h2 := lit_lt hi
    omega
theorem spots_many (lab ov : List Int) (W H : Nat) (least : Int) : ∀ n, (spotsV lab ov W H least n).length ≤ n
  | 0 => Nat.le_refl _
  | n + 1 => by
    have ih := spots_many lab ov W H least n
    unfold spotsV
    split
    · omega
    · have := (place_perm (spotsV lab ov W H least n) (spK lab ov W H (n + 1))).length_eq
      rw [this, List.length_append]
      simp
      omega
/-- which pixels are lit, moved. -/
structure MvB (W n dx dy : Nat) (L M : List Bool) : Prop where
  l1 : L.length = n
  l2 : M.length = n
  inn : ∀ i, litB L i = true → i % W + dx < W
  to : ∀ i, litB L i = true → litB M (i + (dy * W + dx)) = true
  from_ : ∀ j, litB M j = true → ∃ i, j = i + (dy * W + dx) ∧ litB L i = true
section
variable {W n dx dy : Nat} {L M : List Bool}
theorem MvB.lt (h : MvB W n dx dy L M) {i : Nat} (hi : litB L i = true) : i + (dy * W + dx) < n := by
  have := lit_lt (h.to i hi)
  rw [h.l2] at this
  exact this
theorem MvB.back (h : MvB W n dx dy L M) {i : Nat} (hi : litB M (i + (dy * W + dx)) = true) : litB L i = true := by
  obtain ⟨k, e, hk⟩ := h.from_ _ hi
  obtain rfl : i = k := by omega
  exact hk
theorem MvB.adj (h : MvB W n dx dy L M) {i k : Nat} (hi : litB L i = true) (hk : litB L k = true) : Adj W (i + (dy * W + dx)) (k + (dy * W + dx)) ↔ Adj W i k := by
  obtain ⟨e1, e2⟩ := mv_div (dy := dy) (h.inn i hi)
  obtain ⟨e3, e4⟩ := mv_div (dy := dy) (h.inn k hk)
  unfold Adj
  rw [e1, e2, e3, e4]
  omega
theorem MvB.conn (h : MvB W n dx dy L M) {i j : Nat} (c : Conn L W i j) : Conn M W (i + (dy * W + dx)) (j + (dy * W + dx)) := by
  induction c with
  | one hi => exact .one (h.to _ hi)
  | more c a l ih => exact .more ih ((h.adj c.lit2 l).2 a) (h.to _ l)
theorem MvB.conn2 (h : MvB W n dx dy L M) {a b : Nat} (c : Conn M W a b) : ∀ i j, a = i + (dy * W + dx) → b = j + (dy * W + dx) → Conn L W i j := by
  induction c with
  | one hi =>
    intro i j e1 e2
    obtain rfl : i = j := by omega
    subst e1
    exact .one (h.back hi)
  | more c a l ih =>
    intro i j e1 e2
    obtain ⟨k, ek, hk⟩ := h.from_ _ c.lit2
    subst ek e2
    exact .more (ih i k e1 rfl) ((h.adj hk (h.back l)).1 a) (h.back l)
/-- the numbers, moved. -/
def mvL (n s : Nat) (l : List Int) : List Int := (List.range n).map fun j => if s ≤ j then l.getD (j - s) 0 else 0
theorem mvL_at {n s : Nat} {l : List Int} {j : Nat} (hj : j < n) : (mvL n s l).getD j 0 = if s ≤ j then l.getD (j - s) 0 else 0 := by
  unfold mvL
  rw [List.getD_eq_getElem?_getD, List.getElem?_map, List.getElem?_range hj]
  rfl
theorem mvL_to {n s : Nat} {l : List Int} {i : Nat} (hj : i + s < n) : (mvL n s l).getD (i + s) 0 = l.getD i 0 := by
  rw [mvL_at hj, if_pos (by omega), Nat.add_sub_cancel]
theorem MvB.labels (h : MvB W n dx dy L M) {l : List Int} {parts : Nat} (hl : IsLabels L W l parts) : IsLabels M W (mvL n (dy * W + dx) l) parts := by
  have key : ∀ j, litB M j = true → ∃ i, j = i + (dy * W + dx) ∧ litB L i = true ∧ (mvL n (dy * W + dx) l).getD j 0 = l.getD i 0 := fun j hj => by
    obtain ⟨i, e, hi⟩ := h.from_ j hj
    subst e
    exact ⟨i, rfl, hi, mvL_to (h.lt hi)⟩
  refine ⟨by unfold mvL; rw [List.length_map, List.length_range, h.l2], fun j hj => ?_, fun j hj => ?_, fun j hj => ?_, fun i j hi hj => ?_, fun j a hj h1 h2 => ?_, ?_⟩
  · by_cases q : j < n
    · rw [mvL_at q]
      split
      · rename_i q2
        have : litB L (j - (dy * W + dx)) = false := by
          cases e : litB L (j - (dy * W + dx)) with
          | false => rfl
          | true =>
            have := h.to _ e
            rw [Nat.sub_add_cancel q2, hj] at this
            cases this
        exact hl.dark _ this
      · rfl
    · rw [List.getD_eq_getElem?_getD, List.getElem?_eq_none (by unfold mvL; rw [List.length_map, List.length_range]; omega)]
      rfl
  · obtain ⟨i, _, hi, e⟩ := key j hj
    rw [e]; exact hl.low i hi
  · obtain ⟨i, _, hi, e⟩ := key j hj
    rw [e]; exact hl.high i hi
  · obtain ⟨x, e1, hx, f1⟩ := key i hi
    obtain ⟨y, e2, hy, f2⟩ := key j hj
    rw [f1, f2, hl.part x y hx hy]
    subst e1 e2
    exact ⟨h.conn, fun c => h.conn2 c x y rfl rfl⟩
  · obtain ⟨i, e, hi, f⟩ := key j hj
    rw [f] at h2
    obtain ⟨k, hk, lk, ek⟩ := hl.first i a hi h1 h2
    exact ⟨k + (dy * W + dx), by omega, h.to k lk, by rw [mvL_to (h.lt lk)]; exact ek⟩
  · rcases hl.all with e | ⟨i, hi, e⟩
    · exact .inl e
    · exact .inr ⟨i + (dy * W + dx), h.to i hi, by rw [mvL_to (h.lt hi)]; exact e⟩
end
/-- a part, moved. -/
def mvS (dx dy : Nat) (s : Sp) : Sp := ⟨s.le + dx, s.tp + dy, s.ri + dx, s.lo + dy, s.px, s.li, s.sx + 1024 * dx * s.li, s.sy + 1024 * dy * s.li, s.k⟩
/-- counts above the ground, moved. -/
structure MvC (W H dx dy : Nat) (A B : List Int) (L M : List Bool) : Prop where
  lit : MvB W (H * W) dx dy L M
  val : ∀ i, litB L i = true → B.getD (i + (dy * W + dx)) 0 = A.getD i 0
  pos : ∀ i, litB L i = true → 1 ≤ A.getD i 0
section
variable {W H dx dy : Nat} {A B : List Int} {L M : List Bool}
def MvR (W H dx dy k : Nat) (s t : Sp) : Prop := (s = sp0 W H k ∧ t = sp0 W H k) ∨ (1 ≤ s.px ∧ t = mvS dx dy s)
theorem mvR_step (h : MvC W H dx dy A B L M) {k i : Nat} {s t : Sp} (hr : MvR W H dx dy k s t) (hi : litB L i = true) : MvR W H dx dy k (spStep W A s i) (spStep W B t (i + (dy * W + dx))) := by
  obtain ⟨e1, e2⟩ := mv_div (dy := dy) (h.lit.inn i hi)
  have hin := h.lit.inn i hi
  have hv := h.val i hi
  have hlt := h.lit.lt hi
  have hH : i / W + dy < H := by
    rw [← e1]
    exact (Nat.div_lt_iff_lt_mul (by omega)).2 hlt
  right
  unfold spStep
  rw [e1, e2, hv]
  generalize A.getD i 0 = v
  generalize i % W = x at *
  generalize i / W = y at *
  rcases hr with ⟨rfl, rfl⟩ | ⟨hp, rfl⟩
  · refine ⟨by simp [sp0], ?_⟩
    unfold mvS sp0
    simp only [Sp.mk.injEq]
    refine ⟨by omega, by omega, by omega, by omega, by first | trivial | omega, by first | trivial | omega, ?_, ?_, trivial⟩
    · grind
    · grind
  · refine ⟨by show 1 ≤ s.px + 1; omega, ?_⟩
    unfold mvS
    simp only [Sp.mk.injEq]
    refine ⟨by omega, by omega, by omega, by omega, trivial, trivial, ?_, ?_, trivial⟩
    · grind
    · grind
theorem spN_dark {lab ov : List Int} {k : Nat} : ∀ (m n : Nat), m ≤ n → (∀ i, m ≤ i → i < n → lab.getD i 0 ≠ (k : Int)) → spN lab ov W H k n = spN lab ov W H k m
  | m, 0, h, _ => by obtain rfl : m = 0 := by omega
                     rfl
  | m, n + 1, h, hd => by
    by_cases e : m = n + 1
    · rw [e]
    · rw [spN_next, if_neg (hd n (by omega) (by omega))]
      exact spN_dark m n (by omega) (fun i a b => hd i a (by omega))
theorem mv_part (h : MvC W H dx dy A B L M) {l : List Int} {parts : Nat} (hl : IsLabels L W l parts) {k : Nat} (hk : 1 ≤ k) : ∀ n, n + (dy * W + dx) ≤ H * W → MvR W H dx dy k (spN l A W H k n) (spN (mvL (H * W) (dy * W + dx) l) B W H k (n + (dy * W + dx)))
  | 0, hn => .inl ⟨rfl, by
    rw [spN_dark 0 (0 + (dy * W + dx)) (by omega) (fun i _ hi => ?_)]
    · rfl
    · rw [mvL_at (by omega), if_neg (by omega)]
      omega⟩
  | n + 1, hn => by
    have ih := mv_part h hl hk n (by omega)
    rw [show n + 1 + (dy * W + dx) = n + (dy * W + dx) + 1 by omega, spN_next, spN_next, mvL_to (by omega)]
    by_cases e : l.getD n 0 = (k : Int)
    · rw [if_pos e, if_pos e]
      refine mvR_step h ih ?_
      cases q : litB L n with
      | true => rfl
      | false =>
        rw [hl.dark n q] at e
        omega
    · rw [if_neg e, if_neg e]
      exact ih
theorem mv_one (h : MvC W H dx dy A B L M) {l : List Int} {parts : Nat} (hl : IsLabels L W l parts) (hs : dy * W + dx ≤ H * W) {k : Nat} (hk : 1 ≤ k) : MvR W H dx dy k (spK l A W H k) (spK (mvL (H * W) (dy * W + dx) l) B W H k) := by
  have h1 := mv_part h hl hk (H * W - (dy * W + dx)) (by omega)
  rw [Nat.sub_add_cancel hs] at h1
  unfold spK
  have e1 : (mvL (H * W) (dy * W + dx) l).length = H * W := by unfold mvL; rw [List.length_map, List.length_range]
  have e2 : l.length = H * W := by rw [hl.len, h.lit.l1]
  rw [e1, e2, spN_dark (H * W - (dy * W + dx)) (H * W) (by omega) (fun i a b => ?_)]
  · exact h1
  · have : litB L i = false := by
      cases q : litB L i with
      | false => rfl
      | true =>
        have := h.lit.lt q
        omega
    rw [hl.dark i this]
    omega
theorem place_map (X : List Sp) (s : Sp) : placeV (X.map (mvS dx dy)) (mvS dx dy s) = (placeV X s).map (mvS dx dy) := by
  unfold placeV
  rw [List.takeWhile_map, List.dropWhile_map, List.map_append, List.map_append]
  rfl
theorem mv_spots (h : MvC W H dx dy A B L M) {l : List Int} {parts : Nat} (hl : IsLabels L W l parts) (hs : dy * W + dx ≤ H * W) : ∀ n, spotsV (mvL (H * W) (dy * W + dx) l) B W H 1 n = (spotsV l A W H 1 n).map (mvS dx dy)
  | 0 => rfl
  | n + 1 => by
    have ih := mv_spots h hl hs n
    unfold spotsV
    rw [ih]
    rcases mv_one h hl hs (k := n + 1) (by omega) with ⟨e1, e2⟩ | ⟨hp, e⟩
    · rw [e1, e2, if_pos (by simp [sp0]), if_pos (by simp [sp0])]
    · rw [e, if_neg (by show ¬ (spK l A W H (n + 1)).px < 1; omega), if_neg (by omega), place_map]
/-- sums are not below nought, light there is. -/
theorem sp_pos (h : MvC W H dx dy A B L M) {l : List Int} {parts : Nat} (hl : IsLabels L W l parts) {k : Nat} (hk : 1 ≤ k) : ∀ n, 0 ≤ (spN l A W H k n).sx ∧ 0 ≤ (spN l A W H k n).sy ∧ (spN l A W H k n).px ≤ (spN l A W H k n).li
  | 0 => ⟨Int.le_refl _, Int.le_refl _, Int.le_refl _⟩
  | n + 1 => by
    have ih := sp_pos h hl hk n
    rw [spN_next]
    by_cases e : l.getD n 0 = (k : Int)
    · rw [if_pos e]
      have hn : litB L n = true := by
        cases q : litB L n with
        | true => rfl
        | false =>
          rw [hl.dark n q] at e
          omega
      have hv := h.pos n hn
      have a1 : 0 ≤ (1024 * ((n % W : Nat) : Int) + 512) * A.getD n 0 := Int.mul_nonneg (by omega) (by omega)
      have a2 : 0 ≤ (1024 * ((n / W : Nat) : Int) + 512) * A.getD n 0 := Int.mul_nonneg (by have := Int.natCast_nonneg (n / W); omega) (by omega)
      unfold spStep
      refine ⟨?_, ?_, ?_⟩
      · show 0 ≤ (spN l A W H k n).sx + _; omega
      · show 0 ≤ (spN l A W H k n).sy + _; omega
      · show (spN l A W H k n).px + 1 ≤ (spN l A W H k n).li + _; omega
    · rw [if_neg e]
      exact ih
theorem spots_in {l : List Int} (P : Sp → Prop) (hP : ∀ k, 1 ≤ k → 1 ≤ (spK l A W H k).px → P (spK l A W H k)) : ∀ n, ∀ s ∈ spotsV l A W H 1 n, P s
  | 0 => fun s hs => by cases hs
  | n + 1 => fun s hs => by
    unfold spotsV at hs
    split at hs
    · exact spots_in P hP n s hs
    · rename_i q
      have := (place_perm _ _).mem_iff.1 hs
      rcases List.mem_append.1 this with h1 | h1
      · exact spots_in P hP n s h1
      · rw [List.mem_singleton.1 h1]
        exact hP _ (by omega) (by omega)
theorem mv_fine (h : MvC W H dx dy A B L M) {l : List Int} {parts : Nat} (hl : IsLabels L W l parts) (n : Nat) : ∀ s ∈ spotsV l A W H 1 n, 0 ≤ s.sx ∧ 0 ≤ s.sy ∧ 1 ≤ s.li :=
  spots_in _ (fun k hk hp => by
    have := sp_pos h hl hk l.length
    unfold spK at hp ⊢
    exact ⟨this.1, this.2.1, by omega⟩) n
end
/-- a quotient, moved. -/
theorem mv_quo {x l d : Int} (hx : 0 ≤ x) (hl : 1 ≤ l) (hd : 0 ≤ d) : (x + 1024 * d * l).tdiv l = x.tdiv l + 1024 * d := by
  have : 0 ≤ 1024 * d * l := Int.mul_nonneg (by omega) (by omega)
  rw [Int.tdiv_eq_ediv_of_nonneg (by omega), Int.tdiv_eq_ediv_of_nonneg hx, Int.add_mul_ediv_right _ _ (by omega)]
/-! pictures laid into greater ones -/
/-- the first so many counts of a picture of w across are laid into one of W across. -/
structure PadTo (P : List Int) (w W n ex ey i : Nat) (C : List Int) : Prop where
  len : C.length = n
  at_ : ∀ j, C.getD j 0 = if ex ≤ j % W ∧ j % W < ex + w ∧ ey ≤ j / W ∧ (j / W - ey) * w + (j % W - ex) < i then P.getD ((j / W - ey) * w + (j % W - ex)) 0 else 0
  few : C.countP (fun y => decide (y ≠ 0)) ≤ i
theorem pad0 (P : List Int) (w W n ex ey : Nat) : PadTo P w W n ex ey 0 (List.replicate n 0) := by
  refine ⟨by simp, fun j => ?_, ?_⟩
  · rw [if_neg (by omega)]
    by_cases q : j < n
    · simp [List.getD, q]
    · simp [List.getD, q]
  · rw [List.countP_replicate]
    simp
theorem pad_pos {w W ex ey i : Nat} (hw : 1 ≤ w) (he : ex + w ≤ W) : ((i / w + ey) * W + (i % w + ex)) % W = i % w + ex ∧ ((i / w + ey) * W + (i % w + ex)) / W = i / w + ey := by
  have h1 := Nat.mod_lt i (show 0 < w by omega)
  have h2 : i % w + ex < W := by omega
  constructor
  · rw [Nat.add_comm, Nat.add_mul_mod_self_right, Nat.mod_eq_of_lt h2]
  · rw [Nat.add_comm, Nat.add_mul_div_right _ _ (by omega), Nat.div_eq_of_lt h2]
    omega
theorem PadTo.put {P : List Int} {w W n ex ey i : Nat} {C : List Int} (h : PadTo P w W n ex ey i C) (hw : 1 ≤ w) (he : ex + w ≤ W) (hp : (i / w + ey) * W + (i % w + ex) < n) : PadTo P w W n ex ey (i + 1) (C.set ((i / w + ey) * W + (i % w + ex)) (P.getD i 0)) := by
  obtain ⟨e1, e2⟩ := pad_pos (ey := ey) (i := i) hw he
  have hm := Nat.mod_lt i (show 0 < w by omega)
  refine ⟨by rw [List.length_set]; exact h.len, fun j => ?_, ?_⟩
  · rw [getD_setI (by rw [h.len]; exact hp)]
    by_cases q : (i / w + ey) * W + (i % w + ex) = j
    · rw [if_pos q, ← q, e1, e2]
      have e3 : (i / w + ey - ey) * w + (i % w + ex - ex) = i := by
        rw [Nat.add_sub_cancel, Nat.add_sub_cancel, Nat.mul_comm]
        exact Nat.div_add_mod i w
      rw [e3, if_pos ⟨by omega, by omega, Nat.le_add_left _ _, by omega⟩]
    · rw [if_neg q, h.at_ j]
      by_cases c : ex ≤ j % W ∧ j % W < ex + w ∧ ey ≤ j / W
      · have hne : (j / W - ey) * w + (j % W - ex) ≠ i := fun e => by
          apply q
          have f1 : i / w = j / W - ey := by
            rw [← e, Nat.add_comm, Nat.add_mul_div_right _ _ (by omega), Nat.div_eq_of_lt (by omega)]
            omega
          have f2 : i % w = j % W - ex := by
            rw [← e, Nat.add_comm, Nat.add_mul_mod_self_right, Nat.mod_eq_of_lt (by omega)]
          rw [f1, f2, Nat.sub_add_cancel c.2.2, Nat.sub_add_cancel c.1, Nat.mul_comm]
          exact Nat.div_add_mod j W
        by_cases d : (j / W - ey) * w + (j % W - ex) < i
        · rw [if_pos ⟨c.1, c.2.1, c.2.2, d⟩, if_pos ⟨c.1, c.2.1, c.2.2, by omega⟩]
        · rw [if_neg (fun z => d z.2.2.2), if_neg (fun z => by have := z.2.2.2; omega)]
      · rw [if_neg (fun z => c ⟨z.1, z.2.1, z.2.2.1⟩), if_neg (fun z => c ⟨z.1, z.2.1, z.2.2.1⟩)]
  · rw [List.countP_set (by rw [h.len]; exact hp)]
    have := h.few
    split <;> split <;> omega
/-- all of it. -/
structure PadAll (P : List Int) (w h W H ex ey : Nat) (C : List Int) : Prop where
  len : C.length = H * W
  at_ : ∀ j, C.getD j 0 = if ex ≤ j % W ∧ j % W < ex + w ∧ ey ≤ j / W ∧ j / W < ey + h then P.getD ((j / W - ey) * w + (j % W - ex)) 0 else 0
  few : C.countP (fun y => decide (y ≠ 0)) ≤ h * w
theorem PadTo.all {P : List Int} {w h W H ex ey : Nat} {C : List Int} (p : PadTo P w W (H * W) ex ey (h * w) C) : PadAll P w h W H ex ey C := by
  refine ⟨p.len, fun j => ?_, p.few⟩
  rw [p.at_ j]
  by_cases c : ex ≤ j % W ∧ j % W < ex + w ∧ ey ≤ j / W
  · by_cases d : j / W < ey + h
    · have : (j / W - ey) * w + (j % W - ex) < h * w := by
        have h1 : (j / W - ey + 1) * w ≤ h * w := Nat.mul_le_mul_right _ (by omega)
        rw [Nat.add_mul, Nat.one_mul] at h1
        omega
      rw [if_pos ⟨c.1, c.2.1, c.2.2, this⟩, if_pos ⟨c.1, c.2.1, c.2.2, d⟩]
    · have : ¬ (j / W - ey) * w + (j % W - ex) < h * w := by
        have h1 : h * w ≤ (j / W - ey) * w := Nat.mul_le_mul_right _ (by omega)
        omega
      rw [if_neg (fun z => this z.2.2.2), if_neg (fun z => d z.2.2.2)]
  · rw [if_neg (fun z => c ⟨z.1, z.2.1, z.2.2.1⟩), if_neg (fun z => c ⟨z.1, z.2.1, z.2.2.1⟩)]
theorem row_split (p : Pic) (W : Nat) (hW : p.wide.toNat = W) : ∀ m, boxL p 0 0 W m = (List.range (m * W)).map fun i => p.L.getD i 0
  | 0 => by simp [boxL]
  | m + 1 => by
    rw [box_next, row_split p W hW m, Nat.add_mul, Nat.one_mul, List.range_add, List.map_append, List.map_map]
    congr 1
    unfold segL
    rw [hW]
    refine List.map_congr_left (fun d _ => ?_)
    simp
theorem list_of (C : List Int) {n : Nat} (h : C.length = n) : ((List.range n).map fun i => C.getD i 0) = C := by
  refine List.ext_getElem (by simp [h]) (fun i h1 h2 => ?_)
  simp [List.getD, List.getElem?_eq_getElem h2]
/-- a picture with few counts that are not nought has the ground nought, where one tile is all of it. -/
theorem ground_none {q : Pic} {W H : Nat} (hW : q.wide = (W : Nat)) (hH : q.high = (H : Nat)) (w1 : 1 ≤ W) (w2 : W ≤ 256) (h1 : 1 ≤ H) (h2 : H ≤ 256) (hl : q.L.length = H * W) (h0 : ∀ x ∈ q.L, 0 ≤ x) (hf : 2 * q.L.countP (fun y => decide (y ≠ 0)) < H * W) : groundV q 256 = [0] := by
  have eW : q.wide.toNat = W := by omega
  have eH : q.high.toNat = H := by omega
  have c1 : cdiv W 256 = 1 := by unfold cdiv; omega
  have c2 : cdiv H 256 = 1 := by unfold cdiv; omega
  have e : groundV q 256 = [medV (tileL q 256 (0 * 256) (0 * 256))] := by
    unfold groundV
    rw [eW, eH, c1, c2]
    rfl
  have et : tileL q 256 (0 * 256) (0 * 256) = q.L := by
    unfold tileL
    rw [eW, eH, show min 256 (W - 0 * 256) = W by omega, show min 256 (H - 0 * 256) = H by omega]
    show boxL q 0 0 W H = q.L
    rw [row_split q W eW H, list_of q.L hl]
  rw [e, et]
  have hpos : 0 < q.L.length := by rw [hl]; exact Nat.mul_pos h1 w1
  have hb : belowN q.L 0 = 0 := by
    unfold belowN
    rw [List.countP_eq_zero]
    intro x hx
    have := h0 x hx
    simp
    omega
  have hs : sameN q.L 0 + q.L.countP (fun y => decide (y ≠ 0)) = q.L.length := by
    unfold sameN
    rw [List.length_eq_countP_add_countP (fun y : Int => decide (y = 0))]
    congr 1
    refine List.countP_congr (fun x _ => ?_)
    simp
  have := med_eq hpos (x := 0) ⟨by rw [hb]; omega, by rw [hb]; omega⟩
  rw [← this]
theorem over_none {q : Pic} {W H : Nat} (hW : q.wide = (W : Nat)) (hH : q.high = (H : Nat)) (hl : q.L.length = H * W) (hg : groundV q 256 = [0]) : overV q 256 = q.L := by
  have eW : q.wide.toNat = W := by omega
  have eH : q.high.toNat = H := by omega
  unfold overV gAt
  rw [hg, eW, eH]
  have z : ∀ k, ([0] : List Int).getD k 0 = 0 := fun k => by cases k <;> rfl
  simp only [z, Int.sub_zero]
  exact list_of q.L hl
theorem litC_at {C : List Int} {o : Int} (ho : 0 ≤ o) (j : Nat) : litB (C.map fun n => decide (o < n)) j = decide (o < C.getD j 0) := by
  unfold litB
  by_cases q : j < C.length
  · simp [List.getD, List.getElem?_eq_getElem q]
  · rw [List.getD_eq_getElem?_getD, List.getD_eq_getElem?_getD, List.getElem?_eq_none (by simpa using q), List.getElem?_eq_none (by omega)]
    show false = decide (o < 0)
    rw [decide_eq_false (by omega)]
/-- the two pictures of the law. -/
theorem pads_moved {P : List Int} {w h W H dx dy : Nat} {A B : List Int} {o : Int} (ha : PadAll P w h W H 1 1 A) (hb : PadAll P w h W H (1 + dx) (1 + dy) B) (ho : 1 ≤ o) (hx : 1 + w + dx ≤ W) (hy : 1 + h + dy ≤ H) : MvC W H dx dy A B (A.map fun n => decide (o < n)) (B.map fun n => decide (o < n)) := by
  have inn : ∀ i, litB (A.map fun n => decide (o < n)) i = true → o < A.getD i 0 ∧ i % W + dx < W ∧ i / W + dy < H := fun i hi => by
    rw [litC_at (by omega)] at hi
    have h1 : o < A.getD i 0 := by simpa using hi
    refine ⟨h1, ?_⟩
    rw [ha.at_ i] at h1
    split at h1
    · rename_i c
      omega
    · omega
  have val : ∀ i, i % W + dx < W → B.getD (i + (dy * W + dx)) 0 = A.getD i 0 := fun i hi => by
    obtain ⟨e1, e2⟩ := mv_div (dy := dy) hi
    rw [hb.at_, ha.at_, e1, e2]
    generalize i % W = x
    generalize i / W = y
    by_cases c : 1 ≤ x ∧ x < 1 + w ∧ 1 ≤ y ∧ y < 1 + h
    · rw [if_pos (by omega), if_pos c, show y + dy - (1 + dy) = y - 1 by omega, show x + dx - (1 + dx) = x - 1 by omega]
    · rw [if_neg (by omega), if_neg c]
  refine ⟨⟨by rw [List.length_map, ha.len], by rw [List.length_map, hb.len], fun i hi => (inn i hi).2.1, fun i hi => ?_, fun j hj => ?_⟩, fun i hi => val i (inn i hi).2.1, fun i hi => by have := (inn i hi).1; omega⟩
  · rw [litC_at (by omega), val i (inn i hi).2.1]
    exact decide_eq_true (inn i hi).1
  · rw [litC_at (by omega)] at hj
    have h1 : o < B.getD j 0 := by simpa using hj
    have c : 1 + dx ≤ j % W ∧ 1 + dy ≤ j / W := by
      rw [hb.at_ j] at h1
      split at h1
      · rename_i c
        exact ⟨c.1, c.2.2.1⟩
      · omega
    have hdm := Nat.div_add_mod j W
    have hW : 0 < W := by omega
    have hlt := Nat.mod_lt j hW
    obtain ⟨x, ex⟩ : ∃ x, j % W = x + dx := ⟨j % W - dx, by omega⟩
    obtain ⟨y, ey⟩ : ∃ y, j / W = y + dy := ⟨j / W - dy, by omega⟩
    have ej : j = (y * W + x) + (dy * W + dx) := by
      rw [ex, ey, Nat.mul_comm, Nat.add_mul] at hdm
      omega
    refine ⟨y * W + x, ej, ?_⟩
    have hx2 : (y * W + x) % W + dx < W := by
      rw [Nat.add_comm (y * W) x, Nat.add_mul_mod_self_right, Nat.mod_eq_of_lt (by omega)]
      omega
    rw [litC_at (by omega), ← val _ hx2, ← ej]
    exact decide_eq_true h1
end Go.Proofs.YtgmaganajfcpbajDoor
