/-
  The windows of a track, by its rises and sets: the instants at which it is above. Nothing of the program's text.
-/
import Derived.Test.YthhhomlgcefalahDoorEvPg
import Derived.Test.YthhhomlgcefalahDoorEvSpP
namespace Go.Proofs.YthhhomlgcefalahDoor

theorem seg_rise {s p q lev d : Int} (h1 : p ≤ lev) (h2 : lev < q) : 0 < (p - lev) * (s - d) + (q - lev) * d ↔ downV s (lev - p) (q - p) < d := by
  unfold downV
  rw [rise_iff (by omega)]
  have e : (p - lev) * (s - d) + (q - lev) * d = (q - p) * d - s * (lev - p) := by
    have a1 : (p - lev) * (s - d) = (p - lev) * s - (p - lev) * d := Int.mul_sub _ _ _
    have a2 : (q - p) * d = (q - lev) * d - (p - lev) * d := by rw [← Int.sub_mul]; congr 1; omega
    have a3 : s * (lev - p) = -((p - lev) * s) := by rw [← Int.neg_mul, Int.mul_comm]; congr 1; omega
    omega
  omega
theorem seg_set {s p q lev d : Int} (h1 : lev < p) (h2 : q ≤ lev) : 0 < (p - lev) * (s - d) + (q - lev) * d ↔ d < upV s (p - lev) (p - q) := by
  rw [upV_is (by omega), set_iff (by omega)]
  have e : (p - lev) * (s - d) + (q - lev) * d = s * (p - lev) - (p - q) * d := by
    have a1 : (p - lev) * (s - d) = (p - lev) * s - (p - lev) * d := Int.mul_sub _ _ _
    have a2 : (p - q) * d = (p - lev) * d - (q - lev) * d := by rw [← Int.sub_mul]; congr 1; omega
    have a3 : s * (p - lev) = (p - lev) * s := Int.mul_comm _ _
    omega
  omega
theorem seg_pos {s p q lev d : Int} (h1 : lev < p) (h2 : lev < q) (d0 : 0 ≤ d) (ds : d ≤ s) (hs : 0 < s) : 0 < (p - lev) * (s - d) + (q - lev) * d := by
  have a1 := Int.mul_nonneg (show 0 ≤ p - lev by omega) (show 0 ≤ s - d by omega)
  have a2 := Int.mul_nonneg (show 0 ≤ q - lev by omega) d0
  by_cases h : d = 0
  · have := Int.mul_pos (show 0 < p - lev by omega) (show 0 < s - d by omega)
    omega
  · have := Int.mul_pos (show 0 < q - lev by omega) (show 0 < d by omega)
    omega
theorem seg_neg {s p q lev d : Int} (h1 : p ≤ lev) (h2 : q ≤ lev) (d0 : 0 ≤ d) (ds : d ≤ s) : ¬ 0 < (p - lev) * (s - d) + (q - lev) * d := by
  have a1 := Int.mul_nonneg (show 0 ≤ lev - p by omega) (show 0 ≤ s - d by omega)
  have a2 := Int.mul_nonneg (show 0 ≤ lev - q by omega) d0
  have b1 : (p - lev) * (s - d) = -((lev - p) * (s - d)) := by rw [← Int.neg_mul]; congr 1; omega
  have b2 : (q - lev) * d = -((lev - q) * d) := by rw [← Int.neg_mul]; congr 1; omega
  omega
theorem idx_at {t : Tr} (hs : 1 ≤ t.st) {c : Nat} {d : Int} (d0 : 0 ≤ d) (ds : d < t.st) : idx t (t.fr + (c : Int) * t.st + d) = c ∧ rest t (t.fr + (c : Int) * t.st + d) = d := by
  have e : (t.fr + (c : Int) * t.st + d - t.fr) / t.st = (c : Int) := by
    have := (Int.ediv_emod_unique (a := t.fr + (c : Int) * t.st + d - t.fr) (b := t.st) (r := d) (q := (c : Int)) (by omega)).2 ⟨by rw [Int.mul_comm]; omega, d0, ds⟩
    exact this.1
  have e2 : idx t (t.fr + (c : Int) * t.st + d) = c := by
    unfold idx
    rw [e]
    omega
  refine ⟨e2, ?_⟩
  unfold rest
  rw [e2]
  omega
theorem above_seg {t : Tr} (h : TrOk t) (lev : Int) {c : Nat} (hc : c + 1 < t.L.length) {d : Int} (d0 : 0 ≤ d) (ds : d ≤ t.st) :
    aboveV t lev (t.fr + (c : Int) * t.st + d) = decide (0 < (t.h c - lev) * (t.st - d) + (t.h (c + 1) - lev) * d) := by
  have s1 := h.s1
  by_cases hd : d < t.st
  · obtain ⟨e1, e2⟩ := idx_at s1 (c := c) d0 hd
    unfold aboveV
    rw [e1, e2, if_neg (by omega)]
  · obtain rfl : d = t.st := by omega
    have e : t.fr + (c : Int) * t.st + t.st = t.fr + ((c + 1 : Nat) : Int) * t.st + 0 := by
      rw [Int.natCast_add, Int.add_mul]
      omega
    obtain ⟨e1, e2⟩ := idx_at s1 (c := c + 1) (d := 0) (by omega) (by omega)
    rw [e]
    unfold aboveV
    rw [e1, e2]
    simp only [Int.sub_self, Int.mul_zero, Int.zero_add, Int.sub_zero, Int.add_zero]
    have hp : 0 < (t.h (c + 1) - lev) * t.st ↔ lev < t.h (c + 1) := by
      constructor
      · intro q
        by_cases g : lev < t.h (c + 1)
        · exact g
        · exfalso
          have := Int.mul_nonneg (show 0 ≤ lev - t.h (c + 1) by omega) (show 0 ≤ t.st by omega)
          rw [Int.sub_mul] at this q
          omega
      · intro q
        exact Int.mul_pos (by omega) (by omega)
    split
    · have : t.L.length - 1 = c + 1 := by omega
      rw [this]
      exact decide_eq_decide.2 hp.symm
    · rfl
/-! spans, one behind the other -/
def winL (s : List Spn × Int) (e : Evt) : List Spn × Int := if e.k = 1 then (s.1, e.at_ + 1) else (s.1 ++ [⟨s.2, e.at_⟩], s.2)
structure Win (t : Tr) (lev : Int) (c : Nat) (S : List Spn) (f : Int) : Prop where
  rise : riseV S
  low : ∀ k, k < S.length → t.fr ≤ (S.getD k sp0).f
  high : ∀ k, k < S.length → (S.getD k sp0).t ≤ t.fr + (c : Int) * t.st
  few : S.length ≤ c
  opn : lev < t.h c → f ≤ t.fr + (c : Int) * t.st ∧ t.fr ≤ f ∧ ∀ k, k < S.length → (S.getD k sp0).t < f
  at_ : ∀ y, t.fr ≤ y → y ≤ t.fr + (c : Int) * t.st → (aboveV t lev y = true ↔ inV S y = true ∨ lev < t.h c ∧ f ≤ y)
theorem getD_old {S : List Spn} {s : Spn} {k : Nat} (h : k < S.length) : (S ++ [s]).getD k sp0 = S.getD k sp0 := by
  rw [List.getD_eq_getElem?_getD, List.getD_eq_getElem?_getD, List.getElem?_append_left h]
theorem getD_new {S : List Spn} {s : Spn} : (S ++ [s]).getD S.length sp0 = s := by
  rw [List.getD_eq_getElem?_getD, List.getElem?_append_right (Nat.le_refl _), Nat.sub_self]
  rfl
theorem inV_snoc {S : List Spn} {s : Spn} {y : Int} : inV (S ++ [s]) y = true ↔ inV S y = true ∨ s.f ≤ y ∧ y < s.t := by
  unfold inV
  rw [List.any_append, Bool.or_eq_true]
  simp
theorem rise_snoc {S : List Spn} {s : Spn} (h : riseV S) (h1 : s.f < s.t) (h2 : ∀ k, k < S.length → (S.getD k sp0).t < s.f) : riseV (S ++ [s]) := by
  intro i hi
  rw [List.length_append, List.length_singleton] at hi
  unfold Spn.Up
  rcases (show i < S.length ∨ i = S.length by omega) with q | rfl
  · rw [getD_old q]
    refine ⟨(h i q).1, fun z => ?_⟩
    rw [getD_old (by omega)]
    exact (h i q).2 z
  · rw [getD_new]
    refine ⟨h1, fun z => ?_⟩
    rw [getD_old (by omega)]
    exact h2 _ (by omega)
theorem inV_high {S : List Spn} {T y : Int} (h : ∀ k, k < S.length → (S.getD k sp0).t ≤ T) (hy : T ≤ y) : ¬ inV S y = true := by
  intro q
  obtain ⟨k, hk, _, h2⟩ := inV_some q
  have := h k hk
  omega
theorem Win.first (t : Tr) (h : TrOk t) (lev : Int) : Win t lev 0 [] t.fr := by
  have n1 := h.n1
  have s1 := h.s1
  have nil : ∀ k, ¬ k < ([] : List Spn).length := fun k hk => Nat.not_lt_zero k hk
  refine ⟨fun k hk => absurd hk (nil k), fun k hk => absurd hk (nil k), fun k hk => absurd hk (nil k), Nat.le_refl _, fun _ => ⟨by simp, Int.le_refl _, fun k hk => absurd hk (nil k)⟩, fun y h1 h2 => ?_⟩
  have e : y = t.fr + ((0 : Nat) : Int) * t.st + 0 := by simp at h2 ⊢; omega
  have a := above_seg h lev (c := 0) (d := 0) (by omega) (Int.le_refl _) (by omega)
  rw [← e] at a
  rw [a, decide_eq_true_eq, Int.mul_zero, Int.add_zero, Int.sub_zero]
  constructor
  · intro q
    refine .inr ⟨?_, h1⟩
    by_cases g : lev < t.h 0
    · exact g
    · exfalso
      have := Int.mul_nonneg (show 0 ≤ lev - t.h 0 by omega) (show 0 ≤ t.st by omega)
      rw [Int.sub_mul] at this q
      omega
  · rintro (q | q)
    · cases q
    · exact Int.mul_pos (by omega) (by omega)
theorem Win.next {t : Tr} (h : TrOk t) {lev : Int} {c : Nat} {S : List Spn} {f : Int} (hc : c + 1 < t.L.length) (W : Win t lev c S f) :
    Win t lev (c + 1) ((crossV t lev c).foldl winL (S, f)).1 ((crossV t lev c).foldl winL (S, f)).2 := by
  have s1 := h.s1
  have eT : t.fr + ((c + 1 : Nat) : Int) * t.st = t.fr + (c : Int) * t.st + t.st := by
    rw [Int.natCast_add, Int.add_mul]
    omega
  have hT : t.fr ≤ t.fr + (c : Int) * t.st := by have := Int.mul_nonneg (show (0 : Int) ≤ c by omega) (show 0 ≤ t.st by omega); omega
  have key : ∀ y, t.fr + (c : Int) * t.st ≤ y → y ≤ t.fr + (c : Int) * t.st + t.st → aboveV t lev y = decide (0 < (t.h c - lev) * (t.st - (y - (t.fr + (c : Int) * t.st))) + (t.h (c + 1) - lev) * (y - (t.fr + (c : Int) * t.st))) := by
    intro y y1 y2
    have := above_seg h lev hc (d := y - (t.fr + (c : Int) * t.st)) (by omega) (by omega)
    rwa [show t.fr + (c : Int) * t.st + (y - (t.fr + (c : Int) * t.st)) = y by omega] at this
  have hlow := W.low
  have hhigh := W.high
  have hfew := W.few
  have hopn := W.opn
  have hat := W.at_
  have hrise := W.rise
  generalize hTc : t.fr + (c : Int) * t.st = T at *
  by_cases a1 : lev < t.h c
  · obtain ⟨o1, o2, o3⟩ := hopn a1
    by_cases a2 : lev < t.h (c + 1)
    · rw [cross_nil (by constructor <;> intro <;> assumption)]
      refine ⟨hrise, hlow, fun k hk => ?_, by show S.length ≤ c + 1; omega, fun _ => ⟨?_, o2, o3⟩, fun y y1 y2 => ?_⟩
      · have := hhigh k hk
        rw [eT]
        show (S.getD k sp0).t ≤ _
        omega
      · rw [eT]
        show f ≤ _
        omega
      · rw [eT] at y2
        show _ ↔ inV S y = true ∨ _ ∧ f ≤ y
        by_cases q : y ≤ T
        · rw [hat y y1 q]
          exact or_congr Iff.rfl ⟨fun g => ⟨a2, g.2⟩, fun g => ⟨a1, g.2⟩⟩
        · rw [key y (by omega) y2, decide_eq_true_eq]
          exact ⟨fun _ => .inr ⟨a2, by omega⟩, fun _ => seg_pos a1 a2 (by omega) (by omega) (by omega)⟩
    · rw [cross_set a1 (by omega), hTc]
      have u1 : 0 < upV t.st (t.h c - lev) (t.h c - t.h (c + 1)) := by
        have := (seg_set (s := t.st) (d := 0) a1 (show t.h (c + 1) ≤ lev by omega)).1 (by
          rw [Int.mul_zero, Int.add_zero, Int.sub_zero]
          exact Int.mul_pos (by omega) (by omega))
        exact this
      have u2 := (up_in (a := t.st) (b := t.h c - lev) (c := t.h c - t.h (c + 1)) (by omega) (by omega) (by omega) (by omega)).2
      have u3 : ∀ d, 0 < (t.h c - lev) * (t.st - d) + (t.h (c + 1) - lev) * d ↔ d < upV t.st (t.h c - lev) (t.h c - t.h (c + 1)) := fun d => seg_set a1 (by omega)
      generalize upV t.st (t.h c - lev) (t.h c - t.h (c + 1)) = u at *
      show Win t lev (c + 1) (S ++ [⟨f, T + u⟩]) f
      have ln : (S ++ [(⟨f, T + u⟩ : Spn)]).length = S.length + 1 := by simp
      refine ⟨rise_snoc hrise (by show f < T + u; omega) o3, fun k hk => ?_, fun k hk => ?_, by omega, fun q => absurd q a2, fun y y1 y2 => ?_⟩
      · rw [ln] at hk
        rcases (show k < S.length ∨ k = S.length by omega) with q | rfl
        · rw [getD_old q]
          exact hlow k q
        · rw [getD_new]
          exact o2
      · rw [ln] at hk
        rw [eT]
        rcases (show k < S.length ∨ k = S.length by omega) with q | rfl
        · rw [getD_old q]
          have := hhigh k q
          omega
        · rw [getD_new]
          show T + u ≤ _
          omega
      · rw [eT] at y2
        rw [inV_snoc]
        by_cases q : y ≤ T
        · rw [hat y y1 q]
          constructor
          · rintro (g | g)
            · exact .inl (.inl g)
            · exact .inl (.inr ⟨g.2, by show y < T + u; omega⟩)
          · rintro ((g | g) | g)
            · exact .inl g
            · exact .inr ⟨a1, g.1⟩
            · exact absurd g.1 a2
        · rw [key y (by omega) y2, decide_eq_true_eq, u3]
          constructor
          · intro g
            exact .inl (.inr ⟨by show f ≤ y; omega, by show y < T + u; omega⟩)
          · rintro ((g | g) | g)
            · exact absurd g (inV_high hhigh (by omega))
            · have := g.2
              have : y < T + u := this
              omega
            · exact absurd g.1 a2
  · by_cases a2 : lev < t.h (c + 1)
    · rw [cross_rise (by omega) a2, hTc]
      have u1 := (down_in (a := t.st) (b := lev - t.h c) (c := t.h (c + 1) - t.h c) (by omega) (by omega) (by omega) (by omega)).1
      have u3 : ∀ d, 0 < (t.h c - lev) * (t.st - d) + (t.h (c + 1) - lev) * d ↔ downV t.st (lev - t.h c) (t.h (c + 1) - t.h c) < d := fun d => seg_rise (by omega) a2
      have u2 : downV t.st (lev - t.h c) (t.h (c + 1) - t.h c) < t.st := (u3 t.st).1 (by
        rw [Int.sub_self, Int.mul_zero, Int.zero_add]
        exact Int.mul_pos (by omega) (by omega))
      generalize downV t.st (lev - t.h c) (t.h (c + 1) - t.h c) = u at *
      show Win t lev (c + 1) S (T + u + 1)
      refine ⟨hrise, hlow, fun k hk => ?_, by omega, fun _ => ⟨by rw [eT]; omega, by omega, fun k hk => ?_⟩, fun y y1 y2 => ?_⟩
      · have := hhigh k hk
        rw [eT]
        omega
      · have := hhigh k hk
        omega
      · rw [eT] at y2
        by_cases q : y ≤ T
        · rw [hat y y1 q]
          constructor
          · rintro (g | g)
            · exact .inl g
            · exact absurd g.1 a1
          · rintro (g | g)
            · exact .inl g
            · exfalso
              omega
        · rw [key y (by omega) y2, decide_eq_true_eq, u3]
          constructor
          · intro g
            exact .inr ⟨a2, by omega⟩
          · rintro (g | g)
            · exact absurd g (inV_high hhigh (by omega))
            · omega
    · rw [cross_nil (by constructor <;> intro <;> contradiction)]
      refine ⟨hrise, hlow, fun k hk => ?_, by show S.length ≤ c + 1; omega, fun q => absurd q a2, fun y y1 y2 => ?_⟩
      · have := hhigh k hk
        rw [eT]
        show (S.getD k sp0).t ≤ _
        omega
      · rw [eT] at y2
        show _ ↔ inV S y = true ∨ _ ∧ f ≤ y
        by_cases q : y ≤ T
        · rw [hat y y1 q]
          exact or_congr Iff.rfl ⟨fun g => absurd g.1 a1, fun g => absurd g.1 a2⟩
        · rw [key y (by omega) y2, decide_eq_true_eq]
          refine ⟨fun g => absurd g (seg_neg (by omega) (by omega) (by omega) (by omega)), ?_⟩
          rintro (g | g)
          · exact absurd g (inV_high hhigh (by omega))
          · exact absurd g.1 a2
theorem Win.all {t : Tr} (h : TrOk t) (lev : Int) : ∀ c, c < t.L.length → Win t lev c ((crosses t lev c).foldl winL ([], t.fr)).1 ((crosses t lev c).foldl winL ([], t.fr)).2
  | 0, _ => Win.first t h lev
  | c + 1, hc => by
    have := Win.next h hc (Win.all h lev c (by omega))
    unfold crosses
    rw [List.foldl_append]
    exact this
/-- what the program tells. -/
def windowsV (t : Tr) (lev : Int) : List Spn :=
  if lev < t.h (t.L.length - 1) then ((crosses t lev (t.L.length - 1)).foldl winL ([], t.fr)).1 ++ [⟨((crosses t lev (t.L.length - 1)).foldl winL ([], t.fr)).2, t.last + 1⟩]
  else ((crosses t lev (t.L.length - 1)).foldl winL ([], t.fr)).1
theorem windows_right {t : Tr} (h : TrOk t) (lev : Int) : riseV (windowsV t lev) ∧ (windowsV t lev).length ≤ 20000 ∧ (∀ k, k < (windowsV t lev).length → t.fr ≤ ((windowsV t lev).getD k sp0).f ∧ ((windowsV t lev).getD k sp0).t ≤ t.last + 1) ∧ ∀ y, t.fr ≤ y → y ≤ t.last → inV (windowsV t lev) y = aboveV t lev y := by
  have n1 := h.n1
  have n2 := h.n2
  have W := Win.all h lev (t.L.length - 1) (by omega)
  have eL : t.fr + ((t.L.length - 1 : Nat) : Int) * t.st = t.last := by
    unfold Tr.last
    rw [show ((t.L.length - 1 : Nat) : Int) = (t.L.length : Int) - 1 by omega]
  unfold windowsV
  obtain ⟨hrise, hlow, hhigh, hfew, hopn, hat⟩ := W
  rw [eL] at hhigh hopn hat
  generalize ((crosses t lev (t.L.length - 1)).foldl winL ([], t.fr)).1 = S at *
  generalize ((crosses t lev (t.L.length - 1)).foldl winL ([], t.fr)).2 = f at *
  by_cases a : lev < t.h (t.L.length - 1)
  · rw [if_pos a]
    obtain ⟨o1, o2, o3⟩ := hopn a
    have ln : (S ++ [(⟨f, t.last + 1⟩ : Spn)]).length = S.length + 1 := by simp
    refine ⟨rise_snoc hrise (by show f < t.last + 1; omega) o3, by omega, fun k hk => ?_, fun y y1 y2 => ?_⟩
    · rw [ln] at hk
      rcases (show k < S.length ∨ k = S.length by omega) with q | rfl
      · rw [getD_old q]
        have := hhigh k q
        exact ⟨hlow k q, by omega⟩
      · rw [getD_new]
        exact ⟨o2, Int.le_refl _⟩
    · rw [Bool.eq_iff_iff, inV_snoc, hat y y1 y2]
      constructor
      · rintro (g | g)
        · exact .inl g
        · exact .inr ⟨a, g.1⟩
      · rintro (g | g)
        · exact .inl g
        · exact .inr ⟨g.2, by show y < t.last + 1; omega⟩
  · rw [if_neg a]
    refine ⟨hrise, by omega, fun k hk => ⟨hlow k hk, by have := hhigh k hk; omega⟩, fun y y1 y2 => ?_⟩
    rw [Bool.eq_iff_iff, hat y y1 y2]
    constructor
    · exact fun g => .inl g
    · rintro (g | g)
      · exact g
      · exact absurd g.1 a
end Go.Proofs.YthhhomlgcefalahDoor
