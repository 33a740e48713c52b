/-
  What happens along a track: the document's list. Nothing of the program.
-/
import Derived.Test.YtoacdaemhcbbhaaDoorEvTr
namespace Go.Proofs.YtoacdaemhcbbhaaDoor

structure Evt where
  k : Int
  at_ : Int
  ix : Int
deriving DecidableEq, Inhabited
def ev0 : Evt := ⟨0, 0, 0⟩
def Evt.Ahead (x e : Evt) : Prop := x.at_ < e.at_ ∨ x.at_ = e.at_ ∧ (x.ix < e.ix ∨ x.ix = e.ix ∧ x.k < e.k)
instance (x e : Evt) : Decidable (x.Ahead e) := by unfold Evt.Ahead; infer_instance
def putV : List Evt → Evt → List Evt
  | [], e => [e]
  | x :: l, e => if x.Ahead e then x :: putV l e else e :: x :: l
theorem putV_length : ∀ (l : List Evt) (e : Evt), (putV l e).length = l.length + 1
  | [], _ => rfl
  | x :: l, e => by
    unfold putV
    split
    · rw [List.length_cons, putV_length l e, List.length_cons]
    · rfl
theorem putV_perm : ∀ (l : List Evt) (e : Evt), (putV l e).Perm (e :: l)
  | [], _ => List.Perm.refl _
  | x :: l, e => by
    unfold putV
    split
    · exact ((putV_perm l e).cons x).trans (List.Perm.swap e x l)
    · exact List.Perm.refl _
theorem ahead_trans {x y z : Evt} (h : x.Ahead y) (k : y.Ahead z) : x.Ahead z := by
  unfold Evt.Ahead at *
  omega
theorem ahead_total {x y : Evt} (h : ¬ x.Ahead y) : y.Ahead x ∨ x = y := by
  by_cases e : x = y
  · exact .inr e
  · refine .inl ?_
    have : ¬ (x.at_ = y.at_ ∧ x.ix = y.ix ∧ x.k = y.k) := fun k => e (by
      cases x
      cases y
      simp_all)
    unfold Evt.Ahead at *
    omega
/-- one is not behind the other. -/
def Evt.Le (x y : Evt) : Prop := x.Ahead y ∨ x = y
theorem le_trans' {x y z : Evt} (h : x.Le y) (k : y.Le z) : x.Le z := by
  rcases h with h | rfl
  · rcases k with k | rfl
    · exact .inl (ahead_trans h k)
    · exact .inl h
  · exact k
theorem le_anti {x y : Evt} (h : x.Le y) (k : y.Le x) : x = y := by
  rcases h with h | h
  · rcases k with k | k
    · exfalso
      unfold Evt.Ahead at *
      omega
    · exact k.symm
  · exact h
theorem putV_sorted : ∀ (l : List Evt) (e : Evt), l.Pairwise Evt.Le → (putV l e).Pairwise Evt.Le
  | [], e, _ => List.pairwise_singleton _ e
  | x :: l, e, h => by
    rw [List.pairwise_cons] at h
    unfold putV
    split
    · rename_i ha
      refine List.pairwise_cons.2 ⟨fun y hy => ?_, putV_sorted l e h.2⟩
      rcases List.mem_cons.1 ((putV_perm l e).mem_iff.1 hy) with rfl | hy
      · exact .inl ha
      · exact h.1 y hy
    · rename_i ha
      have hle : e.Le x := by
        rcases ahead_total ha with k | k
        · exact .inl k
        · exact .inr k.symm
      refine List.pairwise_cons.2 ⟨fun y hy => ?_, List.pairwise_cons.2 h⟩
      rcases List.mem_cons.1 hy with rfl | hy
      · exact hle
      · exact le_trans' hle (h.1 y hy)
def sortV (l : List Evt) : List Evt := l.foldl putV []
theorem sortV_snoc (l : List Evt) (e : Evt) : sortV (l ++ [e]) = putV (sortV l) e := by
  unfold sortV
  rw [List.foldl_append]
  rfl
theorem foldl_put : ∀ (l s : List Evt), s.Pairwise Evt.Le → (l.foldl putV s).Pairwise Evt.Le ∧ (l.foldl putV s).Perm (l ++ s)
  | [], s, h => ⟨h, List.Perm.refl _⟩
  | e :: l, s, h => by
    obtain ⟨h1, h2⟩ := foldl_put l (putV s e) (putV_sorted s e h)
    refine ⟨h1, h2.trans ?_⟩
    exact ((putV_perm s e).append_left l).trans List.perm_middle
theorem sortV_sorted (l : List Evt) : (sortV l).Pairwise Evt.Le := (foldl_put l [] List.Pairwise.nil).1
theorem sortV_perm (l : List Evt) : (sortV l).Perm l := by
  have := (foldl_put l [] List.Pairwise.nil).2
  rwa [List.append_nil] at this
theorem sortV_length (l : List Evt) : (sortV l).length = l.length := (sortV_perm l).length_eq
/-- a list in order of the same events is the document's. -/
theorem sortV_unique {l s : List Evt} (h : s.Pairwise Evt.Le) (k : s.Perm l) : s = sortV l :=
  (k.trans (sortV_perm l).symm).eq_of_pairwise (fun _ _ _ _ a b => le_anti a b) h (sortV_sorted l)
/-! the events -/
def crossV (t : Tr) (lev : Int) (i : Nat) : List Evt :=
  if t.h i - lev ≤ 0 ∧ 0 < t.h (i + 1) - lev then [⟨1, t.fr + (i : Int) * t.st + t.st * -(t.h i - lev) / (t.h (i + 1) - lev - (t.h i - lev)), i⟩]
  else if 0 < t.h i - lev ∧ t.h (i + 1) - lev ≤ 0 then [⟨2, t.fr + (i : Int) * t.st - t.st * -(t.h i - lev) / (t.h i - lev - (t.h (i + 1) - lev)), if t.h (i + 1) - lev = 0 then (i : Int) + 1 else i⟩]
  else []
def runEnd (t : Tr) (i : Nat) : Nat → Nat
  | 0 => i
  | c + 1 => if t.h (runEnd t i c + 1) = t.h i ∧ runEnd t i c + 1 < t.L.length then runEnd t i c + 1 else runEnd t i c
def turnV (t : Tr) (lev : Int) (i k : Nat) : List Evt :=
  if k = t.L.length - 1 ∨ t.h (i - 1) = t.h i then []
  else if t.h (i - 1) < t.h i ∧ t.h (k + 1) < t.h i ∧ lev < t.h i then [⟨3, t.fr + (i : Int) * t.st, i⟩]
  else if t.h i < t.h (i - 1) ∧ t.h i < t.h (k + 1) ∧ t.h i ≤ lev then [⟨4, t.fr + (i : Int) * t.st, i⟩]
  else []
def crosses (t : Tr) (lev : Int) : Nat → List Evt
  | 0 => []
  | c + 1 => crosses t lev c ++ crossV t lev c
def turns (t : Tr) (lev : Int) : Nat → List Evt
  | 0 => []
  | c + 1 => turns t lev c ++ turnV t lev (c + 1) (runEnd t (c + 1) t.L.length)
def genV (t : Tr) (lev : Int) : List Evt := crosses t lev (t.L.length - 1) ++ turns t lev (t.L.length - 2)
def eventsV (t : Tr) (lev : Int) : List Evt := sortV (genV t lev)
theorem crossV_length (t : Tr) (lev : Int) (i : Nat) : (crossV t lev i).length ≤ 1 := by
  unfold crossV
  split
  · simp
  · split <;> simp
theorem turnV_length (t : Tr) (lev : Int) (i k : Nat) : (turnV t lev i k).length ≤ 1 := by
  unfold turnV
  split
  · simp
  · split
    · simp
    · split <;> simp
theorem crosses_length (t : Tr) (lev : Int) : ∀ c, (crosses t lev c).length ≤ c
  | 0 => Nat.le_refl _
  | c + 1 => by
    have a := crosses_length t lev c
    have b := crossV_length t lev c
    unfold crosses
    rw [List.length_append]
    omega
theorem turns_length (t : Tr) (lev : Int) : ∀ c, (turns t lev c).length ≤ c
  | 0 => Nat.le_refl _
  | c + 1 => by
    have a := turns_length t lev c
    have b := turnV_length t lev (c + 1) (runEnd t (c + 1) t.L.length)
    unfold turns
    rw [List.length_append]
    omega
/-- where a row of equal heights ends. -/
structure IsEnd (t : Tr) (i k : Nat) : Prop where
  le : i ≤ k
  lt : k < t.L.length
  same : ∀ j, i ≤ j → j ≤ k → t.h j = t.h i
  stop : k + 1 < t.L.length → t.h (k + 1) ≠ t.h i
theorem IsEnd.unique {t : Tr} {i k m : Nat} (h : IsEnd t i k) (g : IsEnd t i m) : k = m := by
  rcases Nat.lt_trichotomy k m with l | e | l
  · exact absurd (g.same (k + 1) (by have := h.le; omega) (by omega)) (h.stop (by have := g.lt; omega))
  · exact e
  · exact absurd (h.same (m + 1) (by have := g.le; omega) (by omega)) (g.stop (by have := h.lt; omega))
theorem runEnd_part {t : Tr} {i : Nat} (hi : i < t.L.length) : ∀ c, i ≤ runEnd t i c ∧ runEnd t i c < t.L.length ∧ runEnd t i c ≤ i + c ∧ (∀ j, i ≤ j → j ≤ runEnd t i c → t.h j = t.h i) ∧ (runEnd t i c = i + c ∨ ¬ (t.h (runEnd t i c + 1) = t.h i ∧ runEnd t i c + 1 < t.L.length))
  | 0 => ⟨Nat.le_refl _, hi, Nat.le_refl _, fun j h1 h2 => by rw [show j = i from Nat.le_antisymm h2 h1], .inl rfl⟩
  | c + 1 => by
    obtain ⟨a1, a2, a3, a4, a5⟩ := runEnd_part hi c
    unfold runEnd
    split
    · rename_i h
      refine ⟨by omega, h.2, by omega, fun j h1 h2 => ?_, ?_⟩
      · by_cases e : j = runEnd t i c + 1
        · rw [e]; exact h.1
        · exact a4 j h1 (by omega)
      · rcases a5 with e | e
        · exact .inl (by omega)
        · exact absurd h e
    · rename_i h
      exact ⟨a1, a2, by omega, a4, .inr h⟩
theorem runEnd_is {t : Tr} {i : Nat} (hi : i < t.L.length) : IsEnd t i (runEnd t i t.L.length) := by
  obtain ⟨a1, a2, a3, a4, a5⟩ := runEnd_part hi t.L.length
  refine ⟨a1, a2, a4, fun h => ?_⟩
  rcases a5 with e | e
  · omega
  · exact fun k => e ⟨k, h⟩
end Go.Proofs.YtoacdaemhcbbhaaDoor
