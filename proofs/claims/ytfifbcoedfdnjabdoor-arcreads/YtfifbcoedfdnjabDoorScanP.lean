/-
  What the document reads is what the grammar says. No program here.
-/
import Derived.Test.YtfifbcoedfdnjabDoorScan3
namespace Go.Proofs.YtfifbcoedfdnjabDoor

theorem fb_keep (p n : Nat) : firstBad (p : Int) n = p := by unfold firstBad; rw [if_neg (by omega)]
theorem fb_new (n : Nat) : firstBad (-1) n = n := by unfold firstBad; rw [if_pos (by omega)]
theorem lack_keep (p k l a : Nat) : lackB (p : Int) k l a = p := by unfold lackB; split <;> simp [fb_keep]
theorem over_keep (p : Nat) (n : Int) (a : Nat) : overB (p : Int) n a = p := by unfold overB; split <;> simp [fb_keep]
theorem needB_keep (O : List Int) (c : Int) (a p : Nat) : needB O c a (p : Int) = p := by unfold needB; split <;> simp [fb_keep]
theorem endB_keep (O : List Int) (a p : Nat) : endB O a (p : Int) = p := by unfold endB; split <;> simp [fb_keep]
theorem fin_keep (O : List Int) (s n : Int) (a p : Nat) : (fin3 O s n a (p : Int)).2 = p := by unfold fin3; simp only [needB_keep, endB_keep]
theorem mid_keep (O : List Int) (s n : Int) (a p : Nat) : (mid3 O s n a (p : Int)).2 = p := by
  unfold mid3
  split
  · rw [lack_keep]; exact fin_keep _ _ _ _ _
  · exact fin_keep _ _ _ _ _
theorem sec_keep (O : List Int) (s n : Int) (a p : Nat) : (sec3 O s n a (p : Int)).2 = p := by
  unfold sec3
  rw [if_pos (.inr (by omega))]
theorem rest_keep (O : List Int) (m s : Int) (a p : Nat) : (rest3 O m s a (p : Int)).2 = p := by
  unfold rest3
  rw [if_pos (.inr (by omega))]

theorem needP_see (O : List Int) (c : Int) (hc : c ≠ -2) (a k : Nat) : needP c (O.drop a) k = if seeAt O a = c then .got 0 (O.drop (a + 1)) (k + 1) else .bad k := by
  rcases drop_see O a with ⟨_, e⟩ | ⟨_, e, e2⟩
  · rw [e]; simp only [needP]
  · rw [e, e2]
    rw [if_neg (fun h => hc h.symm)]
    rfl

/-- the document's value and place against the grammar's. -/
def Rel (r : Got) (n : Int) (q : Int × Int) : Prop :=
  match r with
  | .bad p => q.2 = p
  | .got x _ _ => q = (n + x, -1)

theorem end_rel (O : List Int) (n x : Int) (a : Nat) : Rel (endP x (O.drop a) a) n (n + x, endB O a (-1)) := by
  unfold endB
  rcases drop_see O a with ⟨h, e⟩ | ⟨h, e, _⟩
  · rw [e, if_pos h, fb_new]; rfl
  · rw [e, if_neg (by omega)]; rfl

theorem fin_rel (O : List Int) (s n x : Int) (hs : s ≠ -2) (a : Nat) :
    Rel (match needP s (O.drop a) a with | .bad p => .bad p | .got _ M j => endP x M j) n (fin3 O s (n + x) a (-1)) := by
  rw [needP_see O s hs]
  unfold fin3 needB
  by_cases h : seeAt O a = s
  · rw [if_pos h, if_pos h]
    exact end_rel O n x (a + 1)
  · rw [if_neg h, if_neg h, fb_new]
    exact endB_keep O (a + 1) a

theorem mid_rel (O : List Int) (s n y : Int) (hs : s ≠ -2) (a : Nat) :
    Rel (match pointP (O.drop a) a with | .bad p => .bad p | .got c M j => match needP s M j with | .bad p => .bad p | .got _ M' j' => endP (y + c) M' j') n (mid3 O s (n + y) a (-1)) := by
  unfold mid3
  by_cases h : seeAt O a = 46
  · rw [if_pos h]
    rcases drop_see O a with ⟨_, e⟩ | ⟨_, _, e2⟩
    · have hp : pointP (O.drop a) a = micP (O.drop (a + 1)) (a + 1) := by rw [e, h]; simp [pointP]
      rw [hp]
      unfold micP numP
      by_cases hk : (digs 6 0 (O.drop (a + 1))).2.1 = 0
      · rw [if_pos hk, hk]
        have : lackB (-1) 0 1 (a + 1 + 0) = ((a + 1 : Nat) : Int) := by unfold lackB; rw [if_pos (by omega), fb_new]
        rw [this]
        exact fin_keep _ _ _ _ _
      · rw [if_neg hk]
        have hl : lackB (-1) (digs 6 0 (O.drop (a + 1))).2.1 1 (a + 1 + (digs 6 0 (O.drop (a + 1))).2.1) = -1 := by unfold lackB; rw [if_neg (by omega)]
        rw [hl]
        simp only
        rw [digs_rest, List.drop_drop, show a + 1 + (digs 6 0 (O.drop (a + 1))).2.1 - (a + 1) = (digs 6 0 (O.drop (a + 1))).2.1 by omega, Int.add_assoc]
        exact fin_rel O s n _ hs _
    · omega
  · rw [if_neg h]
    have hp : pointP (O.drop a) a = .got 0 (O.drop a) a := by
      rcases drop_see O a with ⟨_, e⟩ | ⟨_, e, _⟩
      · rw [e]; simp only [pointP]; rw [if_neg h]
      · rw [e]; rfl
    rw [hp]
    have := fin_rel O s n (y + 0) hs a
    rw [show n + (y + 0) = n + y by omega] at this
    exact this

theorem sec_rel (O : List Int) (s n : Int) (hs : s ≠ -2) (a : Nat) (ha : a < O.length) : Rel (secP s (O.drop a) a) n (sec3 O s n a (-1)) := by
  unfold sec3 secP
  rw [if_neg (by omega), twoP_digs]
  by_cases hk : (digs 2 0 (O.drop a)).2.1 < 2
  · rw [if_pos hk]
    have : lackB (-1) (digs 2 0 (O.drop a)).2.1 2 (a + (digs 2 0 (O.drop a)).2.1) = ((a + (digs 2 0 (O.drop a)).2.1 : Nat) : Int) := by unfold lackB; rw [if_pos hk, fb_new]
    rw [this, over_keep]
    exact mid_keep _ _ _ _ _
  · have hk2 : (digs 2 0 (O.drop a)).2.1 = 2 := by have := digs_le 2 0 (O.drop a); omega
    rw [if_neg hk]
    have : lackB (-1) (digs 2 0 (O.drop a)).2.1 2 (a + (digs 2 0 (O.drop a)).2.1) = -1 := by unfold lackB; rw [if_neg hk]
    rw [this]
    unfold upTo overB
    by_cases h59 : 59 < (digs 2 0 (O.drop a)).1
    · rw [if_pos h59, if_pos h59, fb_new]
      exact mid_keep _ _ _ _ _
    · rw [if_neg h59, if_neg h59]
      simp only
      rw [digs_rest, List.drop_drop, hk2]
      exact mid_rel O s n _ hs (a + 2)

theorem rest_rel (O : List Int) (m s : Int) (hm : m ≠ -2) (hs : s ≠ -2) (a : Nat) : Rel (sixP m s (O.drop a) a) 0 (rest3 O m s a (-1)) := by
  unfold rest3
  rcases drop_see O a with ⟨h, e⟩ | ⟨h, e, _⟩
  · rw [if_neg (by omega)]
    have h6 : sixP m s (O.drop a) a = match twoP (O.drop a) a with
      | .bad p => .bad p
      | .got x M j => match needP m M j with
        | .bad p => .bad p
        | .got _ M' j' => match M' with
          | [] => .got (x * 60000000) [] j'
          | _ :: _ => match secP s M' j' with
            | .bad p => .bad p
            | .got y M'' j'' => .got (x * 60000000 + y) M'' j'' := by rw [e]; rfl
    rw [h6, twoP_digs]
    by_cases hk : (digs 2 0 (O.drop a)).2.1 < 2
    · rw [if_pos hk]
      have : lackB (-1) (digs 2 0 (O.drop a)).2.1 2 (a + (digs 2 0 (O.drop a)).2.1) = ((a + (digs 2 0 (O.drop a)).2.1 : Nat) : Int) := by unfold lackB; rw [if_pos hk, fb_new]
      rw [this, over_keep, needB_keep]
      exact sec_keep _ _ _ _ _
    · have hk2 : (digs 2 0 (O.drop a)).2.1 = 2 := by have := digs_le 2 0 (O.drop a); omega
      rw [if_neg hk]
      have : lackB (-1) (digs 2 0 (O.drop a)).2.1 2 (a + (digs 2 0 (O.drop a)).2.1) = -1 := by unfold lackB; rw [if_neg hk]
      rw [this]
      unfold upTo overB
      by_cases h59 : 59 < (digs 2 0 (O.drop a)).1
      · rw [if_pos h59, if_pos h59, fb_new, needB_keep]
        exact sec_keep _ _ _ _ _
      · rw [if_neg h59, if_neg h59]
        simp only
        rw [digs_rest, List.drop_drop, hk2, needP_see O m hm]
        unfold needB
        by_cases hn : seeAt O (a + 2) = m
        · rw [if_pos hn, if_pos hn]
          simp only
          rcases drop_see O (a + 2 + 1) with ⟨h', e'⟩ | ⟨h', e', _⟩
          · have hr := sec_rel O s ((digs 2 0 (O.drop a)).1 * 60 * 1000000) hs (a + 2 + 1) h'
            rw [e'] at hr ⊢
            simp only
            rcases hq : secP s (seeAt O (a + 2 + 1) :: O.drop (a + 2 + 1 + 1)) (a + 2 + 1) with p | ⟨y, M, j⟩
            · rw [hq] at hr; exact hr
            · rw [hq] at hr
              have hr' : sec3 O s ((digs 2 0 (O.drop a)).1 * 60 * 1000000) (a + 2 + 1) (-1) = ((digs 2 0 (O.drop a)).1 * 60 * 1000000 + y, -1) := hr
              show _ = _
              rw [hr', show 0 + ((digs 2 0 (O.drop a)).1 * 60000000 + y) = (digs 2 0 (O.drop a)).1 * 60 * 1000000 + y by omega]
          · rw [e']
            show _ = _
            unfold sec3
            rw [if_pos (.inl h'), show (0 : Int) + (digs 2 0 (O.drop a)).1 * 60000000 = (digs 2 0 (O.drop a)).1 * 60 * 1000000 by omega]
        · rw [if_neg hn, if_neg hn, fb_new]
          exact sec_keep _ _ _ _ _
  · rw [if_pos (.inl h), e]
    rfl
end Go.Proofs.YtfifbcoedfdnjabDoor
