/-
  The document's numbers of a text, by their contract.
-/
import Derived.Test.YtfifbcoedfdnjabDoorScan
import Derived.Test.YtfifbcoedfdnjabDoorRead2
namespace Go.Proofs.YtfifbcoedfdnjabDoor
open Go.RowKit Go.Lib

/-- where the document's loop over digits stands: i of them are read. -/
structure MidS (many : Nat) (L : List Int) (i : Nat) (n : Int) (M : List Int) : Prop where
  le : i ≤ many
  n0 : 0 ≤ n
  n1 : n < 10 ^ i
  eq : digs many 0 L = ((digs (many - i) n M).1, (digs (many - i) n M).2.1 + i, (digs (many - i) n M).2.2)
theorem MidS.start (many : Nat) (L : List Int) : MidS many L 0 0 L := ⟨Nat.zero_le _, by omega, by simp, by simp⟩
theorem MidS.step {many : Nat} {L : List Int} {i : Nat} {n x : Int} {M : List Int} (h : MidS many L i n (x :: M)) (hi : i < many) (hx : 48 ≤ x ∧ x ≤ 57) : MidS many L (i + 1) (n * 10 + (x - 48)) M where
  le := hi
  n0 := by have := h.n0; omega
  n1 := by
    have := h.n1
    rw [Int.pow_succ]
    omega
  eq := by
    rw [h.eq, show many - i = (many - (i + 1)) + 1 by omega, digs_hit _ _ _ _ hx]
    simp only
    rw [show (digs (many - (i + 1)) (n * 10 + (x - 48)) M).2.1 + 1 + i = (digs (many - (i + 1)) (n * 10 + (x - 48)) M).2.1 + (i + 1) by omega]
theorem MidS.done {many : Nat} {L : List Int} {i : Nat} {n : Int} {M : List Int} (h : MidS many L i n M) (e : many - i = 0 ∨ (decide (48 ≤ hd M) && decide (hd M ≤ 57)) = false) : (digs many 0 L).1 = n ∧ (digs many 0 L).2.1 = i := by
  have e2 : digs (many - i) n M = (n, 0, M) := by
    rcases e with e | e
    · rw [e]; rfl
    · rcases (show many - i = 0 ∨ ∃ j, many - i = j + 1 from (by cases h' : many - i with | zero => exact .inl rfl | succ j => exact .inr ⟨j, rfl⟩)) with h0 | ⟨j, hj⟩
      · rw [h0]; rfl
      · rw [hj]; exact digs_miss j n M e
  rw [h.eq, e2]
  simp

theorem drop_see (O : List Int) (a : Nat) : (a < O.length ∧ O.drop a = seeAt O a :: O.drop (a + 1)) ∨ (O.length ≤ a ∧ O.drop a = [] ∧ seeAt O a = -2) := by
  unfold seeAt
  rcases Nat.lt_or_ge a O.length with h | h
  · left
    rw [if_pos h]
    refine ⟨h, ?_⟩
    rw [List.drop_eq_getElem_cons h]
    simp [List.getD, List.getElem?_eq_getElem h]
  · right
    rw [if_neg (by omega)]
    exact ⟨h, List.drop_eq_nil_of_le h, rfl⟩
theorem see_miss {O : List Int} {a : Nat} (h : ¬ (48 ≤ seeAt O a ∧ seeAt O a ≤ 57)) : (decide (48 ≤ hd (O.drop a)) && decide (hd (O.drop a) ≤ 57)) = false := by
  rcases drop_see O a with ⟨_, e⟩ | ⟨_, e, _⟩
  · rw [e, show hd (seeAt O a :: O.drop (a + 1)) = seeAt O a from rfl, ← Bool.decide_and]
    exact decide_eq_false h
  · rw [e]; rfl

/-- too few digits are wrong. -/
def lackB (b : Int) (k least : Nat) (a : Nat) : Int := if k < least then firstBad b a else b

set_option maxHeartbeats 2000000 in
theorem numberS_any (g : Nat) (least most : Nat) (O : List Int) (a : Nat) (b : Int) (w : World) (h : Sc g O a b w) (ha : a ≤ 900000000) (h6 : most ≤ 6) :
    Calls Tryd.prog 39 #[.pointer (some ⟨g, 0, none⟩), .int .i64 least, .int .i64 most] w fun e w' => e = .returned (.tuple #[.int .i64 (digs most 0 (O.drop a)).1, .int .i64 (digs most 0 (O.drop a)).2.1]) ∧ Sc g O (a + (digs most 0 (O.drop a)).2.1) (lackB b (digs most 0 (O.drop a)).2.1 least (a + (digs most 0 (O.drop a)).2.1)) w' ∧ Below g w w' := by
  have hmid := MidS.start most (O.drop a)
  have hfin : ∀ (i : Nat) (n : Int), MidS most (O.drop a) i n (O.drop (a + i)) → most - i = 0 ∨ ¬ (48 ≤ seeAt O (a + i) ∧ seeAt O (a + i) ≤ 57) → (digs most 0 (O.drop a)).1 = n ∧ (digs most 0 (O.drop a)).2.1 = i := fun i n hm e => hm.done (e.imp id see_miss)
  generalize hD1 : (digs most 0 (O.drop a)).1 = D1 at hfin ⊢
  generalize hD2 : (digs most 0 (O.drop a)).2.1 = D2 at hfin ⊢
  have HF := hide hfin
  clear hfin hD1 hD2
  go_enter Tryd.func39, Tryd.ntmps39
  go_wp2
  go_loopw [8, 9] (fun x y wr => ∃ (i : Nat) (n : Int), x = .int .i64 n ∧ y = .int .i64 i ∧ MidS most (O.drop a) i n (O.drop (a + i)) ∧ Sc g O (a + i) b wr ∧ Below g w wr) (fun _ y _ => most - (RowKit.intOf y).toNat)
  case atStart => exact ⟨0, 0, rfl, rfl, hmid, h, Below.refl _ _⟩
  case round =>
    obtain ⟨i, n, rfl, rfl, hm, hs, hb⟩ := hrel
    have le := hm.le
    have n0 := hm.n0
    have n1 := hm.n1
    have ps := pow_small i (by omega)
    have HM := hide hm
    have HS := hide hs
    have HB := hide hb
    have c1 := hs.pos
    have f1 := hs.f1
    clear hm hmid h hb
    by_cases hi : i < most
    · by_cases h48 : 48 ≤ seeAt O (a + i)
      · by_cases h57 : seeAt O (a + i) ≤ 57
        · obtain ⟨hx, M', hM⟩ : (48 ≤ seeAt O (a + i) ∧ seeAt O (a + i) ≤ 57) ∧ MidS most (O.drop a) (i + 1) (n * 10 + (seeAt O (a + i) - 48)) (O.drop (a + (i + 1))) ∧ True := by
            refine ⟨⟨h48, h57⟩, ?_, trivial⟩
            rcases drop_see O (a + i) with ⟨_, e⟩ | ⟨_, _, e⟩
            · have := unhide HM
              rw [e] at this
              exact this.step hi ⟨h48, h57⟩
            · omega
          have HM' := hide M'
          clear M' hM
          have d57 : seeAt O (a + i) ≤ 57 := h57
          go_wp2_with fail
          refine (see_any g O (a + i) b _ hs).mono ?_
          rintro e w1 ⟨rfl, m1, rfl⟩
          go_wp2_with fail
          refine (see_any g O (a + i) b _ ((unhide HS).drew _)).mono ?_
          rintro e w1 ⟨rfl, m2, rfl⟩
          go_wp2_with fail
          refine (see_any g O (a + i) b _ ((unhide HS).drew _)).mono ?_
          rintro e w1 ⟨rfl, m3, rfl⟩
          go_wp2
          have M := ((unhide HS).drew (m1 + m2 + m3)).at1 (z := (a : Int) + (i : Int) + 1) (a' := a + (i + 1)) (by omega) (by omega)
          exact ⟨⟨i + 1, n * 10 + (seeAt O (a + i) - 48), by congr 1; omega, by go_num, unhide HM', M.1, (below_drew (unhide HB) _).trans M.2⟩, by simp [RowKit.intOf]; omega⟩
        · obtain ⟨e1, e2⟩ := unhide HF i n (unhide HM) (.inr (by omega))
          subst e1 e2
          go_wp2_with fail
          refine (see_any g O (a + D2) b _ hs).mono ?_
          rintro e w1 ⟨rfl, m1, rfl⟩
          go_wp2_with fail
          refine (see_any g O (a + D2) b _ ((unhide HS).drew _)).mono ?_
          rintro e w1 ⟨rfl, m2, rfl⟩
          by_cases hk : D2 < least
          · go_wp2_with fail
            refine (wrong_any g O (a + D2) (a + D2) b _ _ ((unhide HS).drew _) (by omega)).mono ?_
            rintro e w2 ⟨rfl, h2, hb2⟩
            have H2 := hide h2
            clear h2
            go_wp2
            go_ret2
            exact ⟨rfl, by unfold lackB; rw [if_pos hk]; exact unhide H2, (below_drew (unhide HB) _).trans hb2⟩
          · go_wp2
            go_ret2
            exact ⟨rfl, by unfold lackB; rw [if_neg hk]; exact (unhide HS).drew _, below_drew (unhide HB) _⟩
      · obtain ⟨e1, e2⟩ := unhide HF i n (unhide HM) (.inr (by omega))
        subst e1 e2
        go_wp2_with fail
        refine (see_any g O (a + D2) b _ hs).mono ?_
        rintro e w1 ⟨rfl, m1, rfl⟩
        by_cases hk : D2 < least
        · go_wp2_with fail
          refine (wrong_any g O (a + D2) (a + D2) b _ _ ((unhide HS).drew _) (by omega)).mono ?_
          rintro e w2 ⟨rfl, h2, hb2⟩
          have H2 := hide h2
          clear h2
          go_wp2
          go_ret2
          exact ⟨rfl, by unfold lackB; rw [if_pos hk]; exact unhide H2, (below_drew (unhide HB) _).trans hb2⟩
        · go_wp2
          go_ret2
          exact ⟨rfl, by unfold lackB; rw [if_neg hk]; exact (unhide HS).drew _, below_drew (unhide HB) _⟩
    · obtain ⟨e1, e2⟩ := unhide HF i n (unhide HM) (.inl (by omega))
      subst e1 e2
      by_cases hk : D2 < least
      · go_wp2_with fail
        refine (wrong_any g O (a + D2) (a + D2) b _ _ (unhide HS) (by omega)).mono ?_
        rintro e w2 ⟨rfl, h2, hb2⟩
        have H2 := hide h2
        clear h2
        go_wp2
        go_ret2
        exact ⟨rfl, by unfold lackB; rw [if_pos hk]; exact unhide H2, (unhide HB).trans hb2⟩
      · go_wp2
        go_ret2
        exact ⟨rfl, by unfold lackB; rw [if_neg hk]; exact unhide HS, unhide HB⟩
end Go.Proofs.YtfifbcoedfdnjabDoor
