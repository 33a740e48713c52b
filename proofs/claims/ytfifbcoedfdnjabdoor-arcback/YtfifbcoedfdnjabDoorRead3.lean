/-
  Sixtieths, degrees and hours that are read, by their contracts.
-/
import Derived.Test.YtfifbcoedfdnjabDoorRead2
namespace Go.Proofs.YtfifbcoedfdnjabDoor
open Go.RowKit Go.Lib

theorem Rd.head {g : Nat} {x : Int} {L : List Int} {k : Nat} {w : World} (r : Rd g (x :: L) k w) : ¬ x = -1 := by
  obtain ⟨s, _, hr⟩ := r.rest
  have := hr.all x (by simp)
  omega

theorem micP_bound {L M : List Int} {k j : Nat} {n : Int} (h : micP L k = .got n M j) : 0 ≤ n ∧ n < 1000000 := by
  unfold micP at h
  rcases hn : numP 6 L k with p | ⟨a, M1, j1⟩
  · rw [hn] at h; cases h
  · rw [hn] at h
    simp only at h
    obtain ⟨a0, _, hj, d1, d2, a2⟩ := numP_bound hn (by omega)
    have e := Got.got.inj h
    rw [← e.1, hj]
    unfold pad
    rw [show k + (digs 6 0 L).2.1 - k = (digs 6 0 L).2.1 by omega]
    exact pad_bound a _ _ a0 a2 (by omega)
theorem needP_got {c n : Int} {L M : List Int} {k j : Nat} (h : needP c L k = .got n M j) : n = 0 := by
  cases L with
  | nil => cases h
  | cons x L =>
    simp only [needP] at h
    split at h
    · exact (Got.got.inj h).1.symm
    · cases h

set_option maxHeartbeats 4000000 in
theorem sixtiethsR_any (g : Nat) (m s : Int) (L : List Int) (k : Nat) (w : World) (r : Rd g L k w) (hm : m ≠ -1) (hs : s ≠ -1) :
    Calls Tryd.prog 56 #[.pointer (some ⟨g, 0, none⟩), .int .i32 m, .int .i32 s] w (Out g w (sixP m s L k) (fun n => .int .i64 n)) := by
  have lt := r.lt
  generalize hres : sixP m s L k = res
  have HRES := hide hres
  clear hres
  go_enter Tryd.func56, Tryd.ntmps56
  go_wp2_with fail
  refine (next_any g _ k _ r).mono ?_
  rintro e w1 ⟨rfl, r1, hb1⟩
  have B1 := hide (hb1.mono (Nat.le_of_lt lt))
  clear hb1
  cases L with
  | nil =>
    have hh : hd [] = -1 := rfl
    have hres := unhide HRES
    simp only [sixP] at hres
    subst hres
    go_wp2
    go_ret
    exact ⟨rfl, r1, unhide B1⟩
  | cons x L =>
    have hh : hd (x :: L) = x := rfl
    have hx := r.head
    rw [hh]
    clear hh
    generalize hL : x :: L = L0 at *
    have hsix : sixP m s L0 k = match twoP L0 k with
      | .bad p => .bad p
      | .got a M j => match needP m M j with
        | .bad p => .bad p
        | .got _ M' j' => match M' with
          | [] => .got (a * 60000000) [] j'
          | _ :: _ => match secP s M' j' with
            | .bad p => .bad p
            | .got b M'' j'' => .got (a * 60000000 + b) M'' j'' := by rw [← hL]; rfl
    rw [unhide HRES] at hsix
    have HSIX := hide hsix
    clear hsix HRES hL
    go_wp2_with fail
    have c2 := twoDigits_any g L0 k _ r1
    rcases h2 : twoP L0 k with p | ⟨a, M, j⟩
    · rw [h2] at c2
      have hres := unhide HSIX
      simp only [h2] at hres
      subst hres
      refine c2.mono ?_
      rintro e w2 ⟨rfl, hb2⟩
      clear c2
      go_wp2
      exact ⟨rfl, rfl, (unhide B1).trans hb2⟩
    · rw [h2] at c2
      obtain ⟨a1, a2, _⟩ := twoP_bound h2
      refine c2.mono ?_
      rintro e w2 ⟨rfl, r2, hb2⟩
      clear c2
      have B2 := hide ((unhide B1).trans hb2)
      clear hb2 B1
      go_wp2_with fail
      have c3 := need_any g m M j _ r2 hm
      rcases h3 : needP m M j with p | ⟨n3, M3, j3⟩
      · rw [h3] at c3
        have hres := unhide HSIX
        simp only [h2, h3] at hres
        subst hres
        refine c3.mono ?_
        rintro e w3 ⟨rfl, hb3⟩
        clear c3
        go_wp2
        exact ⟨rfl, rfl, (unhide B2).trans hb3⟩
      · rw [h3] at c3
        refine c3.mono ?_
        rintro e w3 ⟨rfl, r3, hb3⟩
        clear c3
        have B3 := hide ((unhide B2).trans hb3)
        clear hb3 B2
        have lt3 := r3.lt
        go_wp2_with fail
        refine (next_any g _ _ _ r3).mono ?_
        rintro e w4 ⟨rfl, r4, hb4⟩
        have B4 := hide ((unhide B3).trans (hb4.mono (Nat.le_of_lt lt3)))
        clear hb4 B3
        cases M3 with
        | nil =>
          have hh : hd [] = -1 := rfl
          have hres := unhide HSIX
          simp only [h2, h3] at hres
          rw [show a * 60000000 = a * 60 * 1000000 by omega] at hres
          subst hres
          go_wp2
          go_ret
          exact ⟨rfl, r4, unhide B4⟩
        | cons y M3 =>
          have hh : hd (y :: M3) = y := rfl
          have hy := r4.head
          rw [hh]
          clear hh
          generalize hL : y :: M3 = L3 at *
          have hsec : res = match secP s L3 j3 with
            | .bad p => .bad p
            | .got b M'' j'' => .got (a * 60000000 + b) M'' j'' := by
            have hres := unhide HSIX
            simp only [h2, h3, ← hL] at hres
            rw [← hL]
            exact hres
          have HSEC := hide hsec
          clear hsec HSIX hL
          go_wp2_with fail
          have c5 := twoDigits_any g L3 j3 _ r4
          rcases h5 : twoP L3 j3 with p | ⟨b, M5, j5⟩
          · rw [h5] at c5
            have hres := unhide HSEC
            simp only [secP, h5] at hres
            subst hres
            refine c5.mono ?_
            rintro e w5 ⟨rfl, hb5⟩
            clear c5
            go_wp2
            exact ⟨rfl, rfl, (unhide B4).trans hb5⟩
          · rw [h5] at c5
            obtain ⟨b1, b2, _⟩ := twoP_bound h5
            refine c5.mono ?_
            rintro e w5 ⟨rfl, r5, hb5⟩
            clear c5
            have B5 := hide ((unhide B4).trans hb5)
            clear hb5 B4
            go_wp2_with fail
            rcases (show (∃ M6, M5 = 46 :: M6) ∨ hd M5 ≠ 46 from (by
              cases M5 with
              | nil => exact .inr (by show (-1 : Int) ≠ 46; omega)
              | cons z M6 =>
                by_cases hz : z = 46
                · exact .inl ⟨M6, by rw [hz]⟩
                · exact .inr hz)) with ⟨M6, rfl⟩ | hmiss
            · have hpt : pointP (46 :: M6) j5 = micP M6 (j5 + 1) := by simp [pointP]
              refine (take_hit g 46 M6 j5 _ r5).mono ?_
              rintro e w6 ⟨rfl, r6, hb6⟩
              have B6 := hide ((unhide B5).trans hb6)
              clear hb6 B5
              go_wp2_with fail
              have c7 := micros_any g M6 (j5 + 1) _ r6
              rcases h7 : micP M6 (j5 + 1) with p | ⟨c, M7, j7⟩
              · rw [h7] at c7
                have hres := unhide HSEC
                simp only [secP, h5, hpt, h7] at hres
                subst hres
                refine c7.mono ?_
                rintro e w7 ⟨rfl, hb7⟩
                clear c7
                go_wp2
                exact ⟨rfl, rfl, (unhide B6).trans hb7⟩
              · rw [h7] at c7
                obtain ⟨k1, k2⟩ := micP_bound h7
                refine c7.mono ?_
                rintro e w7 ⟨rfl, r7, hb7⟩
                clear c7
                have B7 := hide ((unhide B6).trans hb7)
                clear hb7 B6
                go_wp2_with fail
                have c8 := need_any g s M7 j7 _ r7 hs
                rcases h8 : needP s M7 j7 with p | ⟨n8, M8, j8⟩
                · rw [h8] at c8
                  have hres := unhide HSEC
                  simp only [secP, h5, hpt, h7, h8] at hres
                  subst hres
                  refine c8.mono ?_
                  rintro e w8 ⟨rfl, hb8⟩
                  clear c8
                  go_wp2
                  exact ⟨rfl, rfl, (unhide B7).trans hb8⟩
                · rw [h8] at c8
                  refine c8.mono ?_
                  rintro e w8 ⟨rfl, r8, hb8⟩
                  clear c8
                  have B8 := hide ((unhide B7).trans hb8)
                  clear hb8 B7
                  go_wp2_with fail
                  have c9 := needEnd_any g (b * 1000000 + c) M8 j8 _ r8
                  rcases h9 : endP (b * 1000000 + c) M8 j8 with p | ⟨n9, M9, j9⟩
                  · rw [h9] at c9
                    have hres := unhide HSEC
                    simp only [secP, h5, hpt, h7, h8, h9] at hres
                    subst hres
                    refine c9.mono ?_
                    rintro e w9 ⟨rfl, hb9⟩
                    clear c9
                    go_wp2
                    exact ⟨rfl, rfl, (unhide B8).trans hb9⟩
                  · rw [h9] at c9
                    have hn9 : n9 = b * 1000000 + c := by
                      cases M8 with
                      | nil => exact (Got.got.inj h9).1.symm
                      | cons => cases h9
                    subst hn9
                    have hres := unhide HSEC
                    simp only [secP, h5, hpt, h7, h8, h9] at hres
                    rw [show a * 60000000 + (b * 1000000 + c) = a * 60 * 1000000 + b * 1000000 + c by omega] at hres
                    subst hres
                    refine c9.mono ?_
                    rintro e w9 ⟨rfl, r9, hb9⟩
                    clear c9
                    go_wp2
                    go_ret
                    exact ⟨rfl, r9, (unhide B8).trans hb9⟩
            · have hpt : pointP M5 j5 = .got 0 M5 j5 := by
                cases M5 with
                | nil => rfl
                | cons z M6 => simp only [pointP]; rw [if_neg (show ¬ z = 46 from hmiss)]
              refine (take_miss g 46 M5 j5 _ r5 hmiss).mono ?_
              rintro e w6 ⟨rfl, r7, hb6⟩
              have B7 := hide ((unhide B5).trans hb6)
              clear hb6 B5
              go_wp2_with fail
              have c8 := need_any g s M5 j5 _ r7 hs
              rcases h8 : needP s M5 j5 with p | ⟨n8, M8, j8⟩
              · rw [h8] at c8
                have hres := unhide HSEC
                simp only [secP, h5, hpt, h8] at hres
                subst hres
                refine c8.mono ?_
                rintro e w8 ⟨rfl, hb8⟩
                clear c8
                go_wp2
                exact ⟨rfl, rfl, (unhide B7).trans hb8⟩
              · rw [h8] at c8
                refine c8.mono ?_
                rintro e w8 ⟨rfl, r8, hb8⟩
                clear c8
                have B8 := hide ((unhide B7).trans hb8)
                clear hb8 B7
                go_wp2_with fail
                have c9 := needEnd_any g (b * 1000000 + 0) M8 j8 _ r8
                rcases h9 : endP (b * 1000000 + 0) M8 j8 with p | ⟨n9, M9, j9⟩
                · rw [h9] at c9
                  have hres := unhide HSEC
                  simp only [secP, h5, hpt, h8, h9] at hres
                  subst hres
                  refine c9.mono ?_
                  rintro e w9 ⟨rfl, hb9⟩
                  clear c9
                  go_wp2
                  exact ⟨rfl, rfl, (unhide B8).trans hb9⟩
                · rw [h9] at c9
                  have hn9 : n9 = b * 1000000 + 0 := by
                    cases M8 with
                    | nil => exact (Got.got.inj h9).1.symm
                    | cons => cases h9
                  subst hn9
                  have hres := unhide HSEC
                  simp only [secP, h5, hpt, h8, h9] at hres
                  rw [show a * 60000000 + (b * 1000000 + 0) = a * 60 * 1000000 + b * 1000000 by omega] at hres
                  subst hres
                  refine c9.mono ?_
                  rintro e w9 ⟨rfl, r9, hb9⟩
                  clear c9
                  go_wp2
                  go_ret
                  exact ⟨rfl, r9, (unhide B8).trans hb9⟩

theorem sixP_bound {m s n : Int} {L M : List Int} {k j : Nat} (h : sixP m s L k = .got n M j) : 0 ≤ n ∧ n < 3600000000 := by
  cases L with
  | nil => have := (Got.got.inj h).1; omega
  | cons x L =>
    simp only [sixP] at h
    rcases h2 : twoP (x :: L) k with p | ⟨a, M2, j2⟩
    · rw [h2] at h; cases h
    · rw [h2] at h
      have b2 := twoP_bound h2
      simp only at h
      rcases h3 : needP m M2 j2 with p | ⟨n3, M3, j3⟩
      · rw [h3] at h; cases h
      · rw [h3] at h
        simp only at h
        cases M3 with
        | nil => have := (Got.got.inj h).1; omega
        | cons y M3 =>
          simp only at h
          rcases h4 : secP s (y :: M3) j3 with p | ⟨b, M4, j4⟩
          · rw [h4] at h; cases h
          · rw [h4] at h
            have e := (Got.got.inj h).1
            unfold secP at h4
            rcases h5 : twoP (y :: M3) j3 with p | ⟨b', M5, j5⟩
            · rw [h5] at h4; cases h4
            · rw [h5] at h4
              have b5 := twoP_bound h5
              simp only at h4
              rcases h6 : pointP M5 j5 with p | ⟨c, M6, j6⟩
              · rw [h6] at h4; cases h4
              · rw [h6] at h4
                simp only at h4
                have b6 : 0 ≤ c ∧ c < 1000000 := by
                  cases M5 with
                  | nil => have := (Got.got.inj h6).1; omega
                  | cons z M5 =>
                    simp only [pointP] at h6
                    split at h6
                    · exact micP_bound h6
                    · have := (Got.got.inj h6).1; omega
                rcases h7 : needP s M6 j6 with p | ⟨n7, M7, j7⟩
                · rw [h7] at h4; cases h4
                · rw [h7] at h4
                  simp only at h4
                  cases M7 with
                  | nil => have := (Got.got.inj h4).1; omega
                  | cons => cases h4

theorem degreesP_minus (M : List Int) : degreesP (45 :: M) = degP true M 1 := by simp [degreesP]
theorem degreesP_plus (M : List Int) : degreesP (43 :: M) = degP false M 1 := by simp [degreesP]
theorem degreesP_none (L : List Int) (h1 : hd L ≠ 45) (h2 : hd L ≠ 43) : degreesP L = degP false L 0 := by
  cases L with
  | nil => rfl
  | cons x L => simp only [degreesP]; rw [if_neg (show ¬ x = 45 from h1), if_neg (show ¬ x = 43 from h2)]

set_option maxHeartbeats 4000000 in
theorem degreesIn_any (g : Nat) (L : List Int) (w : World) (r : Rd g L 0 w) :
    Calls Tryd.prog 36 #[.pointer (some ⟨g, 0, none⟩)] w (Out g w (degreesP L) (fun n => .int .i64 n)) := by
  generalize hres : degreesP L = res
  have HR := hide hres
  clear hres
  go_enter Tryd.func36, Tryd.ntmps36
  go_wp2_with fail
  rcases (show (∃ M, L = 45 :: M) ∨ (∃ M, L = 43 :: M) ∨ (hd L ≠ 45 ∧ hd L ≠ 43) from (by
    cases L with
    | nil => exact .inr (.inr ⟨by show (-1 : Int) ≠ 45; omega, by show (-1 : Int) ≠ 43; omega⟩)
    | cons x L =>
      by_cases h1 : x = 45
      · exact .inl ⟨L, by rw [h1]⟩
      · by_cases h2 : x = 43
        · exact .inr (.inl ⟨L, by rw [h2]⟩)
        · exact .inr (.inr ⟨h1, h2⟩))) with ⟨M, rfl⟩ | ⟨M, rfl⟩ | ⟨n1, n2⟩
  · have HRES := hide ((unhide HR).symm.trans (degreesP_minus M))
    clear HR
    refine (take_hit g 45 M 0 _ r).mono ?_
    rintro e w1 ⟨rfl, r1, hb1⟩
    have B1 := hide hb1
    clear hb1 r
    have r1 : Rd g M 1 w1 := r1
    go_wp2_with fail
    have c2 := number_any g 6 M 1 _ r1 (by omega) (by omega)
    rcases h2 : numP 6 M 1 with p | ⟨d, M2, j2⟩
    · rw [h2] at c2
      have hres := unhide HRES
      simp only [degP, h2] at hres
      subst hres
      refine c2.mono ?_
      rintro e w2 ⟨rfl, hb2⟩
      clear c2
      go_wp2
      exact ⟨rfl, rfl, (unhide B1).trans hb2⟩
    · rw [h2] at c2
      obtain ⟨d1, d2, _⟩ := numP_bound h2 (by omega)
      refine c2.mono ?_
      rintro e w2 ⟨rfl, r2, hb2⟩
      clear c2
      have B2 := hide ((unhide B1).trans hb2)
      clear hb2 B1
      go_wp2_with fail
      have c3 := need_any g 176 M2 j2 _ r2 (by omega)
      rcases h3 : needP 176 M2 j2 with p | ⟨n3, M3, j3⟩
      · rw [h3] at c3
        have hres := unhide HRES
        simp only [degP, h2, h3] at hres
        subst hres
        refine c3.mono ?_
        rintro e w3 ⟨rfl, hb3⟩
        clear c3
        go_wp2
        exact ⟨rfl, rfl, (unhide B2).trans hb3⟩
      · rw [h3] at c3
        refine c3.mono ?_
        rintro e w3 ⟨rfl, r3, hb3⟩
        clear c3
        have B3 := hide ((unhide B2).trans hb3)
        clear hb3 B2
        go_wp2_with fail
        have c4 := sixtiethsR_any g 8242 8243 M3 j3 _ r3 (by omega) (by omega)
        rcases h4 : sixP 8242 8243 M3 j3 with p | ⟨b, M4, j4⟩
        · rw [h4] at c4
          have hres := unhide HRES
          simp only [degP, h2, h3, h4] at hres
          subst hres
          refine c4.mono ?_
          rintro e w4 ⟨rfl, hb4⟩
          clear c4
          go_wp2
          exact ⟨rfl, rfl, (unhide B3).trans hb4⟩
        · rw [h4] at c4
          obtain ⟨b1, b2⟩ := sixP_bound h4
          have hres := unhide HRES
          simp only [degP, h2, h3, h4, if_true] at hres
          subst hres
          refine c4.mono ?_
          rintro e w4 ⟨rfl, r4, hb4⟩
          clear c4
          go_wp2
          go_ret
          exact ⟨rfl, r4, (unhide B3).trans hb4⟩
  · have HRES := hide ((unhide HR).symm.trans (degreesP_plus M))
    clear HR
    refine (take_miss g 45 _ 0 _ r (by show (43 : Int) ≠ 45; omega)).mono ?_
    rintro e w1 ⟨rfl, r1, hb1⟩
    have B1 := hide hb1
    clear hb1 r
    go_wp2_with fail
    refine (take_hit g 43 M 0 _ r1).mono ?_
    rintro e w1' ⟨rfl, r1', hb1'⟩
    have B1' := hide ((unhide B1).trans hb1')
    clear hb1' r1 B1
    have r1' : Rd g M 1 w1' := r1'
    go_wp2_with fail
    have c2 := number_any g 6 M 1 _ r1' (by omega) (by omega)
    rcases h2 : numP 6 M 1 with p | ⟨d, M2, j2⟩
    · rw [h2] at c2
      have hres := unhide HRES
      simp only [degP, h2] at hres
      subst hres
      refine c2.mono ?_
      rintro e w2 ⟨rfl, hb2⟩
      clear c2
      go_wp2
      exact ⟨rfl, rfl, (unhide B1').trans hb2⟩
    · rw [h2] at c2
      obtain ⟨d1, d2, _⟩ := numP_bound h2 (by omega)
      refine c2.mono ?_
      rintro e w2 ⟨rfl, r2, hb2⟩
      clear c2
      have B2 := hide ((unhide B1').trans hb2)
      clear hb2 B1'
      go_wp2_with fail
      have c3 := need_any g 176 M2 j2 _ r2 (by omega)
      rcases h3 : needP 176 M2 j2 with p | ⟨n3, M3, j3⟩
      · rw [h3] at c3
        have hres := unhide HRES
        simp only [degP, h2, h3] at hres
        subst hres
        refine c3.mono ?_
        rintro e w3 ⟨rfl, hb3⟩
        clear c3
        go_wp2
        exact ⟨rfl, rfl, (unhide B2).trans hb3⟩
      · rw [h3] at c3
        refine c3.mono ?_
        rintro e w3 ⟨rfl, r3, hb3⟩
        clear c3
        have B3 := hide ((unhide B2).trans hb3)
        clear hb3 B2
        go_wp2_with fail
        have c4 := sixtiethsR_any g 8242 8243 M3 j3 _ r3 (by omega) (by omega)
        rcases h4 : sixP 8242 8243 M3 j3 with p | ⟨b, M4, j4⟩
        · rw [h4] at c4
          have hres := unhide HRES
          simp only [degP, h2, h3, h4] at hres
          subst hres
          refine c4.mono ?_
          rintro e w4 ⟨rfl, hb4⟩
          clear c4
          go_wp2
          exact ⟨rfl, rfl, (unhide B3).trans hb4⟩
        · rw [h4] at c4
          obtain ⟨b1, b2⟩ := sixP_bound h4
          have hres := unhide HRES
          simp only [degP, h2, h3, h4, Bool.false_eq_true, if_false] at hres
          subst hres
          refine c4.mono ?_
          rintro e w4 ⟨rfl, r4, hb4⟩
          clear c4
          go_wp2
          go_ret
          exact ⟨rfl, r4, (unhide B3).trans hb4⟩
  · have HRES := hide ((unhide HR).symm.trans (degreesP_none L n1 n2))
    clear HR
    refine (take_miss g 45 _ 0 _ r n1).mono ?_
    rintro e w1 ⟨rfl, r1, hb1⟩
    have B1 := hide hb1
    clear hb1 r
    go_wp2_with fail
    refine (take_miss g 43 _ 0 _ r1 n2).mono ?_
    rintro e w1' ⟨rfl, r1', hb1'⟩
    have B1' := hide ((unhide B1).trans hb1')
    clear hb1' r1 B1
    go_wp2_with fail
    have c2 := number_any g 6 L 0 _ r1' (by omega) (by omega)
    rcases h2 : numP 6 L 0 with p | ⟨d, M2, j2⟩
    · rw [h2] at c2
      have hres := unhide HRES
      simp only [degP, h2] at hres
      subst hres
      refine c2.mono ?_
      rintro e w2 ⟨rfl, hb2⟩
      clear c2
      go_wp2
      exact ⟨rfl, rfl, (unhide B1').trans hb2⟩
    · rw [h2] at c2
      obtain ⟨d1, d2, _⟩ := numP_bound h2 (by omega)
      refine c2.mono ?_
      rintro e w2 ⟨rfl, r2, hb2⟩
      clear c2
      have B2 := hide ((unhide B1').trans hb2)
      clear hb2 B1'
      go_wp2_with fail
      have c3 := need_any g 176 M2 j2 _ r2 (by omega)
      rcases h3 : needP 176 M2 j2 with p | ⟨n3, M3, j3⟩
      · rw [h3] at c3
        have hres := unhide HRES
        simp only [degP, h2, h3] at hres
        subst hres
        refine c3.mono ?_
        rintro e w3 ⟨rfl, hb3⟩
        clear c3
        go_wp2
        exact ⟨rfl, rfl, (unhide B2).trans hb3⟩
      · rw [h3] at c3
        refine c3.mono ?_
        rintro e w3 ⟨rfl, r3, hb3⟩
        clear c3
        have B3 := hide ((unhide B2).trans hb3)
        clear hb3 B2
        go_wp2_with fail
        have c4 := sixtiethsR_any g 8242 8243 M3 j3 _ r3 (by omega) (by omega)
        rcases h4 : sixP 8242 8243 M3 j3 with p | ⟨b, M4, j4⟩
        · rw [h4] at c4
          have hres := unhide HRES
          simp only [degP, h2, h3, h4] at hres
          subst hres
          refine c4.mono ?_
          rintro e w4 ⟨rfl, hb4⟩
          clear c4
          go_wp2
          exact ⟨rfl, rfl, (unhide B3).trans hb4⟩
        · rw [h4] at c4
          obtain ⟨b1, b2⟩ := sixP_bound h4
          have hres := unhide HRES
          simp only [degP, h2, h3, h4, Bool.false_eq_true, if_false] at hres
          subst hres
          refine c4.mono ?_
          rintro e w4 ⟨rfl, r4, hb4⟩
          clear c4
          go_wp2
          go_ret
          exact ⟨rfl, r4, (unhide B3).trans hb4⟩

set_option maxHeartbeats 4000000 in
theorem hoursIn_any (g : Nat) (L : List Int) (w : World) (r : Rd g L 0 w) :
    Calls Tryd.prog 35 #[.pointer (some ⟨g, 0, none⟩)] w (Out g w (hoursP L) (fun n => .int .i64 n)) := by
  have c0 : w.cell? ⟨g, 1, none⟩ = some (.int .i64 0) := r.pos
  generalize hres : hoursP L = res
  have HRES := hide hres
  clear hres
  go_enter Tryd.func35, Tryd.ntmps35
  go_wp2_with fail
  have c2 := number_any g 2 L 0 _ r (by omega) (by omega)
  rcases h2 : numP 2 L 0 with p | ⟨h, M2, j2⟩
  · rw [h2] at c2
    have hres := unhide HRES
    simp only [hoursP, h2] at hres
    subst hres
    refine c2.mono ?_
    rintro e w2 ⟨rfl, hb2⟩
    clear c2
    go_wp2
    exact ⟨rfl, rfl, hb2⟩
  · rw [h2] at c2
    obtain ⟨d1, d2, _⟩ := numP_bound h2 (by omega)
    refine c2.mono ?_
    rintro e w2 ⟨rfl, r2, hb2⟩
    clear c2
    have B2 := hide hb2
    clear hb2
    by_cases h23 : 23 < h
    · have hres := unhide HRES
      simp only [hoursP, h2] at hres
      rw [if_pos h23] at hres
      subst hres
      go_wp2_with fail
      refine (needUpTo_no 23 h 0 _ h23).mono ?_
      rintro e w3 ⟨rfl, rfl⟩
      go_wp2
      exact ⟨rfl, rfl, unhide B2⟩
    · have hres := unhide HRES
      simp only [hoursP, h2] at hres
      rw [if_neg h23] at hres
      have HR2 := hide hres
      clear hres HRES
      go_wp2_with fail
      refine (needUpTo_yes 23 h _ _ (by omega)).mono ?_
      rintro e w3 ⟨rfl, rfl⟩
      go_wp2_with fail
      have c3 := need_any g 104 M2 j2 _ r2 (by omega)
      rcases h3 : needP 104 M2 j2 with p | ⟨n3, M3, j3⟩
      · rw [h3] at c3
        have hres := unhide HR2
        simp only [h3] at hres
        subst hres
        refine c3.mono ?_
        rintro e w3 ⟨rfl, hb3⟩
        clear c3
        go_wp2
        exact ⟨rfl, rfl, (unhide B2).trans hb3⟩
      · rw [h3] at c3
        refine c3.mono ?_
        rintro e w3 ⟨rfl, r3, hb3⟩
        clear c3
        have B3 := hide ((unhide B2).trans hb3)
        clear hb3 B2
        go_wp2_with fail
        have c4 := sixtiethsR_any g 109 115 M3 j3 _ r3 (by omega) (by omega)
        rcases h4 : sixP 109 115 M3 j3 with p | ⟨b, M4, j4⟩
        · rw [h4] at c4
          have hres := unhide HR2
          simp only [h3, h4] at hres
          subst hres
          refine c4.mono ?_
          rintro e w4 ⟨rfl, hb4⟩
          clear c4
          go_wp2
          exact ⟨rfl, rfl, (unhide B3).trans hb4⟩
        · rw [h4] at c4
          obtain ⟨b1, b2⟩ := sixP_bound h4
          have hres := unhide HR2
          simp only [h3, h4] at hres
          subst hres
          refine c4.mono ?_
          rintro e w4 ⟨rfl, r4, hb4⟩
          clear c4
          go_wp2
          go_ret
          exact ⟨rfl, r4, (unhide B3).trans hb4⟩
end Go.Proofs.YtfifbcoedfdnjabDoor
