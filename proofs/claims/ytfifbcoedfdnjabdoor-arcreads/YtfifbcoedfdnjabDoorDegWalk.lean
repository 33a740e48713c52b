/-
  DegreesOf and HoursOf walked.
-/
import Derived.Test.YtfifbcoedfdnjabDoorDegOf
namespace Go.Proofs.YtfifbcoedfdnjabDoor
open Go.RowKit Go.Lib

def DocOut (r : Got) (v c p : Int) : Prop :=
  match r with
  | .bad q => v = 0 ∧ c = 1 ∧ p = q
  | .got n _ _ => v = n ∧ c = 0 ∧ p = -1

theorem doc_bad {r : Got} {x b : Int} (h : Doc r (x, b)) (hb : 0 ≤ b) : DocOut r 0 1 b := by
  rcases r with p | ⟨n, M, j⟩
  · exact ⟨rfl, rfl, h⟩
  · have : (x, b) = (n, -1) := h
    injection this with _ e
    omega
theorem doc_got {r : Got} {x b : Int} (h : Doc r (x, b)) (hb : ¬ 0 ≤ b) : DocOut r x 0 (-1) := by
  rcases r with p | ⟨n, M, j⟩
  · have : b = p := h
    omega
  · have : (x, b) = (n, -1) := h
    injection this with e _
    exact ⟨e, rfl, rfl⟩

/-- the fault that is handed back lies below the scan. -/
structure Flt (f : Nat) (w : World) : Prop where
  c0 : w.cell? ⟨f, 0, none⟩ = some (.int .i64 0)
  c1 : w.cell? ⟨f, 1, none⟩ = some (.int .i64 0)
  f0 : w.frozen? ⟨f, 0, none⟩ = false
  f1 : w.frozen? ⟨f, 1, none⟩ = false
theorem Flt.below {f B : Nat} {w w' : World} (h : Flt f w) (hb : Below B w w') (hf : f < B) : Flt f w' :=
  ⟨(hb.cell (show (⟨f, 0, none⟩ : Addr).block < B from hf)).trans h.c0, (hb.cell (show (⟨f, 1, none⟩ : Addr).block < B from hf)).trans h.c1, (hb.frozen (show (⟨f, 0, none⟩ : Addr).block < B from hf)).trans h.f0, (hb.frozen (show (⟨f, 1, none⟩ : Addr).block < B from hf)).trans h.f1⟩

set_option maxHeartbeats 8000000 in
theorem degreesOf_any (s : ByteArray) (L : List Int) (w : World) (hr : Runs s L) (hs : s.size ≤ 3000) :
    Calls Tryd.prog 17 #[.string s] w fun e w' => ∃ v c p, e = .returned (.tuple #[.int .i64 v, .agg #[.int .i64 c, .int .i64 p]]) ∧ DocOut (degreesP L) v c p ∧ Below w.heap.size w w' := by
  have hF : Flt w.heap.size (w.alloc (.cells #[.int .i64 0, .int .i64 0] 33)) := ⟨new_cellS rfl, new_cellS rfl, World.frozen?_alloc_new _ _ _ _, World.frozen?_alloc_new _ _ _ _⟩
  have hB0 : Below w.heap.size w (w.alloc (.cells #[.int .i64 0, .int .i64 0] 33)) := (Below.refl _ _).alloc (Nat.le_refl _) _
  have F0 := hide hF
  have B0 := hide hB0
  clear hF hB0
  go_enter Tryd.func17, Tryd.ntmps17
  go_wp2_with fail
  refine (runes_any s _ (by omega)).mono ?_
  rintro e w1 ⟨v, O, rfl, hown, hruns, hall, hl, _, hb1⟩
  obtain rfl := hr.one hruns
  obtain ⟨p, cap, rfl⟩ : ∃ p cap, v = .slice p O.length cap := by
    rcases hown.2 with ⟨h1, h2⟩ | ⟨lb, cap, cur, h1, _⟩
    · exact ⟨none, 0, by rw [h1, h2]⟩
    · exact ⟨_, cap, h1⟩
  have F1 := hide ((unhide F0).below hb1 (by simp))
  have B1 := hide ((unhide B0).trans (hb1.mono (by simp)))
  have hsz := hb1.size
  simp only [World.size_alloc] at hsz
  have hnew := sc_new hown hl rfl
  have hbn := (Below.refl w1.heap.size w1).alloc (Nat.le_refl _) (.cells #[.slice p O.length cap, .int .i64 0, .int .i64 (-1)] 56)
  have F2 := hide ((unhide F1).below hbn (by omega))
  have B2 := hide ((unhide B1).trans (hbn.mono (by omega)))
  have N2 := hide hnew
  clear hown hruns hr hb1 F0 B0 F1 B1 hbn hnew
  go_wp2_with fail
  generalize w1.alloc (.cells #[.slice p O.length cap, .int .i64 0, .int .i64 (-1)] 56) = W at N2 F2 B2 ⊢
  have hg : w.heap.size < w1.heap.size := by omega
  generalize w1.heap.size = g at N2 hg ⊢
  clear hsz
  have s2 := unhide N2
  have hdr : ∀ v c q, DocOut (degreesP O) v c q → DocOut (degreesP (O.map told)) v c q := fun v c q h => by
    rw [degreesP_told]
    revert h
    rcases degreesP O with r | ⟨n, M, j⟩ <;> exact fun h => h
  have HDR := hide hdr
  clear hdr
  refine (see_any g O 0 (-1) _ s2).mono ?_
  rintro e w3 ⟨rfl, n3, rfl⟩
  have c1 := s2.pos
  have f1 := s2.f1
  clear s2
  rcases (show seeAt O 0 = 45 ∨ seeAt O 0 = 43 ∨ (seeAt O 0 ≠ 45 ∧ seeAt O 0 ≠ 43) by omega) with h45 | h43 | ⟨h45, h43⟩
  case' inl =>
    have hd : Doc (degreesP O) (-degV O 1, (degD O 1).2) := by
      have hd := deg_rel O true 1
      rw [if_pos rfl, Int.mul_neg_one] at hd
      rw [degreesP_see, if_pos h45]; exact hd
    have HD := hide hd
    clear hd
    go_wp2_with fail
    have m3 := ((unhide N2).drew n3).at1 (z := 1) (a' := 1) rfl (by omega)
    obtain ⟨a0, ha0, s3, hb3, HD⟩ : ∃ a0 : Nat, a0 ≤ 1 ∧ Sc g O a0 (-1) _ ∧ Below g (W.drewN n3) _ ∧ Held (Doc (degreesP O) (-degV O a0, (degD O a0).2)) := ⟨1, by omega, m3.1, m3.2, HD⟩
  case' inr.inl =>
    have hd : Doc (degreesP O) (degV O 1, (degD O 1).2) := by
      have hd := deg_rel O false 1
      rw [if_neg (by decide), Int.mul_one] at hd
      rw [degreesP_see, if_neg (by omega), if_pos h43]; exact hd
    have HD := hide hd
    clear hd
    have h45 : ¬ seeAt O 0 = 45 := by omega
    go_wp2_with fail
    have m3 := ((unhide N2).drew n3).at1 (z := 1) (a' := 1) rfl (by omega)
    obtain ⟨a0, ha0, s3, hb3, HD⟩ : ∃ a0 : Nat, a0 ≤ 1 ∧ Sc g O a0 (-1) _ ∧ Below g (W.drewN n3) _ ∧ Held (Doc (degreesP O) (degV O a0, (degD O a0).2)) := ⟨1, by omega, m3.1, m3.2, HD⟩
  case' inr.inr =>
    have hd : Doc (degreesP O) (degV O 0, (degD O 0).2) := by
      have hd := deg_rel O false 0
      rw [if_neg (by decide), Int.mul_one] at hd
      rw [degreesP_see, if_neg h45, if_neg h43]; exact hd
    have HD := hide hd
    clear hd
    have b43 : (seeAt O 0 == 43) = false := by simp [h43]
    go_wp2_with fail
    obtain ⟨a0, ha0, s3, hb3, HD⟩ : ∃ a0 : Nat, a0 ≤ 1 ∧ Sc g O a0 (-1) _ ∧ Below g (W.drewN n3) _ ∧ Held (Doc (degreesP O) (degV O a0, (degD O a0).2)) := ⟨0, by omega, (unhide N2).drew n3, Below.refl _ _, HD⟩
  all_goals
    have B3 := hide ((below_drew (unhide B2) n3).trans (hb3.mono (Nat.le_of_lt hg)))
    have F3 := hide (((unhide F2).below (below_drew (Below.refl g W) n3) hg).below hb3 hg)
    clear c1 f1 N2 B2 F2 hb3
    have hd := unhide HD
    unfold degV degD at hd
    have bd := digs6_bound (O.drop a0)
    have C := fun v hv => numberS_any g 1 6 O a0 (-1) v hv (by omega) (by omega)
    generalize (digs 6 0 (O.drop a0)).1 = n4 at hd bd C
    generalize (digs 6 0 (O.drop a0)).2.1 = k4 at hd bd C
    obtain ⟨n4a, n4b, k4a⟩ := bd
    have n4c : n4 < 1000000 := by have := pow_small k4 (by omega); omega
    clear n4b
    have HD := hide hd
    have CC := hide C
    clear hd C
    refine (unhide CC _ s3).mono ?_
    rintro e w4 ⟨rfl, s4, hb4⟩
    have B4 := hide ((unhide B3).trans (hb4.mono (Nat.le_of_lt hg)))
    have F4 := hide ((unhide F3).below hb4 hg)
    clear hb4 B3 F3 CC s3
    have hd := unhide HD
    generalize lackB (-1) k4 1 (a0 + k4) = b4 at s4 hd
    have HD := hide hd
    clear hd
    go_wp2_with fail
    refine (needS_any g O (a0 + k4) b4 176 _ s4 (by omega)).mono ?_
    rintro e w5 ⟨rfl, s5, hb5⟩
    have s5 : Sc g O (a0 + k4 + 1) (needB O 176 (a0 + k4) b4) w5 := s5
    have B5 := hide ((unhide B4).trans (hb5.mono (Nat.le_of_lt hg)))
    have F5 := hide ((unhide F4).below hb5 hg)
    clear hb5 B4 F4 s4
    have hd := unhide HD
    generalize needB O 176 (a0 + k4) b4 = b5 at s5 hd
    have ha5 : a0 + k4 + 1 ≤ 1000 := by omega
    generalize a0 + k4 + 1 = a5 at s5 hd ha5
    have bd := rest_bound (O := O) (m := 8242) (s := 8243) (a := a5) (b := b5)
    have C := fun v hv => rest_any g O 8242 8243 a5 b5 v hv (by omega)
    generalize rest3 O 8242 8243 a5 b5 = q at hd bd C
    obtain ⟨q1, q2⟩ := q
    simp only at hd bd C
    obtain ⟨q1a, q1b⟩ := bd
    have HD := hide hd
    have CC := hide C
    clear hd C
    go_wp2_with fail
    refine (unhide CC _ s5).mono ?_
    rintro e w6 ⟨rfl, ⟨a6, s6⟩, hb6⟩
    have B6 := hide ((unhide B5).trans (hb6.mono (Nat.le_of_lt hg)))
    have hF6 := (unhide F5).below hb6 hg
    clear hb6 B5 F5 CC s5
    have c2 := s6.bad
    have k0 := hF6.c0
    have k1 := hF6.c1
    have z0 := hF6.f0
    have z1 := hF6.f1
    clear hF6 s6
    by_cases hq : 0 ≤ q2
    · have HO := hide (unhide HDR _ _ _ (doc_bad (unhide HD) hq))
      go_wp2
      go_region
      all_goals
        go_wp2
        simp [bodyPost, results, Tryd.results17, go_sem, k0, k1]
        first
          | exact ⟨_, _, _, ⟨rfl, rfl, rfl⟩, unhide HO, (((unhide B6).setCell (Nat.le_refl _) _).setCell (Nat.le_refl _) _).drew⟩
          | exact ⟨_, _, _, ⟨rfl, rfl, rfl⟩, unhide HO, ((unhide B6).setCell (Nat.le_refl _) _).setCell (Nat.le_refl _) _⟩
    · have HO := hide (unhide HDR _ _ _ (doc_got (unhide HD) hq))
      go_wp2
      simp [bodyPost, results, Tryd.results17, go_sem, k0, k1]
      exact ⟨_, _, _, ⟨rfl, rfl, rfl⟩, unhide HO, ((unhide B6).setCell (Nat.le_refl _) _).setCell (Nat.le_refl _) _⟩

/-- the document's hours. -/
def hrB (O : List Int) : Int := if 23 < (digs 2 0 (O.drop 0)).1 then firstBad (lackB (-1) (digs 2 0 (O.drop 0)).2.1 1 (0 + (digs 2 0 (O.drop 0)).2.1)) 0 else lackB (-1) (digs 2 0 (O.drop 0)).2.1 1 (0 + (digs 2 0 (O.drop 0)).2.1)
def hrD (O : List Int) : Int × Int := rest3 O 109 115 (0 + (digs 2 0 (O.drop 0)).2.1 + 1) (needB O 104 (0 + (digs 2 0 (O.drop 0)).2.1) (hrB O))
def hrV (O : List Int) : Int := ((digs 2 0 (O.drop 0)).1 * 3600 * 1000000 + (hrD O).1) * 15
theorem hours_rel (O : List Int) : Doc (hoursP O) (hrV O, (hrD O).2) := by
  unfold hoursP numP hrV hrD hrB
  simp only [List.drop_zero, Nat.zero_add]
  by_cases hk : (digs 2 0 O).2.1 = 0
  · have hz : (digs 2 0 O).1 = 0 := by
      have hb := digs_bound 2 0 O 1 (by omega) (by omega)
      rw [hk] at hb
      simp at hb
      omega
    rw [if_pos hk, hk, hz, if_neg (by omega)]
    have : lackB (-1) 0 1 0 = ((0 : Nat) : Int) := by unfold lackB; rw [if_pos (by omega), fb_new]
    rw [this, needB_keep]
    exact rest_keep _ _ _ _ _
  · rw [if_neg hk]
    have hl : lackB (-1) (digs 2 0 O).2.1 1 (digs 2 0 O).2.1 = -1 := by unfold lackB; rw [if_neg (by omega)]
    rw [hl]
    simp only
    by_cases h23 : 23 < (digs 2 0 O).1
    · rw [if_pos h23, if_pos h23, fb_new, needB_keep]
      exact rest_keep _ _ _ _ _
    · rw [if_neg h23, if_neg h23, digs_rest, needP_see O 104 (by omega)]
      generalize (digs 2 0 O).1 = d
      generalize (digs 2 0 O).2.1 = a1
      unfold needB
      by_cases hn : seeAt O a1 = 104
      · rw [if_pos hn, if_pos hn]
        simp only
        have hr := rest_rel O 109 115 (by omega) (by omega) (a1 + 1)
        rcases hq : sixP 109 115 (O.drop (a1 + 1)) (a1 + 1) with p | ⟨y, M, j⟩
        · rw [hq] at hr; exact hr
        · rw [hq] at hr
          have hr' : rest3 O 109 115 (a1 + 1) (-1) = (0 + y, -1) := hr
          show _ = _
          rw [hr']
          refine Prod.ext ?_ rfl
          simp only
          omega
      · rw [if_neg hn, if_neg hn, fb_new]
        exact rest_keep _ _ _ _ _

set_option maxHeartbeats 8000000 in
theorem hoursOf_any (s : ByteArray) (L : List Int) (w : World) (hr : Runs s L) (hs : s.size ≤ 3000) :
    Calls Tryd.prog 19 #[.string s] w fun e w' => ∃ v c p, e = .returned (.tuple #[.int .i64 v, .agg #[.int .i64 c, .int .i64 p]]) ∧ DocOut (hoursP L) v c p ∧ Below w.heap.size w w' := by
  have hF : Flt w.heap.size (w.alloc (.cells #[.int .i64 0, .int .i64 0] 33)) := ⟨new_cellS rfl, new_cellS rfl, World.frozen?_alloc_new _ _ _ _, World.frozen?_alloc_new _ _ _ _⟩
  have hB0 : Below w.heap.size w (w.alloc (.cells #[.int .i64 0, .int .i64 0] 33)) := (Below.refl _ _).alloc (Nat.le_refl _) _
  have F0 := hide hF
  have B0 := hide hB0
  clear hF hB0
  go_enter Tryd.func19, Tryd.ntmps19
  go_wp2_with fail
  refine (runes_any s _ (by omega)).mono ?_
  rintro e w1 ⟨v, O, rfl, hown, hruns, hall, hl, _, hb1⟩
  obtain rfl := hr.one hruns
  obtain ⟨p, cap, rfl⟩ : ∃ p cap, v = .slice p O.length cap := by
    rcases hown.2 with ⟨h1, h2⟩ | ⟨lb, cap, cur, h1, _⟩
    · exact ⟨none, 0, by rw [h1, h2]⟩
    · exact ⟨_, cap, h1⟩
  have F1 := hide ((unhide F0).below hb1 (by simp))
  have B1 := hide ((unhide B0).trans (hb1.mono (by simp)))
  have hsz := hb1.size
  simp only [World.size_alloc] at hsz
  have hnew := sc_new hown hl rfl
  have hbn := (Below.refl w1.heap.size w1).alloc (Nat.le_refl _) (.cells #[.slice p O.length cap, .int .i64 0, .int .i64 (-1)] 56)
  have F2 := hide ((unhide F1).below hbn (by omega))
  have B2 := hide ((unhide B1).trans (hbn.mono (by omega)))
  have N2 := hide hnew
  clear hown hruns hr hb1 F0 B0 F1 B1 hbn hnew
  go_wp2_with fail
  generalize w1.alloc (.cells #[.slice p O.length cap, .int .i64 0, .int .i64 (-1)] 56) = W at N2 F2 B2 ⊢
  have hg : w.heap.size < w1.heap.size := by omega
  generalize w1.heap.size = g at N2 hg ⊢
  clear hsz
  have s2 := unhide N2
  have hdr : ∀ v c q, DocOut (hoursP O) v c q → DocOut (hoursP (O.map told)) v c q := fun v c q h => by
    rw [hoursP_told]
    revert h
    rcases hoursP O with r | ⟨n, M, j⟩ <;> exact fun h => h
  have HDR := hide hdr
  clear hdr
  clear s2
  have hd := hours_rel O
  unfold hrV hrD hrB at hd
  have bd := digs2_bound (O.drop 0)
  have C := fun v hv => numberS_any g 1 2 O 0 (-1) v hv (by omega) (by omega)
  generalize (digs 2 0 (O.drop 0)).1 = n4 at hd bd C
  generalize (digs 2 0 (O.drop 0)).2.1 = k4 at hd bd C
  obtain ⟨n4a, n4b, k4a⟩ := bd
  have HD := hide hd
  have CC := hide C
  clear hd C
  refine (unhide CC _ (unhide N2)).mono ?_
  rintro e w4 ⟨rfl, s4, hb4⟩
  have B4 := hide ((unhide B2).trans (hb4.mono (Nat.le_of_lt hg)))
  have F4 := hide ((unhide F2).below hb4 hg)
  clear hb4 B2 F2 CC N2
  have hd := unhide HD
  generalize lackB (-1) k4 1 (0 + k4) = b4 at s4 hd
  generalize hbb : (if 23 < n4 then firstBad b4 0 else b4) = b4' at hd
  have HD := hide hd
  clear hd
  by_cases h23 : 23 < n4
  case' pos =>
    rw [if_pos h23] at hbb
    go_wp2_with fail
    refine (wrong_any g O (0 + k4) 0 b4 0 _ s4 rfl).mono ?_
    rintro e w4' ⟨rfl, s4', hb4'⟩
    rw [hbb] at s4'
    have B4' := hide ((unhide B4).trans (hb4'.mono (Nat.le_of_lt hg)))
    have F4' := hide ((unhide F4).below hb4' hg)
    clear hb4' B4 F4 s4
  case' neg =>
    rw [if_neg h23] at hbb
    rw [hbb] at s4
    have s4' := s4
    have B4' := B4
    have F4' := F4
    clear B4 F4 s4
  all_goals
    clear hbb
    go_wp2_with fail
    refine (needS_any g O (0 + k4) b4' 104 _ s4' (by omega)).mono ?_
    rintro e w5 ⟨rfl, s5, hb5⟩
    have s5 : Sc g O (0 + k4 + 1) (needB O 104 (0 + k4) b4') w5 := s5
    have B5 := hide ((unhide B4').trans (hb5.mono (Nat.le_of_lt hg)))
    have F5 := hide ((unhide F4').below hb5 hg)
    clear hb5 B4' F4' s4'
    have hd := unhide HD
    generalize needB O 104 (0 + k4) b4' = b5 at s5 hd
    have ha5 : 0 + k4 + 1 ≤ 1000 := by omega
    generalize 0 + k4 + 1 = a5 at s5 hd ha5
    have bd := rest_bound (O := O) (m := 109) (s := 115) (a := a5) (b := b5)
    have C := fun v hv => rest_any g O 109 115 a5 b5 v hv (by omega)
    generalize rest3 O 109 115 a5 b5 = q at hd bd C
    obtain ⟨q1, q2⟩ := q
    simp only at hd bd C
    obtain ⟨q1a, q1b⟩ := bd
    have HD := hide hd
    have CC := hide C
    clear hd C
    go_wp2_with fail
    refine (unhide CC _ s5).mono ?_
    rintro e w6 ⟨rfl, ⟨a6, s6⟩, hb6⟩
    have B6 := hide ((unhide B5).trans (hb6.mono (Nat.le_of_lt hg)))
    have hF6 := (unhide F5).below hb6 hg
    clear hb6 B5 F5 CC s5
    have c2 := s6.bad
    have k0 := hF6.c0
    have k1 := hF6.c1
    have z0 := hF6.f0
    have z1 := hF6.f1
    clear hF6 s6
    by_cases hq : 0 ≤ q2
    · have HO := hide (unhide HDR _ _ _ (doc_bad (unhide HD) hq))
      go_wp2
      go_region
      all_goals
        go_wp2
        simp [bodyPost, results, Tryd.results19, go_sem, k0, k1]
        first
          | exact ⟨_, _, _, ⟨rfl, rfl, rfl⟩, unhide HO, (((unhide B6).setCell (Nat.le_refl _) _).setCell (Nat.le_refl _) _).drew⟩
          | exact ⟨_, _, _, ⟨rfl, rfl, rfl⟩, unhide HO, ((unhide B6).setCell (Nat.le_refl _) _).setCell (Nat.le_refl _) _⟩
    · have HO := hide (unhide HDR _ _ _ (doc_got (unhide HD) hq))
      go_wp2
      simp [bodyPost, results, Tryd.results19, go_sem, k0, k1]
      exact ⟨_, _, _, ⟨rfl, rfl, rfl⟩, unhide HO, ((unhide B6).setCell (Nat.le_refl _) _).setCell (Nat.le_refl _) _⟩
end Go.Proofs.YtfifbcoedfdnjabDoor
