/-
  What the document reads behind degrees or hours, by its contract.
-/
import Derived.Test.YtfifbcoedfdnjabDoorScan2
namespace Go.Proofs.YtfifbcoedfdnjabDoor
open Go.RowKit Go.Lib

def overB (b n : Int) (a : Nat) : Int := if 59 < n then firstBad b a else b
def needB (O : List Int) (c : Int) (a : Nat) (b : Int) : Int := if seeAt O a = c then b else firstBad b a
def endB (O : List Int) (a : Nat) (b : Int) : Int := if a < O.length then firstBad b a else b
def fin3 (O : List Int) (s n : Int) (a : Nat) (b : Int) : Int × Int := (n, endB O (a + 1) (needB O s a b))
def mid3 (O : List Int) (s n : Int) (a : Nat) (b : Int) : Int × Int :=
  if seeAt O a = 46 then fin3 O s (n + pad (digs 6 0 (O.drop (a + 1))).1 (digs 6 0 (O.drop (a + 1))).2.1) (a + 1 + (digs 6 0 (O.drop (a + 1))).2.1) (lackB b (digs 6 0 (O.drop (a + 1))).2.1 1 (a + 1 + (digs 6 0 (O.drop (a + 1))).2.1))
  else fin3 O s n a b
def sec3 (O : List Int) (s n : Int) (a : Nat) (b : Int) : Int × Int :=
  if O.length ≤ a ∨ 0 ≤ b then (n, b)
  else mid3 O s (n + (digs 2 0 (O.drop a)).1 * 1000000) (a + (digs 2 0 (O.drop a)).2.1) (overB (lackB b (digs 2 0 (O.drop a)).2.1 2 (a + (digs 2 0 (O.drop a)).2.1)) (digs 2 0 (O.drop a)).1 a)
def rest3 (O : List Int) (m s : Int) (a : Nat) (b : Int) : Int × Int :=
  if O.length ≤ a ∨ 0 ≤ b then (0, b)
  else sec3 O s ((digs 2 0 (O.drop a)).1 * 60 * 1000000) (a + (digs 2 0 (O.drop a)).2.1 + 1) (needB O m (a + (digs 2 0 (O.drop a)).2.1) (overB (lackB b (digs 2 0 (O.drop a)).2.1 2 (a + (digs 2 0 (O.drop a)).2.1)) (digs 2 0 (O.drop a)).1 a))

theorem digs2_bound (L : List Int) : 0 ≤ (digs 2 0 L).1 ∧ (digs 2 0 L).1 < 100 ∧ (digs 2 0 L).2.1 ≤ 2 := by
  have hl := digs_le 2 0 L
  have hb := digs_bound 2 0 L 1 (by omega) (by omega)
  rw [Int.one_mul] at hb
  generalize (digs 2 0 L).2.1 = k at hl hb
  rcases (show k = 0 ∨ k = 1 ∨ k = 2 by omega) with rfl | rfl | rfl
  · refine ⟨hb.1, ?_, by omega⟩; have := hb.2; simp at this; omega
  · refine ⟨hb.1, ?_, by omega⟩; have := hb.2; simp at this; omega
  · refine ⟨hb.1, ?_, by omega⟩; have := hb.2; simp at this; omega
theorem digs6_bound (L : List Int) : 0 ≤ (digs 6 0 L).1 ∧ (digs 6 0 L).1 < 10 ^ (digs 6 0 L).2.1 ∧ (digs 6 0 L).2.1 ≤ 6 := by
  have hl := digs_le 6 0 L
  have hb := digs_bound 6 0 L 1 (by omega) (by omega)
  rw [Int.one_mul] at hb
  exact ⟨hb.1, hb.2, hl⟩

set_option maxHeartbeats 8000000 in
theorem rest_any (g : Nat) (O : List Int) (m s : Int) (a : Nat) (b : Int) (w : World) (h : Sc g O a b w) (ha : a ≤ 2000000) :
    Calls Tryd.prog 41 #[.pointer (some ⟨g, 0, none⟩), .int .i64 m, .int .i64 s] w fun e w' => e = .returned (.int .i64 (rest3 O m s a b).1) ∧ (∃ a', Sc g O a' (rest3 O m s a b).2 w') ∧ Below g w w' := by
  have H := hide h
  obtain ⟨p, cap, c0, _⟩ := h.row
  have c1 := h.pos
  have c2 := h.bad
  have long := h.long
  generalize hres : rest3 O m s a b = res
  by_cases h1 : O.length ≤ a
  · unfold rest3 at hres
    rw [if_pos (.inl h1)] at hres
    subst hres
    have t1 : (O.length : Int) ≤ (a : Int) := by omega
    clear h
    go_enter Tryd.func41, Tryd.ntmps41
    go_wp2
    go_quiet (fail)
    go_wp2
    go_ret
    exact ⟨rfl, ⟨a, (unhide H).drew _⟩, below_drew (Below.refl _ _) _⟩
  by_cases h2 : 0 ≤ b
  · unfold rest3 at hres
    rw [if_pos (.inr h2)] at hres
    subst hres
    have t1 : decide ((O.length : Int) ≤ (a : Int)) = false := by simp; omega
    clear h
    go_enter Tryd.func41, Tryd.ntmps41
    go_wp2
    go_quiet (fail)
    go_wp2
    go_ret
    exact ⟨rfl, ⟨a, (unhide H).drew _⟩, below_drew (Below.refl _ _) _⟩
  unfold rest3 at hres
  rw [if_neg (by omega)] at hres
  have t1 : decide ((O.length : Int) ≤ (a : Int)) = false := by simp; omega
  have t2 : decide (0 ≤ b) = false := by simp; omega
  have bd := digs2_bound (O.drop a)
  have C := fun v hv => numberS_any g 2 2 O a b v hv (by omega) (by omega)
  generalize (digs 2 0 (O.drop a)).1 = n1 at hres bd C
  generalize (digs 2 0 (O.drop a)).2.1 = k1 at hres bd C
  obtain ⟨n1a, n1b, k1a⟩ := bd
  have HRES := hide hres
  have CC := hide C
  clear hres C h
  go_enter Tryd.func41, Tryd.ntmps41
  go_wp2
  go_quiet (fail)
  go_wp2_with fail
  refine (unhide CC _ ((unhide H).drew _)).mono ?_
  rintro e w1 ⟨rfl, s1, hb1⟩
  have B1 := hide ((below_drew (Below.refl g w) _).trans hb1)
  clear hb1 CC c0 c1 c2 H t1 t2
  generalize hbb : overB (lackB b k1 2 (a + k1)) n1 a = b2
  have hres := unhide HRES
  rw [hbb] at hres
  have HRES := hide hres
  clear hres
  by_cases h59 : 59 < n1
  case' pos =>
    unfold overB at hbb
    rw [if_pos h59] at hbb
    go_wp2_with fail
    refine (wrong_any g O (a + k1) a _ _ _ s1 rfl).mono ?_
    rintro e w2 ⟨rfl, s2, hb2⟩
    rw [hbb] at s2
    have B2 := hide ((unhide B1).trans hb2)
    clear hb2 B1 s1
  case' neg =>
    unfold overB at hbb
    rw [if_neg h59] at hbb
    rw [hbb] at s1
    have s2 := s1
    have B2 := B1
    clear B1 s1
  all_goals
    clear hbb
    go_wp2_with fail
    refine (needS_any g O (a + k1) b2 m _ s2 (by omega)).mono ?_
    rintro e w3 ⟨rfl, s3, hb3⟩
    have s3 : Sc g O (a + k1 + 1) (needB O m (a + k1) b2) w3 := s3
    have B3 := hide ((unhide B2).trans hb3)
    clear hb3 B2 s2
    have hres := unhide HRES
    generalize needB O m (a + k1) b2 = b3 at s3 hres
    have ha3 : a + k1 + 1 ≤ 3000000 := by omega
    generalize a + k1 + 1 = a3 at s3 hres ha3
    have HRES := hide hres
    clear hres
    obtain ⟨p3, cap3, c0, _⟩ := s3.row
    have c1 := s3.pos
    have c2 := s3.bad
    have S3 := hide s3
    clear s3
    by_cases h3 : O.length ≤ a3
    · have hres := unhide HRES
      unfold sec3 at hres
      rw [if_pos (.inl h3)] at hres
      subst hres
      have t1 : (O.length : Int) ≤ (a3 : Int) := by omega
      go_wp2
      go_quiet (fail)
      go_wp2
      go_ret
      exact ⟨rfl, ⟨a3, (unhide S3).drew _⟩, below_drew (unhide B3) _⟩
    by_cases h4 : 0 ≤ b3
    · have hres := unhide HRES
      unfold sec3 at hres
      rw [if_pos (.inr h4)] at hres
      subst hres
      have t1 : decide ((O.length : Int) ≤ (a3 : Int)) = false := by simp; omega
      go_wp2
      go_quiet (fail)
      go_wp2
      go_ret
      exact ⟨rfl, ⟨a3, (unhide S3).drew _⟩, below_drew (unhide B3) _⟩
    have hres := unhide HRES
    unfold sec3 at hres
    rw [if_neg (by omega)] at hres
    have t1 : decide ((O.length : Int) ≤ (a3 : Int)) = false := by simp; omega
    have t2 : decide (0 ≤ b3) = false := by simp; omega
    have bd := digs2_bound (O.drop a3)
    have C := fun v hv => numberS_any g 2 2 O a3 b3 v hv (by omega) (by omega)
    generalize (digs 2 0 (O.drop a3)).1 = n4 at hres bd C
    generalize (digs 2 0 (O.drop a3)).2.1 = k4 at hres bd C
    obtain ⟨n4a, n4b, k4a⟩ := bd
    have HRES := hide hres
    have CC := hide C
    clear hres C
    go_wp2
    go_quiet (fail)
    go_wp2_with fail
    refine (unhide CC _ ((unhide S3).drew _)).mono ?_
    rintro e w4 ⟨rfl, s4, hb4⟩
    have B4 := hide ((below_drew (unhide B3) _).trans hb4)
    clear hb4 CC c0 c1 c2 S3 t1 t2 B3
    generalize hbb : overB (lackB b3 k4 2 (a3 + k4)) n4 a3 = b5
    have hres := unhide HRES
    rw [hbb] at hres
    have HRES := hide hres
    clear hres
    by_cases h59' : 59 < n4
    case' pos =>
      unfold overB at hbb
      rw [if_pos h59'] at hbb
      go_wp2_with fail
      refine (wrong_any g O (a3 + k4) a3 _ _ _ s4 rfl).mono ?_
      rintro e w5 ⟨rfl, s5, hb5⟩
      rw [hbb] at s5
      have B5 := hide ((unhide B4).trans hb5)
      clear hb5 B4 s4
    case' neg =>
      unfold overB at hbb
      rw [if_neg h59'] at hbb
      rw [hbb] at s4
      have s5 := s4
      have B5 := B4
      clear B4 s4
    all_goals
      clear hbb
      have hres := unhide HRES
      have ha4 : a3 + k4 ≤ 4000000 := by omega
      generalize a3 + k4 = a4 at s5 hres ha4
      have HRES := hide hres
      clear hres
      have S5 := hide s5
      go_wp2_with fail
      refine (see_any g O a4 b5 _ s5).mono ?_
      rintro e w6 ⟨rfl, n6, rfl⟩
      clear s5
      by_cases h46 : seeAt O a4 = 46
      · have hres := unhide HRES
        unfold mid3 at hres
        rw [if_pos h46] at hres
        have bd := digs6_bound (O.drop (a4 + 1))
        have C := fun v hv => numberS_any g 1 6 O (a4 + 1) b5 v hv (by omega) (by omega)
        generalize (digs 6 0 (O.drop (a4 + 1))).1 = n7 at hres bd C
        generalize (digs 6 0 (O.drop (a4 + 1))).2.1 = k7 at hres bd C
        obtain ⟨n7a, n7b, k7a⟩ := bd
        have n7c : n7 < 1000000 := by have := pow_small k7 (by omega); omega
        have N7 := hide n7b
        have HRES := hide hres
        have CC := hide C
        clear hres C n7b
        have c1 := (unhide S5).pos
        have f1 := (unhide S5).f1
        have M6 := hide (((unhide S5).drew n6).at1 (z := (a4 : Int) + 1) (a' := a4 + 1) (by omega) (by omega))
        go_wp2_with fail
        refine (unhide CC _ (unhide M6).1).mono ?_
        rintro e w7 ⟨rfl, s7, hb7⟩
        have B7 := hide ((below_drew (unhide B5) n6).trans ((unhide M6).2.trans hb7))
        clear hb7 CC c1 f1 M6 S5 B5
        have hres := unhide HRES
        generalize lackB b5 k7 1 (a4 + 1 + k7) = b7 at s7 hres
        have ha7 : a4 + 1 + k7 ≤ 5000000 := by omega
        generalize a4 + 1 + k7 = a7 at s7 hres ha7
        have hpad : pad n7 k7 = n7 * 10 ^ (6 - k7) := rfl
        rw [hpad] at hres
        generalize hpv : n7 * 10 ^ (6 - k7) = pv at hres
        have HPV := hide hpv
        have HRES := hide hres
        have S7 := hide s7
        clear hres hpv hpad s7
        go_wp2
        go_loop [11, 12] (fun x y => ∃ (i : Nat) (v : Int), x = .int .i64 v ∧ y = .int .i64 i ∧ k7 ≤ i ∧ i ≤ 6 ∧ Held (v = n7 * 10 ^ (i - k7)) ∧ 0 ≤ v ∧ v < 1000000) (fun _ y => 6 - (RowKit.intOf y).toNat)
        case atStart => exact ⟨k7, n7, rfl, rfl, Nat.le_refl _, k7a, by show n7 = _; simp, n7a, n7c⟩
        case round =>
          obtain ⟨i, v, rfl, rfl, i1, i2, HV, v0, v1⟩ := hrel
          by_cases h6 : i < 6
          · have hb := pad_bound n7 k7 (i + 1 - k7) n7a (unhide N7) (by omega)
            have hst : v * 10 = n7 * 10 ^ (i + 1 - k7) := by rw [unhide HV, show i + 1 - k7 = (i - k7) + 1 by omega]; exact pad_step n7 (i - k7)
            rw [← hst] at hb
            have HST := hide hst
            clear hst
            obtain ⟨hb0, hb9⟩ := hb
            go_wp2
            exact ⟨⟨i + 1, v * 10, rfl, by go_num, by omega, by omega, HST, hb0, hb9⟩, by simp [RowKit.intOf]; omega⟩
          · obtain rfl : i = 6 := by omega
            obtain rfl : v = pv := (unhide HV).trans (unhide HPV)
            go_wp2_with fail
            refine (needS_any g O a7 b7 s _ (unhide S7) (by omega)).mono ?_
            rintro e w8 ⟨rfl, s8, hb8⟩
            have s8 : Sc g O (a7 + 1) (needB O s a7 b7) w8 := s8
            have B8 := hide ((unhide B7).trans hb8)
            clear hb8
            have hres := unhide HRES
            unfold fin3 at hres
            generalize needB O s a7 b7 = b8 at s8 hres
            have ha8 : a7 + 1 ≤ 6000000 := by omega
            generalize a7 + 1 = a8 at s8 hres ha8
            obtain ⟨p8, cap8, c0, _⟩ := s8.row
            have c1 := s8.pos
            have S8 := hide s8
            clear s8
            by_cases h8 : a8 < O.length
            · unfold endB at hres
              rw [if_pos h8] at hres
              subst hres
              have t1 : (a8 : Int) < (O.length : Int) := by omega
              go_wp2
              go_quiet (fail)
              go_wp2_with fail
              refine (wrong_any g O a8 a8 b8 _ _ ((unhide S8).drew _) (by omega)).mono ?_
              rintro e w9 ⟨rfl, s9, hb9⟩
              have S9 := hide s9
              clear s9
              go_wp2
              go_ret
              exact ⟨rfl, ⟨a8, unhide S9⟩, (below_drew (unhide B8) _).trans hb9⟩
            · unfold endB at hres
              rw [if_neg h8] at hres
              subst hres
              have t1 : ¬ (a8 : Int) < (O.length : Int) := by omega
              go_wp2
              go_quiet (fail)
              go_wp2
              go_ret
              exact ⟨rfl, ⟨a8, (unhide S8).drew _⟩, below_drew (unhide B8) _⟩
      · have hres := unhide HRES
        unfold mid3 at hres
        rw [if_neg h46] at hres
        have HRES := hide hres
        clear hres
        go_wp2_with fail
        refine (needS_any g O a4 b5 s _ ((unhide S5).drew _) (by omega)).mono ?_
        rintro e w8 ⟨rfl, s8, hb8⟩
        have s8 : Sc g O (a4 + 1) (needB O s a4 b5) w8 := s8
        have B8 := hide ((below_drew (unhide B5) n6).trans hb8)
        clear hb8
        have hres := unhide HRES
        unfold fin3 at hres
        generalize needB O s a4 b5 = b8 at s8 hres
        have ha8 : a4 + 1 ≤ 6000000 := by omega
        generalize a4 + 1 = a8 at s8 hres ha8
        obtain ⟨p8, cap8, c0, _⟩ := s8.row
        have c1 := s8.pos
        have S8 := hide s8
        clear s8
        by_cases h8 : a8 < O.length
        · unfold endB at hres
          rw [if_pos h8] at hres
          subst hres
          have t1 : (a8 : Int) < (O.length : Int) := by omega
          go_wp2
          go_quiet (fail)
          go_wp2_with fail
          refine (wrong_any g O a8 a8 b8 _ _ ((unhide S8).drew _) (by omega)).mono ?_
          rintro e w9 ⟨rfl, s9, hb9⟩
          have S9 := hide s9
          clear s9
          go_wp2
          go_ret
          exact ⟨rfl, ⟨a8, unhide S9⟩, (below_drew (unhide B8) _).trans hb9⟩
        · unfold endB at hres
          rw [if_neg h8] at hres
          subst hres
          have t1 : ¬ (a8 : Int) < (O.length : Int) := by omega
          go_wp2
          go_quiet (fail)
          go_wp2
          go_ret
          exact ⟨rfl, ⟨a8, (unhide S8).drew _⟩, below_drew (unhide B8) _⟩
end Go.Proofs.YtfifbcoedfdnjabDoor
