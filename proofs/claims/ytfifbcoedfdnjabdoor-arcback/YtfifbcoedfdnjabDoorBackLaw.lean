/-
  The law ArcBack walked out of the contracts.
-/
import Derived.Test.YtfifbcoedfdnjabDoorBack
import Derived.Test.YtfifbcoedfdnjabDoorSgd
namespace Go.Proofs.YtfifbcoedfdnjabDoor
open Go.RowKit Go.Lib

theorem apart_any (a b : Int) (w : World) :
    Calls Tryd.prog 20 #[.int .i64 a, .int .i64 b] w fun e w' => e = .returned (.int .i64 (apt a b)) ∧ w' = w := by
  obtain ⟨d1, d2⟩ := sgd_range (nrm a - nrm b)
  go_enter Tryd.func20, Tryd.ntmps20
  go_wp2_with (first
    | (go_at_call 44; refine (difference_any _ _ _).mono ?_; rintro e w' ⟨rfl, rfl⟩)
    | (go_at_call 43; refine (size_any _ _ (by omega) (by omega)).mono ?_; rintro e w' ⟨rfl, rfl⟩))
  go_ret
  exact ⟨rfl, rfl⟩

theorem runs_unique {s : ByteArray} {L : List Int} (h : Runs s L) : ∀ {M : List Int}, Runs s M → L = M := by
  induction h with
  | done h => intro M hM; cases hM with
    | done => rfl
    | more h' => omega
  | more h t ih => intro M hM; cases hM with
    | done h' => omega
    | more h' t' => rw [ih t']
theorem runs_len {s : ByteArray} {L : List Int} (h : Runs s L) : L.length ≤ s.size := by
  obtain ⟨M, hM, hl⟩ := runs_exists s.size s (Nat.le_refl _)
  rw [runs_unique h hM]; exact hl

theorem degrees_read (a : Int) (s : ByteArray) (ad : Addr) (w : World) (h : Reads ad w) (hs : Kept (s = str (degL a))) (hz : s.size ≤ 700) (h1 : -3599999999000000 ≤ a) (h2 : a ≤ 3599999999000000) :
    Calls Tryd.prog 16 #[.string s] w fun e w' => e = .returned (.tuple #[.int .i64 a, .nilIface]) ∧ Below w.heap.size w w' := by
  obtain ⟨L, M, j, hr, hp⟩ := degrees_back a h1 h2
  rw [← kept hs] at hr
  have hl := runs_len hr
  have := readDegrees_any s L ad w h hr (by omega)
  rw [hp] at this
  exact this
theorem hours_read (a : Int) (s : ByteArray) (ad : Addr) (w : World) (h : Reads ad w) (hs : Kept (s = str (hrsL a))) (hz : s.size ≤ 700) :
    Calls Tryd.prog 15 #[.string s] w fun e w' => e = .returned (.tuple #[.int .i64 ((hrs a : Int) * 15), .nilIface]) ∧ Below w.heap.size w w' := by
  obtain ⟨L, M, j, hr, hp⟩ := hours_back a
  rw [← kept hs] at hr
  have hl := runs_len hr
  have := readHours_any s L ad w h hr (by omega)
  rw [hp] at this
  exact this

set_option maxHeartbeats 4000000 in
theorem back_some {w : World} {ad : Addr} (a : Int) (t : Tens w) (hR : Reads ad w) (h1 : -3599999999000000 ≤ a) (h2 : a ≤ 3599999999000000) :
    Calls Tryd.prog 6 #[.int .i64 a] w fun e w' => e = .returned (.bool true) ∧ Below w.heap.size w w' := by
  have hn := near a
  have g1 : ¬ 3599999999000000 < a := by omega
  have g2 : decide (a < -3599999999000000) = false := by simp; omega
  go_enter Tryd.func6, Tryd.ntmps6
  go_wp2_with fail
  refine (degrees_any (-1) _ t (by omega) (by omega)).mono ?_
  rintro e w1 ⟨s1, rfl, HS1, z1, hb1⟩
  have t1 := t.below hb1 t.size
  have r1 := hR.below hb1 hR.big
  have B1 := hide hb1
  clear hb1 t hR
  go_wp2_with fail
  refine (degrees_read (-1) s1 ad _ r1 HS1 z1 (by omega) (by omega)).mono ?_
  rintro e w2 ⟨rfl, hb2⟩
  have t2 := t1.below hb2 t1.size
  have r2 := r1.below hb2 r1.big
  have B2 := hide ((unhide B1).trans (hb2.mono (unhide B1).size))
  clear hb2 t1 r1 B1 HS1
  go_wp2_with fail
  refine (degrees_any a _ t2 (by omega) (by omega)).mono ?_
  rintro e w3 ⟨s3, rfl, HS3, z3, hb3⟩
  have t3 := t2.below hb3 t2.size
  have r3 := r2.below hb3 r2.big
  have B3 := hide ((unhide B2).trans (hb3.mono (unhide B2).size))
  clear hb3 t2 r2 B2
  go_wp2_with fail
  refine (degrees_read a s3 ad _ r3 HS3 z3 h1 h2).mono ?_
  rintro e w4 ⟨rfl, hb4⟩
  have t4 := t3.below hb4 t3.size
  have r4 := r3.below hb4 r3.big
  have B4 := hide ((unhide B3).trans (hb4.mono (unhide B3).size))
  clear hb4 t3 r3 B3 HS3
  go_wp2_with fail
  refine (hours_any a _ t4).mono ?_
  rintro e w5 ⟨s5, rfl, HS5, z5, hb5⟩
  have r5 := r4.below hb5 r4.big
  have B5 := hide ((unhide B4).trans (hb5.mono (unhide B4).size))
  clear hb5 t4 r4 B4
  go_wp2_with fail
  refine (hours_read a s5 ad _ r5 HS5 (by omega)).mono ?_
  rintro e w6 ⟨rfl, hb6⟩
  have B6 := hide ((unhide B5).trans (hb6.mono (unhide B5).size))
  clear hb6 r5 B5 HS5
  go_wp2_with fail
  refine (apart_any _ _ _).mono ?_
  rintro e w7 ⟨rfl, rfl⟩
  go_wp2
  go_ret
  exact ⟨rfl, unhide B6⟩

set_option maxHeartbeats 1000000 in
theorem back_none {w : World} {ad : Addr} (a : Int) (t : Tens w) (hR : Reads ad w) (h : a < -3599999999000000 ∨ 3599999999000000 < a) :
    Calls Tryd.prog 6 #[.int .i64 a] w fun e w' => e = .returned (.bool true) ∧ Below w.heap.size w w' := by
  rcases h with h | h
  case' inl => have g1 : decide (3599999999000000 < a) = false := by simp; omega
  all_goals
    go_enter Tryd.func6, Tryd.ntmps6
    go_wp2_with fail
    refine (degrees_any (-1) _ t (by omega) (by omega)).mono ?_
    rintro e w1 ⟨s1, rfl, HS1, z1, hb1⟩
    have r1 := hR.below hb1 hR.big
    have B1 := hide hb1
    clear hb1
    go_wp2_with fail
    refine (degrees_read (-1) s1 ad _ r1 HS1 z1 (by omega) (by omega)).mono ?_
    rintro e w2 ⟨rfl, hb2⟩
    have B2 := hide ((unhide B1).trans (hb2.mono (unhide B1).size))
    clear hb2 r1 B1 HS1
    go_wp2
    go_ret
    exact ⟨rfl, unhide B2⟩
end Go.Proofs.YtfifbcoedfdnjabDoor
