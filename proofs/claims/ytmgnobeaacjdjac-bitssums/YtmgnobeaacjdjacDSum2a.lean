/-
  The program's tally: a number is added, by its contract.
-/
import Derived.Test.YtmgnobeaacjdjacDSum1
namespace Go.Proofs.Ytmgnobeaacjdjac
open Go Go.RowKit

theorem Sum64.below {w w' : World} {g B : Nat} {v : Nat → Nat} (s : Sum64 w g v) (h : Below B w w') (hB : g < B) : Sum64 w' g v := ⟨s.row.below h hB, s.lt⟩
theorem Sum64.other {w w' : World} {g k : Nat} {v : Nat → Nat} (s : Sum64 w g v) (h : Only k w w') (hk : g ≠ k) : Sum64 w' g v := ⟨h.row hk s.row, s.lt⟩
theorem Sum64.drawn {w : World} {g : Nat} {v : Nat → Nat} (s : Sum64 w g v) (n : Nat) : Sum64 (w.drewN n) g v := ⟨s.row.drawn n, s.lt⟩
theorem FloatRow.below {w w' : World} {b off B : Nat} {l : List Nat} (r : FloatRow w b off l) (h : Below B w w') (hB : b < B) : FloatRow w' b off l := fun j hj => (h.cell (p := ⟨b, off + j, none⟩) hB).trans (r j hj)
theorem take_snoc {l : List Nat} {k : Nat} (hk : k < l.length) : l.take (k + 1) = l.take k ++ [l.getD k 0] := by
  rw [List.take_add_one]
  simp [List.getD, List.getElem?_eq_getElem hk]
theorem dv_nothing (n : Nat) : dv 64 (fun _ => 0) n = 0 := dv_zero.2 fun _ _ => rfl
theorem pos_none {x : Nat} (h : isF x = false) : posN [x] = 0 := by simp [posN, h]
theorem neg_none {x : Nat} (h : isF x = false) : negN [x] = 0 := by simp [negN, h]
theorem pos_some {x : Nat} (h : isF x = true) (hg : gtN x = true) : posN [x] = U x := by simp [posN, h, hg]
theorem neg_some {x : Nat} (h : isF x = true) (hg : gtN x = false) : negN [x] = U x := by simp [negN, h, hg]
theorem pos_below {x : Nat} (hg : gtN x = false) : posN [x] = 0 := by simp [posN, hg]
theorem neg_above {x : Nat} (hg : gtN x = true) : negN [x] = 0 := by simp [negN, hg]
theorem sumV_def (l : List Nat) : (endV l ≠ 0 → sumV l = endV l) ∧ (endV l = 0 → (decide (0 < l.length) && allM l) = true → sumV l = 9223372036854775808) ∧ (endV l = 0 → (decide (0 < l.length) && allM l) = false → sumV l = finV (sumZ l)) := by
  have e : (l ≠ [] ∧ allM l = true) ↔ (decide (0 < l.length) && allM l) = true := by
    rw [Bool.and_eq_true, decide_eq_true_eq, List.length_pos_iff]
  refine ⟨fun h => ?_, fun h k => ?_, fun h k => ?_⟩
  · unfold sumV; rw [if_pos h]
  · unfold sumV; rw [if_neg (by omega), if_pos (e.2 k)]
  · unfold sumV; rw [if_neg (by omega), if_neg (fun h' => by rw [e.1 h'] at k; cases k)]
theorem finV_neg {z : Int} {d : Nat} (h : z = -(d : Int)) (h0 : 0 < d) : finV z = ngN (rnd d) := by
  subst h
  unfold finV
  rw [if_pos (by omega)]
  congr 2
  omega
theorem finV_pos {z : Int} {d : Nat} (h : z = (d : Int)) : finV z = rnd d := by
  subst h
  unfold finV
  rw [if_neg (by omega)]
  congr 1
theorem isFin_any (x : Nat) (w : World) (hx : x < 18446744073709551616) : Calls Try.prog 37 #[.float .f64 x] w fun e w' => e = .returned (.bool (isF x)) ∧ w' = w := by
  rw [← finB_is, fin_parts]
  have hn := fun v => isNaN_any x v
  cases h : nanI x with
  | true =>
    rw [h] at hn
    go_enter Try.func37, Try.ntmps37
    go_wp2_with (first
      | (go_at_call 45; refine (hn _).mono ?_; rintro e w1 ⟨rfl, rfl⟩))
    go_ret
    exact ⟨rfl, rfl⟩
  | false =>
    rw [h] at hn
    have hi := fun v => isInf_any x v hx h
    go_enter Try.func37, Try.ntmps37
    go_wp2_with (first
      | (go_at_call 45; refine (hn _).mono ?_; rintro e w1 ⟨rfl, rfl⟩)
      | (go_at_call 46; refine (hi _).mono ?_; rintro e w1 ⟨rfl, rfl⟩))
    go_ret
    exact ⟨rfl, rfl⟩
/-- a tally in its block. -/
structure TalAt (w : World) (g : Nat) (va vb : Nat → Nat) (e : Nat) (s o : Bool) : Prop where
  a : SumO w g 0 va
  b : SumO w g 34 vb
  ce : w.cell? ⟨g, 68, none⟩ = some (.float .f64 e)
  cs : w.cell? ⟨g, 69, none⟩ = some (.bool s)
  co : w.cell? ⟨g, 70, none⟩ = some (.bool o)
  fe : w.frozen? ⟨g, 68, none⟩ = false
  fs : w.frozen? ⟨g, 69, none⟩ = false
  fo : w.frozen? ⟨g, 70, none⟩ = false
theorem SumO.past {w : World} {g o k : Nat} {v : Nat → Nat} (s : SumO w g o v) (hk : k < o ∨ o + 34 ≤ k) (u : Value) : SumO (w.setCell ⟨g, k, none⟩ u) g o v where
  cell j hj := by
    rw [World.cell?_setCell_other]
    · exact s.cell j hj
    · intro q
      injection q with _ q
      omega
  free j hj := by
    rw [World.frozen?_setCell]
    exact s.free j hj
  blk := by simpa [World.setCell] using s.blk
  lt := s.lt
theorem cell_past {w : World} {g k j : Nat} {x : Option Value} {u : Value} (h : w.cell? ⟨g, j, none⟩ = x) (hk : j ≠ k) : (w.setCell ⟨g, k, none⟩ u).cell? ⟨g, j, none⟩ = x := by
  rw [World.cell?_setCell_other]
  · exact h
  · intro q
    injection q with _ q
    exact hk q.symm
theorem free_past {w : World} {g k j : Nat} {u : Value} (h : w.frozen? ⟨g, j, none⟩ = false) : (w.setCell ⟨g, k, none⟩ u).frozen? ⟨g, j, none⟩ = false := by
  rw [World.frozen?_setCell]
  exact h
theorem TalAt.putE {w : World} {g : Nat} {va vb : Nat → Nat} {e : Nat} {s o : Bool} (h : TalAt w g va vb e s o) (r : Nat) : TalAt (w.setCell ⟨g, 68, none⟩ (.float .f64 r)) g va vb r s o :=
  ⟨h.a.past (by omega) _, h.b.past (by omega) _, World.cell?_setCell_same w _ _ h.ce, cell_past h.cs (by decide), cell_past h.co (by decide), free_past h.fe, free_past h.fs, free_past h.fo⟩
theorem TalAt.putS {w : World} {g : Nat} {va vb : Nat → Nat} {e : Nat} {s o : Bool} (h : TalAt w g va vb e s o) (r : Bool) : TalAt (w.setCell ⟨g, 69, none⟩ (.bool r)) g va vb e r o :=
  ⟨h.a.past (by omega) _, h.b.past (by omega) _, cell_past h.ce (by decide), World.cell?_setCell_same w _ _ h.cs, cell_past h.co (by decide), free_past h.fe, free_past h.fs, free_past h.fo⟩
theorem TalAt.putO {w : World} {g : Nat} {va vb : Nat → Nat} {e : Nat} {s o : Bool} (h : TalAt w g va vb e s o) (r : Bool) : TalAt (w.setCell ⟨g, 70, none⟩ (.bool r)) g va vb e s r :=
  ⟨h.a.past (by omega) _, h.b.past (by omega) _, cell_past h.ce (by decide), cell_past h.cs (by decide), World.cell?_setCell_same w _ _ h.co, free_past h.fe, free_past h.fs, free_past h.fo⟩
theorem TalAt.drawn {w : World} {g : Nat} {va vb : Nat → Nat} {e : Nat} {s o : Bool} (h : TalAt w g va vb e s o) (n : Nat) : TalAt (w.drewN n) g va vb e s o := ⟨h.a.drawn n, h.b.drawn n, h.ce, h.cs, h.co, h.fe, h.fs, h.fo⟩
theorem TalAt.outA {w w' : World} {g : Nat} {va vb va' : Nat → Nat} {e : Nat} {s o : Bool} (h : TalAt w g va vb e s o) (k : OnlyO g 0 w w') (ha : SumO w' g 0 va') : TalAt w' g va' vb e s o :=
  ⟨ha, h.b.out k (by omega), (k.cell 68 (by omega)).trans h.ce, (k.cell 69 (by omega)).trans h.cs, (k.cell 70 (by omega)).trans h.co, (k.free 68 (by omega)).trans h.fe, (k.free 69 (by omega)).trans h.fs, (k.free 70 (by omega)).trans h.fo⟩
theorem TalAt.outB {w w' : World} {g : Nat} {va vb vb' : Nat → Nat} {e : Nat} {s o : Bool} (h : TalAt w g va vb e s o) (k : OnlyO g 34 w w') (hb : SumO w' g 34 vb') : TalAt w' g va vb' e s o :=
  ⟨h.a.out k (by omega), hb, (k.cell 68 (by omega)).trans h.ce, (k.cell 69 (by omega)).trans h.cs, (k.cell 70 (by omega)).trans h.co, (k.free 68 (by omega)).trans h.fe, (k.free 69 (by omega)).trans h.fs, (k.free 70 (by omega)).trans h.fo⟩
/-- a tally of numbers. -/
def TalOf (w : World) (g : Nat) (l : List Nat) : Prop := ∃ va vb e, TalAt w g va vb e (decide (0 < l.length)) (!allM l) ∧ dv 64 va 34 = posN l ∧ dv 64 vb 34 = negN l ∧ FSame e (endV l)
theorem all_snoc (l : List Nat) (x : Nat) : allM (l ++ [x]) = (allM l && (x == 9223372036854775808)) := by
  unfold allM
  rw [List.all_append]
  simp
def TaPost (g : Nat) (l : List Nat) (x : Nat) (w : World) (e : Ending) (w' : World) : Prop := e = .returned (.tuple #[]) ∧ TalOf w' g (l ++ [x]) ∧ Only g w w'
set_option maxRecDepth 100000 in
set_option maxHeartbeats 4000000 in
theorem tally_add {w : World} {g : Nat} {l : List Nat} {x : Nat} (h : TalOf w g l) (hl : l.length ≤ 500) (hx : x < 18446744073709551616) :
    Calls Try.prog 20 #[.pointer (some ⟨g, 0, none⟩), .float .f64 x] w (TaPost g l x w) := by
  obtain ⟨va, vb, e, hT, hp, hn, he⟩ := h
  have hfin := fun v => isFin_any x v hx
  have hsig := fun v => signbit_any x v hx
  have hmi := minus_is x hx
  have hpl := posN_le (l ++ [x])
  have hnl := negN_le (l ++ [x])
  have hlen : (l ++ [x]).length ≤ 512 := by rw [List.length_append]; simp; omega
  have hp1 := Nat.lt_of_le_of_lt hpl (many_lt hlen)
  have hn1 := Nat.lt_of_le_of_lt hnl (many_lt hlen)
  rw [posN_append] at hp1
  rw [negN_append] at hn1
  have hsm : decide (0 < (l ++ [x]).length) = true := by simp
  have hsn := all_snoc l x
  have hgt := gt_is x
  have hes := fun r => end_step (l := l) (x := x) (e := e) (r := r) hx
  have hef := endV_step l x
  -- what the block holds behind 'some' and 'other'
  have HT2 := hideE ((hT.putS true).putO (!allM (l ++ [x])))
  have HO2 := hideE (((Only.refl g w).set 69 (.bool true)).set 70 (.bool (!allM (l ++ [x]))))
  have ho : ∃ ob, (FloatKind.f64.format.order x 0 == some .eq) = ob := ⟨_, rfl⟩
  obtain ⟨ob, hob⟩ := ho
  obtain ⟨sg, hsg⟩ : ∃ sg, decide (9223372036854775808 ≤ x) = sg := ⟨_, rfl⟩
  have hob2 : (FloatKind.f64.format.order x 0 != some .eq) = !ob := by rw [bne, hob]
  rw [hob, hsg] at hmi
  rw [hsg] at hsig
  have hnew : (!allM (l ++ [x])) = ((!allM l || !ob) || !sg) := by
    rw [hsn, ← hmi]
    cases allM l <;> cases ob <;> cases sg <;> rfl
  have cs0 := hT.cs
  have fs0 := hT.fs
  have T1 := hT.putS true
  have co1 := T1.co
  have fo1 := T1.fo
  obtain ⟨om, hom⟩ : ∃ om, (!allM l) = om := ⟨_, rfl⟩
  obtain ⟨nm, hnm⟩ : ∃ nm, (!allM (l ++ [x])) = nm := ⟨_, rfl⟩
  rw [hom, hnm] at hnew
  rw [hom] at co1
  rw [hnm] at HT2 HO2
  -- how it ends
  have HEnd : HeldE (∀ va' vb' e' w', TalAt w' g va' vb' e' true nm → dv 64 va' 34 = posN (l ++ [x]) → dv 64 vb' 34 = negN (l ++ [x]) → FSame e' (endV (l ++ [x])) → Only g w w' → TaPost g l x w (.returned (.tuple #[])) w') := hideE (fun va' vb' e' w' h1 h2 h3 h4 h5 => ⟨rfl, ⟨va', vb', e', by rw [hsm, hnm]; exact h1, h2, h3, h4⟩, h5⟩)
  generalize decide (0 < l.length) = s0 at *
  have HP := hideE hp
  have HN := hideE hn
  have HE := hideE he
  clear hpl hnl hlen hsm hsn hT T1 hp hn he hom hnm hob hsg hmi hl
  go_enter Try.func20, Try.ntmps20
  go_upto_region 1 with fail
  have hcase : om = true ∨ (om = false ∧ ob = false) ∨ (om = false ∧ ob = true) := by cases om <;> cases ob <;> simp
  go_cut [4] from 4 to 22 (fun s4 wx => s4 = .pointer (some ⟨g, 0, none⟩) ∧ wx = (w.setCell ⟨g, 69, none⟩ (.bool true)).setCell ⟨g, 70, none⟩ (.bool nm))
  case' first =>
    rcases hcase with rfl | ⟨rfl, rfl⟩ | ⟨rfl, rfl⟩
    · obtain rfl : nm = true := by simpa using hnew
      clear hnew hfin hp1 hn1 hgt hes hef
      go_wp2
      go_meet
      exact ⟨rfl, rfl⟩
    · obtain rfl : nm = true := by simpa using hnew
      clear hnew hfin hp1 hn1 hgt hes hef
      go_wp2
      go_meet
      exact ⟨rfl, rfl⟩
    · obtain rfl : nm = !sg := by simpa using hnew
      clear hnew hfin hp1 hn1 hgt hes hef
      go_wp2_with fail
      refine (hsig _).mono ?_
      rintro e w1 ⟨rfl, rfl⟩
      go_wp2
      go_meet
      exact ⟨rfl, rfl⟩
  obtain ⟨rfl, rfl⟩ := hcut
  generalize (w.setCell ⟨g, 69, none⟩ (.bool true)).setCell ⟨g, 70, none⟩ (.bool nm) = w1 at *
  clear hcase cs0 fs0 co1 fo1 hsig hob2 hnew
  cases hfx : isF x with
  | false =>
    rw [hfx] at hfin
    have ce := (unhideE HT2).ce
    have fe := (unhideE HT2).fe
    have hfa := fun t x y v => run_fadd (P := Try.prog) t x y v
    have hsf := fun w a x m => run_store Try.prog w a (.float .f64 x) m rfl
    have HR : HeldE (∀ r n, FOp .add e x r → TaPost g l x w (.returned (.tuple #[])) ((w1.drewN n).setCell ⟨g, 68, none⟩ (.float .f64 r))) := hideE (fun r n hr => unhideE HEnd va vb r _ (((unhideE HT2).drawn n).putE r) (by rw [posN_append, pos_none hfx, Nat.add_zero]; exact unhideE HP) (by rw [negN_append, neg_none hfx, Nat.add_zero]; exact unhideE HN) (hes r hfx (unhideE HE) hr) (((unhideE HO2).draw n).set 68 _))
    clear hp1 hn1 hgt hes hef HEnd HP HN HE hfx
    go_wp2_with fail
    refine (hfin _).mono ?_
    rintro e w2 ⟨rfl, rfl⟩
    go_wp2
    go_end0
    exact unhideE HR _ _ (fnum_is _ _ _ _)
  | true =>
    rw [hfx] at hfin
    have hgt := hgt hfx
    have HE2 : HeldE (FSame e (endV (l ++ [x]))) := hideE (by rw [hef hfx]; exact unhideE HE)
    clear hes hef HE
    cases hg : gtN x with
    | true =>
      rw [hg] at hgt
      rw [pos_some hfx hg, ← unhideE HP] at hp1
      have HADD := hideE (addO g 0 x va w1 (unhideE HT2).a hx hfx hp1)
      have HR : HeldE (∀ va' w', SumO w' g 0 va' → dv 64 va' 34 = dv 64 va 34 + U x → OnlyO g 0 w1 w' → TaPost g l x w (.returned (.tuple #[])) w') := hideE (fun va' w' h1 h2 h3 => unhideE HEnd va' vb e _ ((unhideE HT2).outA h3 h1) (by rw [posN_append, pos_some hfx hg, h2, unhideE HP]) (by rw [negN_append, neg_above hg, Nat.add_zero]; exact unhideE HN) (unhideE HE2) ((unhideE HO2).trans h3.only))
      clear hp1 hn1 HEnd HP HN HE2 hfx hg
      go_wp2_with fail
      refine (hfin _).mono ?_
      rintro e w2 ⟨rfl, rfl⟩
      go_wp2_with fail
      refine (unhideE HADD).mono ?_
      rintro e w2 ⟨rfl, v2, hS2, hd2, hO2⟩
      have HF := hideE (unhideE HR v2 w2 hS2 hd2 hO2)
      clear hS2 hd2 hO2 HR HADD
      go_wp2
      go_end0
      exact unhideE HF
    | false =>
      rw [hg] at hgt
      rw [neg_some hfx hg, ← unhideE HN] at hn1
      have HADD := hideE (addO g 34 x vb w1 (unhideE HT2).b hx hfx hn1)
      have HR : HeldE (∀ vb' w', SumO w' g 34 vb' → dv 64 vb' 34 = dv 64 vb 34 + U x → OnlyO g 34 w1 w' → TaPost g l x w (.returned (.tuple #[])) w') := hideE (fun vb' w' h1 h2 h3 => unhideE HEnd va vb' e _ ((unhideE HT2).outB h3 h1) (by rw [posN_append, pos_below hg, Nat.add_zero]; exact unhideE HP) (by rw [negN_append, neg_some hfx hg, h2, unhideE HN]) (unhideE HE2) ((unhideE HO2).trans h3.only))
      clear hp1 hn1 HEnd HP HN HE2 hfx hg
      go_wp2_with fail
      refine (hfin _).mono ?_
      rintro e w2 ⟨rfl, rfl⟩
      go_wp2_with fail
      refine (unhideE HADD).mono ?_
      rintro e w2 ⟨rfl, v2, hS2, hd2, hO2⟩
      have HF := hideE (unhideE HR v2 w2 hS2 hd2 hO2)
      clear hS2 hd2 hO2 HR HADD
      go_wp2
      go_end0
      exact unhideE HF
end Go.Proofs.Ytmgnobeaacjdjac
