/-
  The program's mix of two lists of spans (but), by contract.
-/
import Derived.Test.YthhhomlgcefalahDoorDS2
namespace Go.Proofs.YthhhomlgcefalahDoor
open Go Go.RowKit

set_option maxRecDepth 100000 in
set_option maxHeartbeats 6400000 in
theorem mixed_but (ad1 ad2 : Option Addr) (c1 c2 : Nat) (A B : List Spn) (w : World) (hr1 : SpCame w ad1 A) (hr2 : SpCame w ad2 B) (l1 : A.length ≤ 4000) (l2 : B.length ≤ 4000) (hA : rightV A = true) (hB : rightV B = true)
    (hva : Calls Tryd.prog 33 #[.slice (some ⟨w.heap.size, 0, none⟩) 2 2] (w.alloc (.cells #[.slice ad1 A.length c1, .slice ad2 B.length c2] 28)) fun e w' => e = .returned .nilIface ∧ Below w.heap.size w w') :
    Calls Tryd.prog 29 #[.slice ad1 A.length c1, .slice ad2 B.length c2, .func (.func 32) #[] #[]] w (MixPost (fun x y => x && !y) A B w) := by
  obtain ⟨i0, hi0, hz0, hz1, hz2⟩ := info_parts infoSp
  have HR1 := hideR hr1
  have HR2 := hideR hr2
  have HFirst : HeldR (Sweep A B (fun x y => x && !y) 0 0 (-1152921504606846977) false 0 []) := Sweep.first hA hB rfl 0
  have HNext : HeldR (∀ (i j : Nat) (T : Int) (inn : Bool) (fr : Int) (l : List Spn), Sweep A B (fun x y => x && !y) i j T inn fr l → ∀ x, (x = endV A i ∧ x ≤ endV B j ∨ x = endV B j ∧ x ≤ endV A i) → x ≤ 1152921504606846976 →
      Sweep A B (fun x y => x && !y) (stepV A i x) (stepV B j x) x ((fun x y => x && !y) (oddV (stepV A i x)) (oddV (stepV B j x))) (sweepF inn ((fun x y => x && !y) (oddV (stepV A i x)) (oddV (stepV B j x))) fr x) (sweepL inn ((fun x y => x && !y) (oddV (stepV A i x)) (oddV (stepV B j x))) fr x l)) := fun i j T inn fr l S x h1 h2 => S.next hA hB h1 h2
  have HDone : HeldR (∀ (T : Int) (inn : Bool) (fr : Int) (l : List Spn), Sweep A B (fun x y => x && !y) (2 * A.length) (2 * B.length) T inn fr l → Mixed (fun x y => x && !y) A B l) := fun T inn fr l S => ⟨(S.done hA hB rfl l1 l2).1, (S.done hA hB rfl l1 l2).2.1, (S.done hA hB rfl l1 l2).2.2⟩
  have HInA := hideR (fun i (h : i < 2 * A.length) => end_in hA h)
  have HInB := hideR (fun i (h : i < 2 * B.length) => end_in hB h)
  have hfn := fun (x y : Bool) (u : World) => but_fn x y u
  generalize hF : (fun x y => x && !y) = F at HFirst HNext HDone ⊢
  have hfn2 : ∀ (x y : Bool) (u : World), Calls Tryd.prog 32 #[.bool x, .bool y] u fun e w' => e = .returned (.bool (F x y)) ∧ w' = u := by
    intro x y u
    have := hfn x y u
    rw [← hF]
    exact this
  clear hr1 hr2 hA hB hfn hF
  go_enter Tryd.func29, Tryd.ntmps29
  go_wp2_with fail
  refine hva.mono ?_
  rintro e W1 ⟨rfl, k1⟩
  have HW := hideR k1
  clear k1 hva
  replace HR1 := hideR ((unhideR HR1).below (unhideR HW))
  replace HR2 := hideR ((unhideR HR2).below (unhideR HW))
  go_wp2
  go_loopw [9, 10, 11, 12, 13] (fun lv fv nv iv jv wl => ∃ (i j : Nat) (T : Int) (inn : Bool) (fr : Int) (l : List Spn), iv = .int .i64 (i : Nat) ∧ jv = .int .i64 (j : Nat) ∧ nv = .bool inn ∧ fv = .int .i64 fr ∧ HeldR (wl.ownsRow W1.heap.size 40 2 lv l.length (flatSp l)) ∧ HeldR (Sweep A B F i j T inn fr l) ∧ HeldR (Below W1.heap.size W1 wl)) (fun _ _ _ iv jv _ => 2 * A.length + 2 * B.length + 1 - ((intOf iv).toNat + (intOf jv).toNat))
  case atStart => exact ⟨0, 0, _, _, _, [], rfl, rfl, rfl, rfl, World.ownsRow_nil _ _ _ _, HFirst, hideR (Below.refl _ _)⟩
  case round =>
    clear HFirst
    obtain ⟨i, j, T, inn, fr, l, rfl, rfl, rfl, rfl, HO, HSw, HK⟩ := hrel
    have ia := (unhideR HSw).pa.le
    have jb := (unhideR HSw).pb.le
    have lf := (unhideR HSw).few
    have wA : IntKind.i64.wrap (2 * (A.length : Int)) = 2 * (A.length : Int) := iwrap (by omega) (by omega)
    have wB : IntKind.i64.wrap (2 * (B.length : Int)) = 2 * (B.length : Int) := iwrap (by omega) (by omega)
    by_cases hmore : i < 2 * A.length ∨ j < 2 * B.length
    · have hea := end_any ad1 c1 A ((unhideR HR1).below (unhideR HK)) l1 ia
      have heb := end_any ad2 c2 B ((unhideR HR2).below (unhideR HK)) l2 jb
      obtain ⟨x, hx1, hx2, hmin⟩ : ∃ x, (x = endV A i ∧ x ≤ endV B j ∨ x = endV B j ∧ x ≤ endV A i) ∧ x ≤ 1152921504606846976 ∧ ∀ (ts : Array TypeId) (t : TypeId) (u : World), (Builtin.min_ ts t #[.int .i64 (endV A i), .int .i64 (endV B j)]).run Tryd.prog u = .ok (.int .i64 x) u := by
        have ba : i < 2 * A.length → endV A i ≤ 1152921504606846976 := fun h => (unhideR HInA i h).2
        have bb : j < 2 * B.length → endV B j ≤ 1152921504606846976 := fun h => (unhideR HInB j h).2
        have oa : ¬ i < 2 * A.length → endV A i = 9223372036854775807 := fun h => by unfold endV; rw [if_pos (by omega)]
        have ob : ¬ j < 2 * B.length → endV B j = 9223372036854775807 := fun h => by unfold endV; rw [if_pos (by omega)]
        refine ⟨_, ?_, ?_, fun ts t u => run_min_int2 u ts t _ _ _ _⟩
        · split <;> omega
        · by_cases q1 : i < 2 * A.length
          · have := ba q1
            split <;> omega
          · have := bb (by omega)
            have := oa q1
            split <;> omega
      have HN := hideR (unhideR HNext i j T inn fr l (unhideR HSw) x hx1 hx2)
      obtain ⟨I2, hI2⟩ : ∃ I2, stepV A i x = I2 := ⟨_, rfl⟩
      obtain ⟨J2, hJ2⟩ : ∃ J2, stepV B j x = J2 := ⟨_, rfl⟩
      have gi := stepV_le A i x
      have gj := stepV_le B j x
      rw [hI2] at gi
      rw [hJ2] at gj
      rw [hI2, hJ2] at HN
      have HGr : HeldR (i + j + 1 ≤ I2 + J2) := by
        unfold HeldR
        unfold stepV at hI2 hJ2
        rcases hx1 with ⟨q, _⟩ | ⟨q, _⟩
        · rw [if_pos q.symm] at hI2
          omega
        · rw [if_pos q.symm] at hJ2
          omega
      have hIle : I2 ≤ 2 * A.length := (unhideR HN).pa.le
      have hJle : J2 ≤ 2 * B.length := (unhideR HN).pb.le
      have oI : ((I2 : Int) % 2 == 1) = oddV I2 := by
        unfold oddV
        rcases Nat.mod_two_eq_zero_or_one I2 with e | e
        · rw [decide_eq_false (by omega)]
          simp
          omega
        · rw [decide_eq_true e]
          simp
          omega
      have oJ : ((J2 : Int) % 2 == 1) = oddV J2 := by
        unfold oddV
        rcases Nat.mod_two_eq_zero_or_one J2 with e | e
        · rw [decide_eq_false (by omega)]
          simp
          omega
        · rw [decide_eq_true e]
          simp
          omega
      have hco := fun u => hfn2 (oddV I2) (oddV J2) u
      generalize F (oddV I2) (oddV J2) = nw at *
      generalize oddV I2 = pI at *
      generalize oddV J2 = pJ at *
      have cI : (endV A i = x ∧ I2 = i + 1) ∨ (endV A i ≠ x ∧ I2 = i) := by
        unfold stepV at hI2
        by_cases q : endV A i = x
        · rw [if_pos q] at hI2
          exact .inl ⟨q, hI2.symm⟩
        · rw [if_neg q] at hI2
          exact .inr ⟨q, hI2.symm⟩
      have cJ : (endV B j = x ∧ J2 = j + 1) ∨ (endV B j ≠ x ∧ J2 = j) := by
        unfold stepV at hJ2
        by_cases q : endV B j = x
        · rw [if_pos q] at hJ2
          exact .inl ⟨q, hJ2.symm⟩
        · rw [if_neg q] at hJ2
          exact .inr ⟨q, hJ2.symm⟩
      clear hI2 hJ2 HNext hfn2 HInA HInB hx1 HDone
      generalize endV A i = ea at *
      generalize endV B j = eb at *
      have tI : (decide ((i : Int) < 2 * (A.length : Int)) = true) ∨ (decide ((i : Int) < 2 * (A.length : Int)) = false ∧ decide ((j : Int) < 2 * (B.length : Int)) = true) := by
        by_cases q : i < 2 * A.length
        · exact .inl (decide_eq_true (by omega))
        · exact .inr ⟨decide_eq_false (by omega), decide_eq_true (by omega)⟩
      have wi : IntKind.i64.wrap ((i : Int) + 1) = (i : Int) + 1 := iwrap (by omega) (by omega)
      have wj : IntKind.i64.wrap ((j : Int) + 1) = (j : Int) + 1 := iwrap (by omega) (by omega)
      clear HSw
      have HcI := hideR cI
      have HcJ := hideR cJ
      clear cI cJ
      rcases tI with tI | ⟨tI, tJ⟩
      all_goals
        rcases unhideR HcI with ⟨cI1, cI2⟩ | ⟨cI1, cI2⟩
        · have tA : (ea == x) = true := by simp [cI1]
          have wi2 : IntKind.i64.wrap ((i : Int) + 1) = (I2 : Int) := by rw [wi]; omega
          clear wi cI2 cI1 HcI
          rcases unhideR HcJ with ⟨cJ1, cJ2⟩ | ⟨cJ1, cJ2⟩
          · have tB : (eb == x) = true := by simp [cJ1]
            have wj2 : IntKind.i64.wrap ((j : Int) + 1) = (J2 : Int) := by rw [wj]; omega
            clear wj cJ2 cJ1 HcJ
            go_wp2_with fail
            refine hea.mono ?_
            rintro e w8 ⟨rfl, rfl⟩
            go_wp2_with fail
            refine heb.mono ?_
            rintro e w9 ⟨rfl, rfl⟩
            go_wp2_with fail
            refine (hco _).mono ?_
            rintro e w10 ⟨rfl, rfl⟩
            clear hea heb hco hmin
            cases inn
            · cases nw
              · have HSw : HeldR (Sweep A B F I2 J2 x false fr l) := unhideR HN
                go_wp2
                exact ⟨⟨I2, J2, x, _, fr, l, rfl, rfl, rfl, rfl, HO, HSw, HK⟩, by have := unhideR HGr; simp [intOf]; omega⟩
              · have HSw : HeldR (Sweep A B F I2 J2 x true x l) := unhideR HN
                go_wp2
                exact ⟨⟨I2, J2, x, _, x, l, rfl, rfl, rfl, rfl, HO, HSw, HK⟩, by have := unhideR HGr; simp [intOf]; omega⟩
            · cases nw
              · have HSw : HeldR (Sweep A B F I2 J2 x false fr (l ++ [⟨fr, x⟩])) := unhideR HN
                obtain ⟨p, hp⟩ : ∃ p : Spn, p = ⟨fr, x⟩ := ⟨_, rfl⟩
                rw [← hp] at HSw
                have p1 : fr = p.f := by rw [hp]
                have p2 : x = p.t := by rw [hp]
                have hcx : ∀ k u, (valSp p)[k]? = some u → (w10.alloc (.cells #[.int .i64 fr, .int .i64 x] 40)).cell? ((⟨w10.heap.size, 0, none⟩ : Addr).add k) = some u := by
                  have := alloc_last w10 (.cells #[.int .i64 fr, .int .i64 x] 40)
                  rw [p1, p2] at this ⊢
                  exact sp_two' this
                have HCX := hideR hcx
                have lk := (unhideR HK).size
                clear hcx p1 p2 hp
                go_wp2_with (first
                  | (at_builtin; refine wpList_append_own _ rfl _ _ 28 rfl W1.heap.size 40 i0 Spzv 2 16 Tryd.underlying28 hi0 hz0 hz1 hz2 rfl (by decide) _ l.length (flatSp l) rfl (own_below2 (unhideR HO) (below_a _ _)) ⟨w10.heap.size, 0, none⟩ 1 1 (valSp p) rfl rfl ?c1 ?c2 ?c3 ?c4 ?c5 ?_))
                case c1 => exact unhideR HCX
                case c2 =>
                  intro u hu
                  exact flatSp_one [p] u (by simpa [flatSp] using hu)
                case c3 => unfold maxLen; omega
                case c4 => omega
                case c5 => simp; omega
                intro v3 w3 hown2 hgrow2 _
                have B3 := hideR ((below_go (unhideR HK) (below_a w10 _)).grown hgrow2 (by simp; omega) (fun g h => own_at2 (unhideR HO) g h))
                have O3 : HeldR (w3.ownsRow W1.heap.size 40 2 v3 (l ++ [p]).length (flatSp (l ++ [p]))) := by
                  unfold HeldR
                  rw [flatSp_append, List.length_append, show flatSp [p] = valSp p from List.append_nil _]
                  exact hown2
                clear hown2 hgrow2 HO HK
                go_wp2
                exact ⟨⟨I2, J2, x, _, fr, _, rfl, rfl, rfl, rfl, O3, HSw, B3⟩, by have := unhideR HGr; simp [intOf]; omega⟩
              · have HSw : HeldR (Sweep A B F I2 J2 x true fr l) := unhideR HN
                go_wp2
                exact ⟨⟨I2, J2, x, _, fr, l, rfl, rfl, rfl, rfl, HO, HSw, HK⟩, by have := unhideR HGr; simp [intOf]; omega⟩
          · have tB : (eb == x) = false := by simp [cJ1]
            subst cJ2
            clear cJ1 HcJ
            go_wp2_with fail
            refine hea.mono ?_
            rintro e w8 ⟨rfl, rfl⟩
            go_wp2_with fail
            refine heb.mono ?_
            rintro e w9 ⟨rfl, rfl⟩
            go_wp2_with fail
            refine (hco _).mono ?_
            rintro e w10 ⟨rfl, rfl⟩
            clear hea heb hco hmin
            cases inn
            · cases nw
              · have HSw : HeldR (Sweep A B F I2 J2 x false fr l) := unhideR HN
                go_wp2
                exact ⟨⟨I2, J2, x, _, fr, l, rfl, rfl, rfl, rfl, HO, HSw, HK⟩, by have := unhideR HGr; simp [intOf]; omega⟩
              · have HSw : HeldR (Sweep A B F I2 J2 x true x l) := unhideR HN
                go_wp2
                exact ⟨⟨I2, J2, x, _, x, l, rfl, rfl, rfl, rfl, HO, HSw, HK⟩, by have := unhideR HGr; simp [intOf]; omega⟩
            · cases nw
              · have HSw : HeldR (Sweep A B F I2 J2 x false fr (l ++ [⟨fr, x⟩])) := unhideR HN
                obtain ⟨p, hp⟩ : ∃ p : Spn, p = ⟨fr, x⟩ := ⟨_, rfl⟩
                rw [← hp] at HSw
                have p1 : fr = p.f := by rw [hp]
                have p2 : x = p.t := by rw [hp]
                have hcx : ∀ k u, (valSp p)[k]? = some u → (w10.alloc (.cells #[.int .i64 fr, .int .i64 x] 40)).cell? ((⟨w10.heap.size, 0, none⟩ : Addr).add k) = some u := by
                  have := alloc_last w10 (.cells #[.int .i64 fr, .int .i64 x] 40)
                  rw [p1, p2] at this ⊢
                  exact sp_two' this
                have HCX := hideR hcx
                have lk := (unhideR HK).size
                clear hcx p1 p2 hp
                go_wp2_with (first
                  | (at_builtin; refine wpList_append_own _ rfl _ _ 28 rfl W1.heap.size 40 i0 Spzv 2 16 Tryd.underlying28 hi0 hz0 hz1 hz2 rfl (by decide) _ l.length (flatSp l) rfl (own_below2 (unhideR HO) (below_a _ _)) ⟨w10.heap.size, 0, none⟩ 1 1 (valSp p) rfl rfl ?c1 ?c2 ?c3 ?c4 ?c5 ?_))
                case c1 => exact unhideR HCX
                case c2 =>
                  intro u hu
                  exact flatSp_one [p] u (by simpa [flatSp] using hu)
                case c3 => unfold maxLen; omega
                case c4 => omega
                case c5 => simp; omega
                intro v3 w3 hown2 hgrow2 _
                have B3 := hideR ((below_go (unhideR HK) (below_a w10 _)).grown hgrow2 (by simp; omega) (fun g h => own_at2 (unhideR HO) g h))
                have O3 : HeldR (w3.ownsRow W1.heap.size 40 2 v3 (l ++ [p]).length (flatSp (l ++ [p]))) := by
                  unfold HeldR
                  rw [flatSp_append, List.length_append, show flatSp [p] = valSp p from List.append_nil _]
                  exact hown2
                clear hown2 hgrow2 HO HK
                go_wp2
                exact ⟨⟨I2, J2, x, _, fr, _, rfl, rfl, rfl, rfl, O3, HSw, B3⟩, by have := unhideR HGr; simp [intOf]; omega⟩
              · have HSw : HeldR (Sweep A B F I2 J2 x true fr l) := unhideR HN
                go_wp2
                exact ⟨⟨I2, J2, x, _, fr, l, rfl, rfl, rfl, rfl, HO, HSw, HK⟩, by have := unhideR HGr; simp [intOf]; omega⟩
        · have tA : (ea == x) = false := by simp [cI1]
          subst cI2
          clear cI1 HcI
          rcases unhideR HcJ with ⟨cJ1, cJ2⟩ | ⟨cJ1, cJ2⟩
          · have tB : (eb == x) = true := by simp [cJ1]
            have wj2 : IntKind.i64.wrap ((j : Int) + 1) = (J2 : Int) := by rw [wj]; omega
            clear wj cJ2 cJ1 HcJ
            go_wp2_with fail
            refine hea.mono ?_
            rintro e w8 ⟨rfl, rfl⟩
            go_wp2_with fail
            refine heb.mono ?_
            rintro e w9 ⟨rfl, rfl⟩
            go_wp2_with fail
            refine (hco _).mono ?_
            rintro e w10 ⟨rfl, rfl⟩
            clear hea heb hco hmin
            cases inn
            · cases nw
              · have HSw : HeldR (Sweep A B F I2 J2 x false fr l) := unhideR HN
                go_wp2
                exact ⟨⟨I2, J2, x, _, fr, l, rfl, rfl, rfl, rfl, HO, HSw, HK⟩, by have := unhideR HGr; simp [intOf]; omega⟩
              · have HSw : HeldR (Sweep A B F I2 J2 x true x l) := unhideR HN
                go_wp2
                exact ⟨⟨I2, J2, x, _, x, l, rfl, rfl, rfl, rfl, HO, HSw, HK⟩, by have := unhideR HGr; simp [intOf]; omega⟩
            · cases nw
              · have HSw : HeldR (Sweep A B F I2 J2 x false fr (l ++ [⟨fr, x⟩])) := unhideR HN
                obtain ⟨p, hp⟩ : ∃ p : Spn, p = ⟨fr, x⟩ := ⟨_, rfl⟩
                rw [← hp] at HSw
                have p1 : fr = p.f := by rw [hp]
                have p2 : x = p.t := by rw [hp]
                have hcx : ∀ k u, (valSp p)[k]? = some u → (w10.alloc (.cells #[.int .i64 fr, .int .i64 x] 40)).cell? ((⟨w10.heap.size, 0, none⟩ : Addr).add k) = some u := by
                  have := alloc_last w10 (.cells #[.int .i64 fr, .int .i64 x] 40)
                  rw [p1, p2] at this ⊢
                  exact sp_two' this
                have HCX := hideR hcx
                have lk := (unhideR HK).size
                clear hcx p1 p2 hp
                go_wp2_with (first
                  | (at_builtin; refine wpList_append_own _ rfl _ _ 28 rfl W1.heap.size 40 i0 Spzv 2 16 Tryd.underlying28 hi0 hz0 hz1 hz2 rfl (by decide) _ l.length (flatSp l) rfl (own_below2 (unhideR HO) (below_a _ _)) ⟨w10.heap.size, 0, none⟩ 1 1 (valSp p) rfl rfl ?c1 ?c2 ?c3 ?c4 ?c5 ?_))
                case c1 => exact unhideR HCX
                case c2 =>
                  intro u hu
                  exact flatSp_one [p] u (by simpa [flatSp] using hu)
                case c3 => unfold maxLen; omega
                case c4 => omega
                case c5 => simp; omega
                intro v3 w3 hown2 hgrow2 _
                have B3 := hideR ((below_go (unhideR HK) (below_a w10 _)).grown hgrow2 (by simp; omega) (fun g h => own_at2 (unhideR HO) g h))
                have O3 : HeldR (w3.ownsRow W1.heap.size 40 2 v3 (l ++ [p]).length (flatSp (l ++ [p]))) := by
                  unfold HeldR
                  rw [flatSp_append, List.length_append, show flatSp [p] = valSp p from List.append_nil _]
                  exact hown2
                clear hown2 hgrow2 HO HK
                go_wp2
                exact ⟨⟨I2, J2, x, _, fr, _, rfl, rfl, rfl, rfl, O3, HSw, B3⟩, by have := unhideR HGr; simp [intOf]; omega⟩
              · have HSw : HeldR (Sweep A B F I2 J2 x true fr l) := unhideR HN
                go_wp2
                exact ⟨⟨I2, J2, x, _, fr, l, rfl, rfl, rfl, rfl, HO, HSw, HK⟩, by have := unhideR HGr; simp [intOf]; omega⟩
          · exfalso
            have := unhideR HGr
            omega
    · obtain rfl : i = 2 * A.length := by omega
      obtain rfl : j = 2 * B.length := by omega
      have hmx := unhideR HDone T inn fr l (unhideR HSw)
      obtain ⟨adX, capX, eX, hcX⟩ := Spown (unhideR HO)
      have tI : decide (2 * (A.length : Int) < 2 * (A.length : Int)) = false := decide_eq_false (by omega)
      have tJ : decide (2 * (B.length : Int) < 2 * (B.length : Int)) = false := decide_eq_false (by omega)
      have HF : HeldR (MixPost F A B w (.returned (.tuple #[.slice adX l.length capX, .nilIface])) wr) := ⟨l, adX, capX, rfl, hmx, hcX, below_go (unhideR HW) (unhideR HK)⟩
      rw [← eX] at HF
      clear hmx hcX eX HSw HDone HNext
      go_wp2
      go_ret2
      exact unhideR HF
end Go.Proofs.YthhhomlgcefalahDoor
