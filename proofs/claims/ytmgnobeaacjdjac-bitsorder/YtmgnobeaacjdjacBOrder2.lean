/-
  The law BitsOrder walked out of the contracts: its main case.
-/
import Derived.Test.YtmgnobeaacjdjacBOrder
import Derived.Test.YtmgnobeaacjdjacSeries
import Derived.Laws.AppendOwnNone
namespace Go.Proofs.Ytmgnobeaacjdjac
open Go Go.RowKit

theorem add_pl (b o j : Nat) : (⟨b, o, none⟩ : Addr).add j = ⟨b, o + j, none⟩ := by
  by_cases h : j = 0 <;> simp [Addr.add, h]
theorem own_below {w w' : World} {B n : Nat} {e : TypeId} {v : Value} {xs : List Value} (h : w.ownsRow B e 1 v n xs) (hb : Below w.heap.size w w') : w'.ownsRow B e 1 v n xs := by
  obtain ⟨h1, h2⟩ := h
  refine ⟨h1, ?_⟩
  rcases h2 with h2 | ⟨g, cap, cur, hv, hg, hh, r⟩
  · exact Or.inl h2
  · have hlt : g < w.heap.size := by
      rcases Nat.lt_or_ge g w.heap.size with h | h
      · exact h
      · rw [Array.getElem?_eq_none h] at hh; cases hh
    exact Or.inr ⟨g, cap, cur, hv, hg, by rw [hb.block g hlt]; exact hh, r⟩
theorem own_at {w : World} {B n : Nat} {e : TypeId} {v : Value} {xs : List Value} (h : w.ownsRow B e 1 v n xs) : ∀ g, v.ownBlock = some g → B ≤ g ∧ g < w.heap.size := by
  intro g hg
  rcases h.2 with ⟨h2, _⟩ | ⟨g', cap, cur, hv, hB, hh, _⟩
  · subst h2; cases hg
  · subst hv
    have e : g' = g := by simpa [Value.ownBlock] using hg
    subst e
    refine ⟨hB, ?_⟩
    rcases Nat.lt_or_ge g' w.heap.size with h | h
    · exact h
    · rw [Array.getElem?_eq_none h] at hh; cases hh
theorem zero_eq {l : List Nat} {a : Nat} (h0 : endV l = 0) (hz : sumZ l = 0) (hf : FSame a (sumV l)) : (FloatKind.f64.format.order a 0 == some .eq) = true := by
  have hs := sumV_def l
  cases hB : (decide (0 < l.length) && allM l) with
  | true =>
    rw [hs.2.1 h0 hB] at hf
    rw [same_num hf (by decide)]
    decide +kernel
  | false =>
    have e : rnd 0 = 0 := rnd_zero.2 rfl
    have e0 : finV 0 = rnd 0 := finV_pos (z := 0) (d := 0) rfl
    rw [hs.2.2 h0 hB, hz, e0, e] at hf
    rw [same_num hf (by decide)]
    decide +kernel
theorem rev_step {l : List Nat} {k j : Nat} (hk : k ≤ l.length) (hj : j < k) : (l.take k).reverse.take (j + 1) = (l.take k).reverse.take j ++ [l.getD (k - 1 - j) 0] := by
  rw [List.take_add_one]
  congr 1
  have hlen : (l.take k).length = k := by rw [List.length_take]; omega
  rw [List.getElem?_reverse (by omega), hlen, List.getElem?_take]
  rw [if_pos (by omega)]
  simp [List.getD, List.getElem?_eq_getElem (show k - 1 - j < l.length by omega)]
set_option maxHeartbeats 4000000 in
theorem order_some (b off cap k : Nat) (l : List Nat) (x : Nat) (w : World) (hr : FloatRow w b off l) (hl : l.length ≤ 300) (hk : k ≤ l.length) (hx : ∀ y ∈ l, y < 18446744073709551616) (hxx : x < 18446744073709551616) (hb : b < w.heap.size) (hcap : l.length ≤ cap) (_ : cap ≤ 9223372036854775807) :
    Calls Try.prog 4 #[.slice (some ⟨b, off, none⟩) l.length cap, .int .i64 k, .float .f64 x] w fun e w' => e = .returned (.bool true) ∧ Below w.heap.size w w' := by
  obtain ⟨i0, hi, hz0, hz1, hz2⟩ := info_parts infoF
  have ho1 : FloatKind.f64.format.order 4607182418800017408 4607182418800017408 = some .eq := by decide +kernel
  have hrow : FloatRow (w.alloc (.cells #[.float .f64 9094988921128908188, .float .f64 4607182418800017408, .float .f64 18318360957983683996] 23)) w.heap.size 0 [9094988921128908188, 4607182418800017408, 18318360957983683996] := by
    intro j hj
    have hj : j = 0 ∨ j = 1 ∨ j = 2 := by simp at hj; omega
    rcases hj with rfl | rfl | rfl <;> simp [go_sem]
  have B0 := hideE ((Below.refl w.heap.size w).alloc (Nat.le_refl _) (.cells #[.float .f64 9094988921128908188, .float .f64 4607182418800017408, .float .f64 18318360957983683996] 23))
  have C0 := hideE (dsum_any w.heap.size 0 3 _ _ hrow (by decide) (by decide) (by simp))
  rw [first_three] at C0
  clear hrow
  have HX := hideE hx
  clear hx
  obtain ⟨ad, hadr, hadc⟩ : ∃ ad : Addr, (if cap = k then some (⟨b, off, none⟩ : Addr) else some ⟨b, off + k, none⟩) = some ad ∧ (k < l.length → ad = ⟨b, off + k, none⟩) := by
    by_cases h : cap = k
    · rw [if_pos h]; exact ⟨_, rfl, fun h2 => by omega⟩
    · rw [if_neg h]; exact ⟨_, rfl, fun _ => rfl⟩
  have HAD := hideE hadc
  clear hadc
  go_enter Try.func4, Try.ntmps4
  go_wp2_with fail
  refine (unhideE C0).mono ?_
  rintro e w1 ⟨r, rfl, hr0, b1⟩
  obtain rfl := same_num hr0 (by decide)
  have B1 := hideE ((unhideE B0).trans (b1.mono (unhideE B0).size))
  have R1 := hideE (hr.below (unhideE B1) hb)
  clear hr0 b1 C0 B0
  have hr0 := hr
  have z1 := (unhideE B1).size
  go_wp2_with (first
    | (at_builtin; refine wpList_append_own _ rfl _ _ 22 rfl w.heap.size 23 i0 (.float .f64 0) 1 8 Try.underlying22 hi hz0 hz1 hz2 rfl (by decide) _ _ _ rfl (World.ownsRow_nil _ _ _ _) ad (l.length - k) (cap - k) ((l.drop k).map (Value.float .f64)) rfl (by simp) ?p1 ?p2 ?p3 ?p4 ?p5 ?_))
  case p1 =>
    intro j u hj
    have hlt : j < (l.drop k).length := by
      have h := (List.getElem?_eq_some_iff.1 hj).1
      simpa using h
    rw [List.length_drop] at hlt
    rw [unhideE HAD (by omega)]
    have e : (⟨b, off + k, none⟩ : Addr).add j = ⟨b, off + (k + j), none⟩ := by
      rw [add_pl, Nat.add_assoc]
    rw [e, unhideE R1 (k + j) (by omega)]
    rw [List.getElem?_map, List.getElem?_drop] at hj
    rw [← hj]
    simp [List.getD, List.getElem?_eq_getElem (show k + j < l.length by omega)]
  case p2 =>
    intro u hu
    simp only [List.mem_map] at hu
    obtain ⟨y, _, rfl⟩ := hu
    rfl
  case p3 => unfold maxLen; omega
  case p4 => omega
  case p5 => omega
  intro v' w2 hown hgrow _
  have B2 := hideE ((unhideE B1).grown hgrow z1 (fun g h => by cases h))
  have R2 := hideE (hr0.below (unhideE B2) hb)
  have X2 : HeldE ([] ++ (l.drop k).map (Value.float .f64) = (l.drop k ++ (l.take k).reverse.take 0).map (Value.float .f64)) := by
    show [] ++ (l.drop k).map (Value.float .f64) = (l.drop k ++ (l.take k).reverse.take 0).map (Value.float .f64)
    simp
  have O2 : HeldE (w2.ownsRow w.heap.size 23 1 v' (0 + (l.length - k)) ([] ++ (l.drop k).map (Value.float .f64))) := by simpa [HeldE] using hown
  clear hown hgrow B1 R1 HAD hadr z1
  go_wp2
  go_loopw [8, 9] (fun mv iv wl => ∃ (j n : Nat) (xs : List Value), j ≤ k ∧ n = l.length - k + j ∧ iv = .int .i64 ((k : Int) - j - 1) ∧ HeldE (wl.ownsRow w.heap.size 23 1 mv n xs) ∧ HeldE (xs = (l.drop k ++ (l.take k).reverse.take j).map (Value.float .f64)) ∧ HeldE (Below w.heap.size w wl)) (fun _ iv _ => (intOf iv + 1).toNat)
  case atStart => exact ⟨0, _, _, by omega, by omega, by simp, O2, X2, B2⟩
  case round =>
    obtain ⟨j, n, xs, hj, hn, rfl, HO, HXS, HB⟩ := hrel
    have hsz := (unhideE HB).size
    by_cases hlt : j < k
    · have c0 := hr0.below (unhideE HB) hb (k - 1 - j) (by omega)
      have hst := rev_step hk hlt
      rw [show ((k : Int) - j - 1) = ((k - 1 - j : Nat) : Int) by omega]
      have hii : ((k - 1 - j : Nat) : Int) < (l.length : Int) := by omega
      have hin : (((k - 1 - j : Nat) : Int) - 1) = (k : Int) - ((j + 1 : Nat) : Int) - 1 := by omega
      have HIN := hideE hin
      have hle : k - 1 - j ≤ 300 := by omega
      generalize l.getD (k - 1 - j) 0 = y at *
      have HST := hideE hst
      clear hst hin
      generalize k - 1 - j = i at *
      go_wp2_with (first
        | (at_builtin; refine wpList_append_own _ rfl _ _ 22 rfl w.heap.size 23 i0 (.float .f64 0) 1 8 Try.underlying22 hi hz0 hz1 hz2 rfl (by decide) _ _ _ rfl ((unhideE HO).alloc _) ⟨wr.heap.size, 0, none⟩ 1 1 [.float .f64 y] rfl rfl ?q1 ?q2 ?q3 ?q4 ?q5 ?_))
      case q1 =>
        intro m u hm
        have hm0 : m = 0 := by
          have h := (List.getElem?_eq_some_iff.1 hm).1
          simpa using h
        subst hm0
        rw [add_pl]
        simp at hm
        subst hm
        simp [go_sem]
      case q2 =>
        intro u hu
        simp only [List.mem_singleton] at hu
        subst hu
        rfl
      case q3 => unfold maxLen; omega
      case q4 => omega
      case q5 => simp; omega
      intro v2 w3 hown2 hgrow2 _
      have B3 := hideE (((unhideE HB).alloc hsz (.cells #[.float .f64 y] 23)).grown hgrow2 (by simp; omega) (fun g h => (own_at (unhideE HO) g h).1))
      have X3 : HeldE (xs ++ [Value.float .f64 y] = (l.drop k ++ (l.take k).reverse.take (j + 1)).map (Value.float .f64)) := by
        show xs ++ [Value.float .f64 y] = (l.drop k ++ (l.take k).reverse.take (j + 1)).map (Value.float .f64)
        rw [unhideE HST, ← List.append_assoc, List.map_append (l₂ := [y]), unhideE HXS]
        rfl
      have O3 := hideE hown2
      clear hown2 hgrow2 HO HXS HST
      go_wp2
      exact ⟨⟨j + 1, l.length - k + j + 1, _, by omega, by omega, by rw [unhideE HIN], O3, X3, B3⟩, by simp [intOf]⟩
    · obtain rfl : j = k := by omega
      have hys : xs = (l.drop j ++ (l.take j).reverse).map (Value.float .f64) := by
        have ht : (l.take j).reverse.take j = (l.take j).reverse := List.take_of_length_le (by rw [List.length_reverse, List.length_take]; omega)
        rw [unhideE HXS, ht]
      have hyl : (l.drop j ++ (l.take j).reverse).length = n := by
        rw [List.length_append, List.length_drop, List.length_reverse, List.length_take]; omega
      have HYX : HeldE (∀ y ∈ l.drop j ++ (l.take j).reverse, y < 18446744073709551616) := fun y hy => by
        refine unhideE HX y ?_
        rcases List.mem_append.1 hy with h | h
        · exact List.mem_of_mem_drop h
        · exact List.mem_of_mem_take (List.mem_reverse.1 h)
      have HSV := hideE (sumV_turned l j)
      have CA := hideE (dsum_any b off cap l wr (hr0.below (unhideE HB) hb) (by omega) (unhideE HX) (Nat.lt_of_lt_of_le hb hsz))
      subst hys
      generalize l.drop j ++ (l.take j).reverse = ys at *
      subst hyl
      have hneg : ∀ x v, (Op.unary UnOp.neg (.float .f64 x)).run Try.prog v = .ok (.float .f64 (ngN x)) v := fun _ _ => rfl
      have hng := ofF_neg x hxx
      have hfx := finB_is x
      clear HXS hr0 hr
      cases hf : finB x with
      | false =>
        have hfin := fun v => finite_any x v
        rw [hf] at hfin
        go_wp2_with fail
        refine (unhideE CA).mono ?_
        rintro e w3 ⟨ra, rfl, fa, b3⟩
        have B3 := hideE ((unhideE HB).trans (b3.mono (unhideE HB).size))
        have CB := hideE (dsum_own (own_below (unhideE HO) b3) rfl (by omega) (unhideE HYX))
        have O3 := hideE (own_below (unhideE HO) b3)
        have FA := hideE fa
        clear b3 fa CA HO HB
        go_wp2_with fail
        refine (unhideE CB).mono ?_
        rintro e w4 ⟨rb, rfl, fb, b4⟩
        have B4 := hideE ((unhideE B3).trans (b4.mono (unhideE B3).size))
        have O4 := hideE (own_below (unhideE O3) b4)
        have hsm : sameB ra rb = true := same_iff.2 ((unhideE FA).trans ((unhideE HSV) ▸ fb.symm))
        have CS := hideE (fun v => sameBits_any ra rb v)
        rw [hsm] at CS
        clear b4 fb CB hsm B3 O3
        go_wp2_with fail
        refine (unhideE CS _).mono ?_
        rintro e w5 ⟨rfl, rfl⟩
        clear CS
        go_wp2_with fail
        refine (hfin _).mono ?_
        rintro e w6 ⟨rfl, nf, rfl⟩
        go_wp2
        go_ret
        exact ⟨rfl, below_drewN (unhideE B4) _⟩
      | true =>
        have hfin := fun v => finite_any x v
        rw [hf] at hfin
        rw [hf] at hfx
        have hag := fun h => sumV_again ys x hxx hfx.symm h
        have HAG := hideE hag
        have HNX := hideE hng.2.2
        clear hag hng hfx
        go_wp2_with fail
        refine (unhideE CA).mono ?_
        rintro e w3 ⟨ra, rfl, fa, b3⟩
        have B3 := hideE ((unhideE HB).trans (b3.mono (unhideE HB).size))
        have CB := hideE (dsum_own (own_below (unhideE HO) b3) rfl (by omega) (unhideE HYX))
        have O3 := hideE (own_below (unhideE HO) b3)
        have FA := hideE fa
        clear b3 fa CA HO HB
        go_wp2_with fail
        refine (unhideE CB).mono ?_
        rintro e w4 ⟨rb, rfl, fb, b4⟩
        have B4 := hideE ((unhideE B3).trans (b4.mono (unhideE B3).size))
        have O4 := hideE (own_below (unhideE O3) b4)
        have hsm : sameB ra rb = true := same_iff.2 ((unhideE FA).trans ((unhideE HSV) ▸ fb.symm))
        have CS := hideE (fun v => sameBits_any ra rb v)
        rw [hsm] at CS
        clear b4 fb CB hsm B3 O3
        go_wp2_with fail
        refine (unhideE CS _).mono ?_
        rintro e w5 ⟨rfl, rfl⟩
        clear CS
        go_wp2_with fail
        refine (hfin _).mono ?_
        rintro e w6 ⟨rfl, nf, rfl⟩
        cases hox : (FloatKind.f64.format.order x 0 == some .eq) <;> cases hoa : (FloatKind.f64.format.order ra 0 == some .eq)
        · have hcz : endV ys = 0 → sumZ ys ≠ 0 := fun h0 hz => by
            have hq := zero_eq h0 hz ((unhideE HSV).symm ▸ unhideE FA)
            rw [hq] at hoa
            cases hoa
          have HS2 := hideE (unhideE HAG hcz)
          clear hcz
          have hsz4 := (unhideE B4).size
          go_wp2_with (first
            | (at_builtin; refine wpList_append_own _ rfl _ _ 22 rfl w.heap.size 23 i0 (.float .f64 0) 1 8 Try.underlying22 hi hz0 hz1 hz2 rfl (by decide) _ _ _ rfl ((own_below (unhideE O4) (below_drewN (Below.refl _ _) nf)).alloc _) ⟨w5.heap.size, 0, none⟩ 2 2 [.float .f64 x, .float .f64 (ngN x)] rfl rfl ?s1 ?s2 ?s3 ?s4 ?s5 ?_)
            | (at_builtin; refine wpList_append_own _ rfl _ _ 22 rfl w.heap.size 23 i0 (.float .f64 0) 1 8 Try.underlying22 hi hz0 hz1 hz2 rfl (by decide) _ _ _ rfl (own_below ((unhideE O4).alloc _) (below_drewN (Below.refl _ _) nf)) ⟨w5.heap.size, 0, none⟩ 2 2 [.float .f64 x, .float .f64 (ngN x)] rfl rfl ?s1 ?s2 ?s3 ?s4 ?s5 ?_))
          case s1 =>
            intro m u hm
            have hm0 : m = 0 ∨ m = 1 := by
              have h := (List.getElem?_eq_some_iff.1 hm).1
              simp at h
              omega
            rw [add_pl]
            rcases hm0 with rfl | rfl
            · simp at hm; subst hm; exact (World.cell?_alloc_at (w := w5.drewN nf) _ _ w5.heap.size 0 rfl).trans rfl
            · simp at hm; subst hm; exact (World.cell?_alloc_at (w := w5.drewN nf) _ _ w5.heap.size 1 rfl).trans rfl
          case s2 =>
            intro u hu
            simp only [List.mem_cons, List.not_mem_nil, or_false] at hu
            rcases hu with rfl | rfl <;> rfl
          case s3 => unfold maxLen; omega
          case s4 => omega
          case s5 => simp; omega
          intro v2 w7 hown2 hgrow2 _
          have B7 : HeldE (Below w.heap.size w w7) := by
            first
              | exact ((below_drewN (unhideE B4) nf).alloc (by simpa using hsz4) _).grown hgrow2 (by simp; omega) (fun g h => (own_at (unhideE O4) g h).1)
              | exact (below_drewN ((unhideE B4).alloc hsz4 _) nf).grown hgrow2 (by simp; omega) (fun g h => (own_at (unhideE O4) g h).1)
          have hown3 : w7.ownsRow w.heap.size 23 1 v2 (l.length + 2) ((ys ++ [x] ++ [ngN x]).map (Value.float .f64)) := by
            have e : (ys ++ [x] ++ [ngN x]).map (Value.float .f64) = ys.map (Value.float .f64) ++ [.float .f64 x, .float .f64 (ngN x)] := by simp
            rw [e]
            exact hown2
          have CC := hideE (dsum_own hown3 (by simp; omega) (by simp; omega) (fun y hy => by
            rcases List.mem_append.1 hy with h | h
            · rcases List.mem_append.1 h with h | h
              · exact unhideE HYX y h
              · rw [List.mem_singleton.1 h]; exact hxx
            · rw [List.mem_singleton.1 h]; exact unhideE HNX))
          clear hown2 hgrow2 hown3
          go_wp2_with fail
          refine (unhideE CC).mono ?_
          rintro e w8 ⟨rc, rfl, fc, b8⟩
          have B8 := hideE ((unhideE B7).trans (b8.mono (unhideE B7).size))
          have hsm : sameB rc ra = true := same_iff.2 (by
            have h1 : FSame rc (sumV l) := by
              rw [unhideE HS2, unhideE HSV] at fc
              exact fc
            exact h1.trans (unhideE FA).symm)
          have CS := hideE (fun v => sameBits_any rc ra v)
          rw [hsm] at CS
          clear fc b8 hsm CC
          go_wp2_with fail
          refine (unhideE CS _).mono ?_
          rintro e w9 ⟨rfl, rfl⟩
          go_wp2
          go_ret
          exact ⟨rfl, unhideE B8⟩
        · go_wp2
          go_ret
          exact ⟨rfl, below_drewN (unhideE B4) _⟩
        · go_wp2
          go_ret
          exact ⟨rfl, below_drewN (unhideE B4) _⟩
        · go_wp2
          go_ret
          exact ⟨rfl, below_drewN (unhideE B4) _⟩
end Go.Proofs.Ytmgnobeaacjdjac
