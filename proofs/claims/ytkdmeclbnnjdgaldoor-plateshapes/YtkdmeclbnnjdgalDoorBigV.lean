/-
  meridianref1's numbers of any size: BigOf, BigMul, BigCmp, Product, of any numbers, by contracts.
-/
import Derived.Test.YtkdmeclbnnjdgalDoorBigMul
import Derived.Test.YtkdmeclbnnjdgalDoorNum2
import Derived.Test.YtkdmeclbnnjdgalDoorKitA
namespace Go.Proofs.YtkdmeclbnnjdgalDoor
open Go Go.RowKit

/-- a row of digits in memory, or none. -/
structure BigV (w : World) (ad : Option Addr) (L : List Int) : Prop where
  dg : Digs L
  tp : Top L
  at_ : ∀ i, i < L.length → ∃ g, ad = some ⟨g, 0, none⟩ ∧ g < w.heap.size ∧ w.cell? ⟨g, i, none⟩ = some (.int .i64 (L.getD i 0))
theorem BigV.below {w v : World} {ad : Option Addr} {L : List Int} (h : BigV w ad L) (k : Below w.heap.size w v) : BigV v ad L := ⟨h.dg, h.tp, fun i hi => by
  obtain ⟨g, e, hg, hc⟩ := h.at_ i hi
  exact ⟨g, e, Nat.lt_of_lt_of_le hg k.size, (k.cell (p := ⟨g, i, none⟩) hg).trans hc⟩⟩
theorem own_bigV {w : World} {base : Nat} {v : Value} {L : List Int} (h : w.ownsRow base 3 1 v L.length (L.map (Value.int .i64))) (hd : Digs L) (ht : Top L) : ∃ ad cap, v = .slice ad L.length cap ∧ BigV w ad L := by
  have h' := h
  rcases h.2 with ⟨h1, h2⟩ | ⟨g, cap, cur, e, h3⟩
  · have e : L = [] := List.length_eq_zero_iff.1 h2
    subst e
    exact ⟨none, 0, h1, hd, ht, fun i hi => absurd hi (Nat.not_lt_zero i)⟩
  · subst e
    exact ⟨_, cap, rfl, hd, ht, fun i hi => ⟨g, rfl, (own_cap h').2.2.2, own_cell h' i hi⟩⟩
theorem bigOfV (n : Int) (w : World) (h0 : 0 ≤ n) (h1 : n ≤ 9223372036854775807) :
    Calls Tryd.prog 69 #[.int .i64 n] w fun e w' => ∃ ad cap L, e = .returned (.slice ad L.length cap) ∧ BigV w' ad L ∧ val L = n ∧ L.length ≤ 4 ∧ Below w.heap.size w w' := by
  refine (bigOf_any n w h0 h1).mono ?_
  rintro e w' ⟨v, rfl, L, hown, hd, ht, hv, hl, _, hb⟩
  obtain ⟨ad, cap, rfl, hB⟩ := own_bigV hown hd ht
  exact ⟨ad, cap, L, rfl, hB, hv, hl, hb⟩
set_option maxHeartbeats 1000000 in
theorem bigMulV (adA adB : Option Addr) (ca cb : Nat) (A B : List Int) (w : World) (hlA : A.length ≤ 1000) (hlB : B.length ≤ 1000) (hA : BigV w adA A) (hB : BigV w adB B) :
    Calls Tryd.prog 68 #[.slice adA A.length ca, .slice adB B.length cb] w fun e w' => ∃ ad cap L, e = .returned (.slice ad L.length cap) ∧ BigV w' ad L ∧ val L = val A * val B ∧ L.length ≤ A.length + B.length ∧ Below w.heap.size w w' := by
  obtain ⟨i0, hi, hz0, hz1, hz2⟩ := info_parts info3
  have HA := hide hA.at_
  have HB := hide hB.at_
  have hdA' := hide hA.dg
  have hdB' := hide hB.dg
  clear hA hB
  go_enter Tryd.func68, Tryd.ntmps68
  go_wp2_with (first
    | (at_make; refine wpList_make_full _ rfl (.tmp 13) (.tmp 13) 128 rfl w.heap.size 3 i0 (.int .i64 0) 1 Tryd.underlying128 hi hz0 hz1 .i64 .i64 _ _ (A.length + B.length) rfl rfl (by go_num) (by go_num) (by rw [hz2]; omega) (by unfold maxLen; omega) (Nat.le_refl _) ?_))
  intro w1 hown hgrow
  have hl : (List.replicate (A.length + B.length) (0 : Int)).length = A.length + B.length := by simp
  have hown1 : w1.ownsRow w.heap.size 3 1 (.slice (some ⟨w.heap.size, 0, none⟩) (A.length + B.length) (A.length + B.length)) (A.length + B.length) ((List.replicate (A.length + B.length) (0 : Int)).map (Value.int .i64)) := by
    have e : (madeCells #[Value.int .i64 0] (A.length + B.length)).toList = (List.replicate (A.length + B.length) (0 : Int)).map (Value.int .i64) := by
      rw [List.map_replicate]; exact toList_madeCells_one _ _
    rw [← e]; exact hown
  have hb1 : Below w.heap.size w w1 := (Below.refl _ _).grown hgrow (Nat.le_refl _) (fun k e => by cases e)
  have hO := MulOut.start A B
  generalize List.replicate (A.length + B.length) (0 : Int) = O0 at hown1 hO
  clear hown hgrow hl
  go_wp2
  go_loopw [6, 7, 8] (fun x _ _ wr => ∃ (i : Nat) (O : List Int), i ≤ A.length ∧ x = .int .i64 i ∧ MulOut A B O i ∧ wr.ownsRow w.heap.size 3 1 (.slice (some ⟨w.heap.size, 0, none⟩) (A.length + B.length) (A.length + B.length)) (A.length + B.length) (O.map (Value.int .i64)) ∧ Below w.heap.size w wr)
    (fun x _ _ _ => A.length - (intOf x).toNat)
  case atStart => exact ⟨0, O0, Nat.zero_le _, rfl, hO, hown1, hb1⟩
  case round =>
    obtain ⟨i, O, hiA, rfl, hM, hown, hb⟩ := hrel
    by_cases hlt : i < A.length
    · have hin := hM.enter
      clear hM hown1 hO hb1
      go_wp2
      go_loopw [7, 8] (fun c k wr' => ∃ (kk : Nat) (cc : Int) (O : List Int), kk ≤ B.length ∧ k = .int .i64 kk ∧ c = .int .i64 cc ∧ MulIn A B O i kk cc ∧ wr'.ownsRow w.heap.size 3 1 (.slice (some ⟨w.heap.size, 0, none⟩) (A.length + B.length) (A.length + B.length)) (A.length + B.length) (O.map (Value.int .i64)) ∧ Below w.heap.size w wr')
        (fun _ k _ => B.length - (intOf k).toNat)
      case atStart => exact ⟨0, 0, O, Nat.zero_le _, rfl, rfl, hin, hown, hb⟩
      case round =>
        obtain ⟨k, c, O', hkB, rfl, rfl, hI, hown', hb'⟩ := hrel
        by_cases hk : k < B.length
        · obtain ⟨ga, rfl, zA, cA⟩ := unhide HA i hlt
          obtain ⟨gb, rfl, zB, cB⟩ := unhide HB k hk
          have hcA : wr.cell? ⟨ga, i, none⟩ = some (.int .i64 (A.getD i 0)) := by rw [hb'.cell zA]; exact cA
          have hcB : wr.cell? ⟨gb, k, none⟩ = some (.int .i64 (B.getD k 0)) := by rw [hb'.cell zB]; exact cB
          clear cA cB
          have hlO : O'.length = A.length + B.length := hI.len
          have hown2 : wr.ownsRow w.heap.size 3 1 (.slice (some ⟨w.heap.size, 0, none⟩) O'.length (A.length + B.length)) O'.length (O'.map (Value.int .i64)) := by rw [hlO]; exact hown'
          have hcO := own_cell hown2 (i + k) (by omega)
          have hfO := hown'.frozenAt (i + k)
          have bd := hI.bound (unhide hdA') (unhide hdB')
          have ba := digs_getD (unhide hdA') i
          have bb := digs_getD (unhide hdB') k
          have bo := digs_getD hI.digs (i + k)
          have c0 := hI.c0
          have c1 := hI.c1
          have ST := hide (fun t ht => hI.step (unhide hdA') (unhide hdB') hlt hk t ht)
          have HO := hide hown'
          generalize A.getD i 0 = a at hcA bd ba ST
          generalize B.getD k 0 = b at hcB bd bb ST
          generalize O'.getD (i + k) 0 = o at hcO bd bo ST
          obtain ⟨bd1, bd2, bd3, bd4⟩ := bd
          obtain ⟨ba1, ba2⟩ := ba
          obtain ⟨bb1, bb2⟩ := bb
          obtain ⟨bo1, bo2⟩ := bo
          clear hI hown' hown2 hlO
          go_wp2
          go_quiet (fail)
          go_wp2
          have hst := World.ownsRow.stored (w := wr.drewN nq) (unhide HO) (i + k) (.int .i64 ((c + o + a * b) % 1000000))
          rw [← List.map_set] at hst
          exact ⟨⟨k + 1, _, O'.set (i + k) ((c + o + a * b) % 1000000), by omega, by go_num, rfl, unhide ST _ rfl, hst.1, (below_drewN hb' nq).setCell (Nat.le_refl _) _⟩, by simp [intOf]; omega⟩
        · obtain rfl : k = B.length := by omega
          have hlO : O'.length = A.length + B.length := hI.len
          have hown2 : wr.ownsRow w.heap.size 3 1 (.slice (some ⟨w.heap.size, 0, none⟩) O'.length (A.length + B.length)) O'.length (O'.map (Value.int .i64)) := by rw [hlO]; exact hown'
          have hcO := own_cell hown2 (i + B.length) (by omega)
          have hfO := hown'.frozenAt (i + B.length)
          have c0 := hI.c0
          have c1 := hI.c1
          have LV := hide (hI.leave hlt)
          have HO := hide hown'
          clear hI hown' hown2 hlO
          go_wp2
          have hst := World.ownsRow.stored (unhide HO) (i + B.length) (.int .i64 c)
          rw [← List.map_set] at hst
          exact ⟨⟨i + 1, O'.set (i + B.length) c, by omega, by go_num, unhide LV, hst.1, hb'.setCell (Nat.le_refl _) _⟩, by simp [intOf]; omega⟩
    · obtain rfl : i = A.length := by omega
      have hlO : O.length = A.length + B.length := hM.len
      go_wp2_with (go_at_call 93; refine (trimmed_n w.heap.size w.heap.size (A.length + B.length) (A.length + B.length) O _ hlO (by omega) hown).mono ?_; rintro e w' ⟨m, hm, rfl, hz, ht, rfl⟩)
      go_ret
      have el : (O.take m).length = m := by simp [hm]
      have h2 := own_take (L := O) (cap := A.length + B.length) (by rw [hlO]; exact hown) m hm
      refine ⟨some ⟨w.heap.size, 0, none⟩, A.length + B.length, O.take m, by rw [el]; rfl, ⟨digs_take hM.digs m, top_take hm ht, fun j hj => ⟨w.heap.size, rfl, (own_cap hown).2.2.2, own_cell h2 j hj⟩⟩, ?_, by omega, hb⟩
      rw [val_trim O m hz, hM.done]
set_option maxHeartbeats 400000 in
theorem bigCmpV (adA adB : Option Addr) (ca cb : Nat) (A B : List Int) (w : World) (hlA : A.length ≤ 1000000) (hA : BigV w adA A) (hB : BigV w adB B) :
    Calls Tryd.prog 70 #[.slice adA A.length ca, .slice adB B.length cb] w fun e w' => e = .returned (.int .i64 (cmp3 (val A) (val B))) ∧ Below w.heap.size w w' := by
  have HL1 := hide (fun h => cmp3_lt (val_lt_len hA.dg hB.dg hB.tp h))
  have HL2 := hide (fun h => cmp3_gt (val_lt_len hB.dg hA.dg hA.tp h))
  have HD1 := hide (fun (hl : A.length = B.length) i (hi : i < A.length) h hd => cmp3_lt (val_lt_digit hA.dg hB.dg hl hi h hd))
  have HD2 := hide (fun (hl : A.length = B.length) i (hi : i < B.length) (h : ∀ j, i + 1 ≤ j → A.getD j 0 = B.getD j 0) hd => cmp3_gt (val_lt_digit hB.dg hA.dg hl.symm hi (fun j hj => (h j hj).symm) hd))
  have HD0 := hide (fun (hl : A.length = B.length) h => cmp3_eq (val_same hl h))
  have HA := hide hA.at_
  have HB := hide hB.at_
  clear hA hB
  generalize cmp3 (val A) (val B) = R at *
  by_cases h1 : A.length < B.length
  · obtain rfl := unhide HL1 h1
    go_enter Tryd.func70, Tryd.ntmps70
    go_wp2
    go_ret
    exact ⟨rfl, Below.refl _ _⟩
  by_cases h2 : B.length < A.length
  · obtain rfl := unhide HL2 h2
    go_enter Tryd.func70, Tryd.ntmps70
    go_wp2
    go_ret
    exact ⟨rfl, Below.refl _ _⟩
  have hl : A.length = B.length := by omega
  have HL := hide hl
  have hbe : ((A.length : Int) != (B.length : Int)) = false := by simp [hl]
  clear HL1 HL2 hl
  go_enter Tryd.func70, Tryd.ntmps70
  go_wp2
  go_loopw [5] (fun x wr => ∃ i : Nat, i ≤ A.length ∧ x = .int .i64 ((i : Int) - 1) ∧ Hid (∀ j, i ≤ j → A.getD j 0 = B.getD j 0) ∧ Below w.heap.size w wr) (fun x _ => (intOf x + 1).toNat)
  case atStart =>
    refine ⟨A.length, Nat.le_refl _, rfl, hide (fun j hj => ?_), Below.refl _ _⟩
    have := unhide HL
    rw [List.getD_eq_getElem?_getD, List.getD_eq_getElem?_getD, List.getElem?_eq_none (by omega), List.getElem?_eq_none (by omega)]
  case round =>
    obtain ⟨i, hi, rfl, HS, hb⟩ := hrel
    cases i with
    | zero =>
      obtain rfl := unhide HD0 (unhide HL) (fun j => unhide HS j (Nat.zero_le _))
      go_wp2
      go_ret
      exact ⟨rfl, hb⟩
    | succ k =>
      have hkB : k < B.length := by have := unhide HL; omega
      obtain ⟨ga, rfl, zA, cA⟩ := unhide HA k (by omega)
      obtain ⟨gb, rfl, zB, cB⟩ := unhide HB k hkB
      have hcA : wr.cell? ⟨ga, k, none⟩ = some (.int .i64 (A.getD k 0)) := by rw [hb.cell zA]; exact cA
      have hcB : wr.cell? ⟨gb, k, none⟩ = some (.int .i64 (B.getD k 0)) := by rw [hb.cell zB]; exact cB
      have E1 := hide (unhide HD1 (unhide HL) k (by omega) (unhide HS))
      have E2 := hide (unhide HD2 (unhide HL) k hkB (unhide HS))
      have E0 : Hid (A.getD k 0 = B.getD k 0 → ∀ j, k ≤ j → A.getD j 0 = B.getD j 0) := fun e j hj => by
        by_cases h : j = k
        · rw [h]; exact e
        · exact unhide HS j (by omega)
      clear cA cB HS HD1 HD2 HD0 HA HB
      generalize A.getD k 0 = d at hcA E1 E2 E0
      generalize B.getD k 0 = c at hcB E1 E2 E0
      have hk1 : (k : Int) < A.length := by omega
      have hk2 : (k : Int) < B.length := by omega
      have ek : ((k + 1 : Nat) : Int) - 1 = (k : Int) := by omega
      rw [ek]
      clear ek
      by_cases q1 : d < c
      · obtain rfl := unhide E1 q1
        have b1 : decide (d < c) = true := decide_eq_true q1
        go_wp2
        go_quiet (fail)
        go_wp2
        go_ret
        exact ⟨rfl, below_drewN hb _⟩
      have b1 : decide (d < c) = false := decide_eq_false q1
      by_cases q2 : c < d
      · obtain rfl := unhide E2 q2
        have b2 : decide (c < d) = true := decide_eq_true q2
        go_wp2
        go_quiet (fail)
        go_wp2
        go_quiet (fail)
        go_wp2
        go_ret
        exact ⟨rfl, below_drewN (below_drewN hb _) _⟩
      have b2 : decide (c < d) = false := decide_eq_false q2
      have E3 := hide (unhide E0 (by omega))
      go_wp2
      go_quiet (fail)
      go_wp2
      go_quiet (fail)
      go_wp2
      exact ⟨⟨k, by omega, rfl, E3, below_drewN hb _⟩, by simp [intOf]⟩
end Go.Proofs.YtkdmeclbnnjdgalDoor
