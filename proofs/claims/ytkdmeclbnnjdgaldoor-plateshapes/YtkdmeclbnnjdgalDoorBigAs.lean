/-
  meridianref1's numbers of any size: BigAdd, BigSub, by contracts.
-/
import Derived.Test.YtkdmeclbnnjdgalDoorBigV
import Derived.Test.YtkdmeclbnnjdgalDoorBigAsP
namespace Go.Proofs.YtkdmeclbnnjdgalDoor
open Go Go.RowKit

theorem trimmedV {base : Nat} {v : Value} {L : List Int} {w : World} (hlen : L.length ≤ 1000000) (hown : w.ownsRow base 3 1 v L.length (L.map (Value.int .i64))) (hd : Digs L) :
    Calls Tryd.prog 93 #[v] w fun e w' => ∃ ad cap M, e = .returned (.slice ad M.length cap) ∧ BigV w' ad M ∧ val M = val L ∧ M.length ≤ L.length ∧ w' = w := by
  have h' := hown
  rcases hown.2 with ⟨h1, h2⟩ | ⟨g, cap, cur, e, _⟩
  · obtain rfl : L = [] := List.length_eq_zero_iff.1 h2
    subst h1
    clear hown h' h2 hlen
    go_enter Tryd.func93, Tryd.ntmps93
    go_wp2
    go_loop [3] (fun x => x = .int .i64 0) (fun _ => 0)
    case atStart => rfl
    case round =>
      subst hrel
      go_wp2
      go_ret
      refine ⟨none, 0, [], rfl, ⟨hd, (fun k hk => by cases hk), fun i hi => absurd hi (Nat.not_lt_zero i)⟩, ?_⟩
      simp
  · subst e
    refine (trimmed_any base g cap L w hlen h').mono ?_
    rintro e w' ⟨m, hm, rfl, hz, ht, rfl⟩
    have el : (L.take m).length = m := by simp [hm]
    have h2 := own_take h' m hm
    refine ⟨some ⟨g, 0, none⟩, cap, L.take m, by rw [el], ⟨digs_take hd m, top_take hm ht, fun j hj => ⟨g, rfl, (own_cap h').2.2.2, own_cell h2 j hj⟩⟩, val_trim L m hz, by omega, rfl⟩
set_option maxRecDepth 100000 in
set_option maxHeartbeats 3200000 in
theorem bigSubV (adA adB : Option Addr) (ca cb : Nat) (A B : List Int) (w : World) (hlA : A.length ≤ 1000) (_hlB : B.length ≤ 1000) (hA : BigV w adA A) (hB : BigV w adB B) (hle : val B ≤ val A) :
    Calls Tryd.prog 71 #[.slice adA A.length ca, .slice adB B.length cb] w fun e w' => ∃ ad cap L, e = .returned (.slice ad L.length cap) ∧ BigV w' ad L ∧ val L = val A - val B ∧ L.length ≤ A.length ∧ Below w.heap.size w w' := by
  obtain ⟨i0, hi, hz0, hz1, hz2⟩ := info_parts info3
  have HA := hide hA.at_
  have HB := hide hB.at_
  have hdA := hide hA.dg
  have hdB := hide hB.dg
  have HS := hide (SubI.start A B)
  have HD := hide (fun O b (h : SubI A B O A.length b) => h.done hA.dg hB.dg hB.tp hle)
  have HNx0 := hide (fun O i b d (h : SubI A B O i b) (hd : d = A.getD i 0 - b - B.getD i 0) => h.next hA.dg hB.dg hd)
  clear hA hB hle
  obtain ⟨nA, hnA⟩ : ∃ n, A.length = n := ⟨_, rfl⟩
  obtain ⟨nB, hnB⟩ : ∃ n, B.length = n := ⟨_, rfl⟩
  rw [hnA] at hlA HA HD ⊢
  rw [hnB] at HB ⊢
  have HnA := hide hnA
  have HnB := hide hnB
  go_enter Tryd.func71, Tryd.ntmps71
  go_wp2
  go_loopw [5, 6, 7] (fun v cv iv wl => ∃ (i : Nat) (c : Int) (O : List Int), i ≤ nA ∧ iv = .int .i64 (i : Nat) ∧ cv = .int .i64 c ∧ SubI A B O i c ∧ wl.ownsRow w.heap.size 3 1 v i (O.map (Value.int .i64)) ∧ Below w.heap.size w wl) (fun _ _ iv _ => nA + 1 - (intOf iv).toNat)
  case atStart => exact ⟨0, 0, [], by omega, rfl, rfl, unhide HS, World.ownsRow_nil _ _ _ _, Below.refl _ _⟩
  case round =>
    obtain ⟨i, c, O, hiN, rfl, rfl, hI, hown, hb⟩ := hrel
    have c0 := hI.b0
    have c1 := hI.b1
    have hsz := hb.size
    have hlO := hI.len
    have wk : IntKind.i64.wrap ((i : Int) + 1) = ((i + 1 : Nat) : Int) := by rw [show (i : Int) + 1 = ((i + 1 : Nat) : Int) by omega]; exact iwrap (by omega) (by omega)
    by_cases qa : i < nA
    case neg =>
      obtain rfl : i = nA := by omega
      have ta : decide ((i : Int) < (i : Int)) = false := decide_eq_false (by omega)
      have tan : decide (i < i) = false := decide_eq_false qa
      have hv := unhide HD O c hI
      have hown2 : wr.ownsRow w.heap.size 3 1 u5 O.length (O.map (Value.int .i64)) := by rw [hlO]; exact hown
      have htr := trimmedV (by omega) hown2 hI.digs
      have HV := hide hv
      have HbB := hide hb
      clear hI hown hown2 hv HD HNx0 HS hb
      go_wp2_with fail
      refine htr.mono ?_
      rintro e w1 ⟨ad, cap, M, rfl, hM, hvM, hlM, rfl⟩
      have HM := hide hM
      have HvM := hide hvM
      clear htr hM hvM
      go_wp2
      go_ret
      exact ⟨ad, cap, M, rfl, unhide HM, (unhide HvM).trans (unhide HV), by omega, unhide HbB⟩
    case pos =>
      obtain ⟨d, hd0⟩ : ∃ d, d = A.getD i 0 - c - B.getD i 0 := ⟨_, rfl⟩
      have HNx := hide (unhide HNx0 O i c d hI hd0)
      have ht := hd0.symm
      clear hI hd0 HD HNx0 HS
      by_cases qd : d < 0
      · by_cases qb : i < nB
        · have ta : decide ((i : Int) < (nA : Int)) = true := decide_eq_true (by omega)
          have tan : decide (i < nA) = true := decide_eq_true qa
          have tb : decide ((i : Int) < (nB : Int)) = true := decide_eq_true (by omega)
          have tbn : decide (i < nB) = true := decide_eq_true qb
          obtain ⟨ga, rfl, zA, cA⟩ := unhide HA i qa
          have hcA : wr.cell? ⟨ga, i, none⟩ = some (.int .i64 (A.getD i 0)) := by rw [hb.cell zA]; exact cA
          clear cA zA
          obtain ⟨gb, rfl, zB, cB⟩ := unhide HB i qb
          have hcB : wr.cell? ⟨gb, i, none⟩ = some (.int .i64 (B.getD i 0)) := by rw [hb.cell zB]; exact cB
          clear cB zB
          have bda := digs_getD (unhide hdA) i
          have bdb := digs_getD (unhide hdB) i
          generalize A.getD i 0 = a at *
          generalize B.getD i 0 = b at *
          have e1 : IntKind.i64.wrap (a - c) = a - c := iwrap (by omega) (by omega)
          have e2 : IntKind.i64.wrap (a - c - b) = d := by rw [ht]; exact iwrap (by omega) (by omega)
          have td : decide (d < 0) = true := decide_eq_true qd
          have e3 : IntKind.i64.wrap (d + 1000000) = d + 1000000 := iwrap (by omega) (by omega)
          rw [if_pos qd, if_pos qd] at HNx
          have r0 : 0 ≤ d + 1000000 := by omega
          clear ht bda bdb
          go_wp2_with (first
            | (at_builtin; refine wpList_append_own _ rfl _ _ 128 rfl w.heap.size 3 i0 (.int .i64 0) 1 8 Tryd.underlying128 hi hz0 hz1 hz2 rfl (by decide) _ i _ rfl (hown.alloc _) ⟨wr.heap.size, 0, none⟩ 1 1 [.int .i64 (d + 1000000)] rfl rfl ?c1 ?c2 ?c3 ?c4 ?c5 ?_))
          case c1 => exact cell_one_new _ _ _
          case c2 => intro u hu; simp at hu; subst hu; rfl
          case c3 => unfold maxLen; omega
          case c4 => omega
          case c5 => simp; omega
          intro v' w1 hown' hgrow _
          have hB : Below w.heap.size w w1 := (hb.alloc hsz _).grown hgrow (by simp; omega) (fun k e => (hown.lt k e).1)
          have hO : w1.ownsRow w.heap.size 3 1 v' (i + 1) ((O ++ [(d + 1000000)]).map (Value.int .i64)) := by rw [List.map_append]; exact hown'
          clear hgrow hown hown'
          go_wp2
          exact ⟨⟨i + 1, 1, O ++ [(d + 1000000)], by omega, by first | rfl | go_num, by first | rfl | go_num, unhide HNx, hO, hB⟩, by simp [intOf]; omega⟩
        · have ta : decide ((i : Int) < (nA : Int)) = true := decide_eq_true (by omega)
          have tan : decide (i < nA) = true := decide_eq_true qa
          have tb : decide ((i : Int) < (nB : Int)) = false := decide_eq_false (by omega)
          have tbn : decide (i < nB) = false := decide_eq_false qb
          obtain ⟨ga, rfl, zA, cA⟩ := unhide HA i qa
          have hcA : wr.cell? ⟨ga, i, none⟩ = some (.int .i64 (A.getD i 0)) := by rw [hb.cell zA]; exact cA
          clear cA zA
          have b0 : B.getD i 0 = 0 := by rw [List.getD_eq_getElem?_getD, List.getElem?_eq_none (by omega)]; rfl
          have bda := digs_getD (unhide hdA) i
          have bdb := digs_getD (unhide hdB) i
          rw [b0] at ht bdb
          generalize A.getD i 0 = a at *
          have e1 : IntKind.i64.wrap (a - c) = d := by rw [show a - c = d by omega]; exact iwrap (by omega) (by omega)
          have td : decide (d < 0) = true := decide_eq_true qd
          have e3 : IntKind.i64.wrap (d + 1000000) = d + 1000000 := iwrap (by omega) (by omega)
          rw [if_pos qd, if_pos qd] at HNx
          have r0 : 0 ≤ d + 1000000 := by omega
          clear ht bda bdb
          go_wp2_with (first
            | (at_builtin; refine wpList_append_own _ rfl _ _ 128 rfl w.heap.size 3 i0 (.int .i64 0) 1 8 Tryd.underlying128 hi hz0 hz1 hz2 rfl (by decide) _ i _ rfl (hown.alloc _) ⟨wr.heap.size, 0, none⟩ 1 1 [.int .i64 (d + 1000000)] rfl rfl ?c1 ?c2 ?c3 ?c4 ?c5 ?_))
          case c1 => exact cell_one_new _ _ _
          case c2 => intro u hu; simp at hu; subst hu; rfl
          case c3 => unfold maxLen; omega
          case c4 => omega
          case c5 => simp; omega
          intro v' w1 hown' hgrow _
          have hB : Below w.heap.size w w1 := (hb.alloc hsz _).grown hgrow (by simp; omega) (fun k e => (hown.lt k e).1)
          have hO : w1.ownsRow w.heap.size 3 1 v' (i + 1) ((O ++ [(d + 1000000)]).map (Value.int .i64)) := by rw [List.map_append]; exact hown'
          clear hgrow hown hown'
          go_wp2
          exact ⟨⟨i + 1, 1, O ++ [(d + 1000000)], by omega, by first | rfl | go_num, by first | rfl | go_num, unhide HNx, hO, hB⟩, by simp [intOf]; omega⟩
      · by_cases qb : i < nB
        · have ta : decide ((i : Int) < (nA : Int)) = true := decide_eq_true (by omega)
          have tan : decide (i < nA) = true := decide_eq_true qa
          have tb : decide ((i : Int) < (nB : Int)) = true := decide_eq_true (by omega)
          have tbn : decide (i < nB) = true := decide_eq_true qb
          obtain ⟨ga, rfl, zA, cA⟩ := unhide HA i qa
          have hcA : wr.cell? ⟨ga, i, none⟩ = some (.int .i64 (A.getD i 0)) := by rw [hb.cell zA]; exact cA
          clear cA zA
          obtain ⟨gb, rfl, zB, cB⟩ := unhide HB i qb
          have hcB : wr.cell? ⟨gb, i, none⟩ = some (.int .i64 (B.getD i 0)) := by rw [hb.cell zB]; exact cB
          clear cB zB
          have bda := digs_getD (unhide hdA) i
          have bdb := digs_getD (unhide hdB) i
          generalize A.getD i 0 = a at *
          generalize B.getD i 0 = b at *
          have e1 : IntKind.i64.wrap (a - c) = a - c := iwrap (by omega) (by omega)
          have e2 : IntKind.i64.wrap (a - c - b) = d := by rw [ht]; exact iwrap (by omega) (by omega)
          have td : decide (d < 0) = false := decide_eq_false qd
          rw [if_neg qd, if_neg qd] at HNx
          have r0 : 0 ≤ d := by omega
          have r1 : d < 1000000 := by omega
          clear qd
          clear ht bda bdb
          go_wp2_with (first
            | (at_builtin; refine wpList_append_own _ rfl _ _ 128 rfl w.heap.size 3 i0 (.int .i64 0) 1 8 Tryd.underlying128 hi hz0 hz1 hz2 rfl (by decide) _ i _ rfl (hown.alloc _) ⟨wr.heap.size, 0, none⟩ 1 1 [.int .i64 d] rfl rfl ?c1 ?c2 ?c3 ?c4 ?c5 ?_))
          case c1 => exact cell_one_new _ _ _
          case c2 => intro u hu; simp at hu; subst hu; rfl
          case c3 => unfold maxLen; omega
          case c4 => omega
          case c5 => simp; omega
          intro v' w1 hown' hgrow _
          have hB : Below w.heap.size w w1 := (hb.alloc hsz _).grown hgrow (by simp; omega) (fun k e => (hown.lt k e).1)
          have hO : w1.ownsRow w.heap.size 3 1 v' (i + 1) ((O ++ [d]).map (Value.int .i64)) := by rw [List.map_append]; exact hown'
          clear hgrow hown hown'
          go_wp2
          exact ⟨⟨i + 1, 0, O ++ [d], by omega, by first | rfl | go_num, by first | rfl | go_num, unhide HNx, hO, hB⟩, by simp [intOf]; omega⟩
        · have ta : decide ((i : Int) < (nA : Int)) = true := decide_eq_true (by omega)
          have tan : decide (i < nA) = true := decide_eq_true qa
          have tb : decide ((i : Int) < (nB : Int)) = false := decide_eq_false (by omega)
          have tbn : decide (i < nB) = false := decide_eq_false qb
          obtain ⟨ga, rfl, zA, cA⟩ := unhide HA i qa
          have hcA : wr.cell? ⟨ga, i, none⟩ = some (.int .i64 (A.getD i 0)) := by rw [hb.cell zA]; exact cA
          clear cA zA
          have b0 : B.getD i 0 = 0 := by rw [List.getD_eq_getElem?_getD, List.getElem?_eq_none (by omega)]; rfl
          have bda := digs_getD (unhide hdA) i
          have bdb := digs_getD (unhide hdB) i
          rw [b0] at ht bdb
          generalize A.getD i 0 = a at *
          have e1 : IntKind.i64.wrap (a - c) = d := by rw [show a - c = d by omega]; exact iwrap (by omega) (by omega)
          have td : decide (d < 0) = false := decide_eq_false qd
          rw [if_neg qd, if_neg qd] at HNx
          have r0 : 0 ≤ d := by omega
          have r1 : d < 1000000 := by omega
          clear qd
          clear ht bda bdb
          go_wp2_with (first
            | (at_builtin; refine wpList_append_own _ rfl _ _ 128 rfl w.heap.size 3 i0 (.int .i64 0) 1 8 Tryd.underlying128 hi hz0 hz1 hz2 rfl (by decide) _ i _ rfl (hown.alloc _) ⟨wr.heap.size, 0, none⟩ 1 1 [.int .i64 d] rfl rfl ?c1 ?c2 ?c3 ?c4 ?c5 ?_))
          case c1 => exact cell_one_new _ _ _
          case c2 => intro u hu; simp at hu; subst hu; rfl
          case c3 => unfold maxLen; omega
          case c4 => omega
          case c5 => simp; omega
          intro v' w1 hown' hgrow _
          have hB : Below w.heap.size w w1 := (hb.alloc hsz _).grown hgrow (by simp; omega) (fun k e => (hown.lt k e).1)
          have hO : w1.ownsRow w.heap.size 3 1 v' (i + 1) ((O ++ [d]).map (Value.int .i64)) := by rw [List.map_append]; exact hown'
          clear hgrow hown hown'
          go_wp2
          exact ⟨⟨i + 1, 0, O ++ [d], by omega, by first | rfl | go_num, by first | rfl | go_num, unhide HNx, hO, hB⟩, by simp [intOf]; omega⟩
end Go.Proofs.YtkdmeclbnnjdgalDoor
