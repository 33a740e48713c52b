/-
  meridianref1.BigMul of a nought, BigCmp of two that are the same, Product: by their contracts.
-/
import Derived.Test.YtilihjjkndlihabDoorBigMul
namespace Go.Proofs.YtilihjjkndlihabDoor
open Go.RowKit

set_option maxHeartbeats 400000 in
theorem bigMul_nought (p : Option Addr) (gb cb : Nat) (B : List Int) (w : World) (hlB : B.length ≤ 1000) :
    Calls Tryd.prog 16 #[.slice p 0 0, .slice (some ⟨gb, 0, none⟩) B.length cb] w fun e w' => ∃ v : Value, e = .returned v ∧ ∃ (g cap : Nat) (L : List Int), v = .slice (some ⟨g, 0, none⟩) L.length cap ∧ w'.ownsRow w.heap.size 3 1 v L.length (L.map (Value.int .i64)) ∧ Digs L ∧ Top L ∧ val L = 0 ∧ L.length ≤ 2000 ∧ Below w.heap.size w w' := by
  obtain ⟨i0, hi, hz0, hz1, hz2⟩ := info_parts info3
  go_enter Tryd.func16, Tryd.ntmps16
  go_wp2_with (first
    | (at_make; refine wpList_make_full _ rfl (.tmp 13) (.tmp 13) 33 rfl w.heap.size 3 i0 (.int .i64 0) 1 Tryd.underlying33 hi hz0 hz1 .i64 .i64 _ _ B.length rfl rfl (by go_num) (by go_num) (by rw [hz2]; omega) (by unfold maxLen; omega) (Nat.le_refl _) ?_))
  intro w1 hown hgrow
  have hown1 : w1.ownsRow w.heap.size 3 1 (.slice (some ⟨w.heap.size, 0, none⟩) B.length B.length) B.length ((List.replicate B.length (0 : Int)).map (Value.int .i64)) := by
    have e : (madeCells #[Value.int .i64 0] B.length).toList = (List.replicate B.length (0 : Int)).map (Value.int .i64) := by
      rw [List.map_replicate]; exact toList_madeCells_one _ _
    rw [← e]; exact hown
  have hb1 : Below w.heap.size w w1 := (Below.refl _ _).grown hgrow (Nat.le_refl _) (fun k e => by cases e)
  have hO := MulOut.start [] B
  have hlO : (List.replicate B.length (0 : Int)).length = B.length := by simp
  simp only [List.length_nil, Nat.zero_add] at hO
  generalize List.replicate B.length (0 : Int) = O at hown1 hO hlO
  clear hown hgrow
  go_wp2
  refine wp_loop_rounds 1 ?_
  rw [rounds_succ]
  go_wp2_with (go_at_call 24; refine (trimmed_n w.heap.size w.heap.size B.length B.length O _ hlO (by omega) hown1).mono ?_; rintro e w' ⟨m, hm, rfl, hz, ht, rfl⟩)
  go_ret
  refine ⟨_, rfl, w.heap.size, B.length, O.take m, ?_, ?_, digs_take hO.digs m, top_take hm ht, ?_, ?_, hb1⟩
  · simp [hm]
  · have h2 := own_take (L := O) (cap := B.length) (by rw [hlO]; exact hown1) m hm
    have el : (O.take m).length = m := by simp [hm]
    rw [el] at h2 ⊢
    exact h2
  · rw [val_trim O m hz, hO.sum]; simp [val]
  · simp; omega

set_option maxHeartbeats 400000 in
theorem bigCmp_same (ga ca gb cb : Nat) (L : List Int) (w : World) (hl : L.length ≤ 1000000)
    (cA : ∀ i, i < L.length → w.cell? ⟨ga, i, none⟩ = some (.int .i64 (L.getD i 0))) (cB : ∀ i, i < L.length → w.cell? ⟨gb, i, none⟩ = some (.int .i64 (L.getD i 0)))
    (zA : ga < w.heap.size) (zB : gb < w.heap.size) :
    Calls Tryd.prog 12 #[.slice (some ⟨ga, 0, none⟩) L.length ca, .slice (some ⟨gb, 0, none⟩) L.length cb] w fun e w' => e = .returned (.int .i64 0) ∧ Below w.heap.size w w' := by
  have HA := hide cA
  have HB := hide cB
  clear cA cB
  go_enter Tryd.func12, Tryd.ntmps12
  go_wp2
  go_loopw [5] (fun x wr => ∃ i : Nat, i ≤ L.length ∧ x = .int .i64 ((i : Int) - 1) ∧ Below w.heap.size w wr) (fun x _ => (intOf x + 1).toNat)
  case atStart => exact ⟨L.length, Nat.le_refl _, rfl, Below.refl _ _⟩
  case round =>
    obtain ⟨i, hi, rfl, hb⟩ := hrel
    cases i with
    | zero =>
      go_wp2
      go_ret
      exact ⟨rfl, hb⟩
    | succ k =>
      have hcA : wr.cell? ⟨ga, k, none⟩ = some (.int .i64 (L.getD k 0)) := by rw [hb.cell zA]; exact unhide HA k (by omega)
      have hcB : wr.cell? ⟨gb, k, none⟩ = some (.int .i64 (L.getD k 0)) := by rw [hb.cell zB]; exact unhide HB k (by omega)
      generalize L.getD k 0 = d at hcA hcB
      have hk1 : (k : Int) < L.length := by omega
      have ek : ((k + 1 : Nat) : Int) - 1 = (k : Int) := by omega
      rw [ek]
      clear ek
      go_wp2
      go_quiet (fail)
      go_wp2
      go_quiet (fail)
      go_wp2
      exact ⟨⟨k, by omega, rfl, below_drewN hb _⟩, by simp [intOf]⟩

theorem bigOf_pos (n : Int) (w : World) (h0 : 0 < n) (h1 : n ≤ 9223372036854775807) :
    Calls Tryd.prog 17 #[.int .i64 n] w fun e w' => ∃ (g cap : Nat) (L : List Int), e = .returned (.slice (some ⟨g, 0, none⟩) L.length cap) ∧ w'.ownsRow w.heap.size 3 1 (.slice (some ⟨g, 0, none⟩) L.length cap) L.length (L.map (Value.int .i64)) ∧ Digs L ∧ Top L ∧ val L = n ∧ L.length ≤ 4 ∧ Below w.heap.size w w' := by
  refine (bigOf_any n w (by omega) h1).mono ?_
  rintro e w' ⟨v, rfl, L, hown, hd, ht, hv, hl, hnil, hb⟩
  rcases hown.2 with ⟨_, h2⟩ | ⟨g, cap, cur, e, h3⟩
  · have : L = [] := List.length_eq_zero_iff.1 h2
    rw [this] at hv
    simp [val] at hv; omega
  · subst e
    exact ⟨g, cap, L, rfl, hown, hd, ht, hv, hl, hb⟩
theorem bigOf_nought (w : World) :
    Calls Tryd.prog 17 #[.int .i64 0] w fun e w' => e = .returned (.slice none 0 0) ∧ Below w.heap.size w w' := by
  refine (bigOf_any 0 w (by omega) (by omega)).mono ?_
  rintro e w' ⟨v, rfl, L, hown, hd, ht, hv, hl, hnil, hb⟩
  have : L = [] := by
    cases L with
    | nil => rfl
    | cons d r => have := val_pos _ hd ht (by simp); omega
  exact ⟨by rw [hnil this], hb⟩

def sgn1 (a : Int) : Int := if a < 0 then -1 else 1
def abs1 (a : Int) : Int := if a < 0 then -a else a

theorem own_below {w w' : World} {base B g cap n : Nat} {xs : List Value} (h : w.ownsRow base 3 1 (.slice (some ⟨g, 0, none⟩) n cap) n xs) (hb : Below B w w') (hB : g < B) : w'.ownsRow base 3 1 (.slice (some ⟨g, 0, none⟩) n cap) n xs := by
  rcases h.2 with ⟨h1, _⟩ | ⟨g', cap', cur, e, h2, h3, h4⟩
  · cases h1
  · cases e
    exact ⟨h.1, .inr ⟨g, cap, cur, rfl, h2, (hb.block g hB).trans h3, h4⟩⟩

theorem own_base {w : World} {base base' g cap n : Nat} {xs : List Value} (h : w.ownsRow base 3 1 (.slice (some ⟨g, 0, none⟩) n cap) n xs) (hB : base' ≤ base) : w.ownsRow base' 3 1 (.slice (some ⟨g, 0, none⟩) n cap) n xs := by
  rcases h.2 with ⟨h1, _⟩ | ⟨g', cap', cur, e, h2, h3⟩
  · cases h1
  · cases e
    exact ⟨h.1, .inr ⟨g, cap, cur, rfl, by omega, h3⟩⟩

/-- What a call that answers a number of any size leaves. -/
def Answers (w w' : World) (v : Value) (n : Int) : Prop :=
  ∃ (g cap : Nat) (L : List Int), v = .slice (some ⟨g, 0, none⟩) L.length cap ∧ w'.ownsRow w.heap.size 3 1 (.slice (some ⟨g, 0, none⟩) L.length cap) L.length (L.map (Value.int .i64)) ∧ Digs L ∧ Top L ∧ val L = n ∧ L.length ≤ 2000

set_option maxHeartbeats 400000 in
theorem product_any (a b : Int) (w : World) (h1 : -9223372036854775807 ≤ a) (h2 : a ≤ 9223372036854775807) (h3 : 0 < b) (h4 : b ≤ 9223372036854775807) :
    Calls Tryd.prog 11 #[.int .i64 a, .int .i64 b] w fun e w' => ∃ v, e = .returned (.tuple #[.int .i64 (sgn1 a), v]) ∧ Answers w w' v (abs1 a * b) ∧ Below w.heap.size w w' := by
  rcases Int.lt_trichotomy a 0 with hn | rfl | hp
  · have e1 : sgn1 a = -1 := by simp [sgn1, hn]
    have e2 : abs1 a = -a := by simp [abs1, hn]
    rw [e1, e2]
    clear e1 e2
    go_enter Tryd.func11, Tryd.ntmps11
    go_wp2_with fail
    refine (bigOf_pos _ _ (by omega) (by omega)).mono ?_
    rintro e w1 ⟨g1, c1, A, rfl, ho1, hd1, _, hv1, hl1, hb1⟩
    have HV1 := hide hv1
    clear hv1
    go_wp2_with fail
    refine (bigOf_pos _ _ (by omega) (by omega)).mono ?_
    rintro e w2 ⟨g2, c2, B, rfl, ho2, hd2, _, hv2, hl2, hb2⟩
    have HV2 := hide hv2
    clear hv2
    have q1 := (own_cap ho1).2.2
    have q2 := (own_cap ho2).2.2
    have ho1' := own_below ho1 hb2 q1.2
    have hz := hb2.size
    have hz1 := hb1.size
    go_wp2_with fail
    refine (bigMul_any g1 c1 g2 c2 A B _ (by omega) (by omega) hd1 hd2 (own_cell ho1') (own_cell ho2) (by omega) (by omega)).mono ?_
    rintro e w3 ⟨v, rfl, g3, c3, L, hv, ho3, hd3, ht3, hv3, hl3, hb3⟩
    have HV3 := hide hv3
    have HV := hide hv
    have HO := hide ho3
    have hz2 := hb2.size
    clear hv3 hv ho3 ho1 ho2 ho1' hd1 hd2
    go_wp2
    go_ret2
    refine ⟨v, rfl, ⟨g3, c3, L, unhide HV, ?_, hd3, ht3, by rw [unhide HV3, unhide HV1, unhide HV2], hl3⟩, (hb1.trans (hb2.mono hz1)).trans (hb3.mono (by omega))⟩
    have h := unhide HO
    rw [unhide HV] at h
    exact own_base h (by omega)
  · have e1 : sgn1 0 = 1 := by simp [sgn1]
    have e2 : abs1 0 * b = 0 := by simp [abs1]
    rw [e1, e2]
    clear e1 e2
    go_enter Tryd.func11, Tryd.ntmps11
    go_wp2_with fail
    refine (bigOf_nought _).mono ?_
    rintro e w1 ⟨rfl, hb1⟩
    go_wp2_with fail
    refine (bigOf_pos _ _ (by omega) (by omega)).mono ?_
    rintro e w2 ⟨g2, c2, B, rfl, ho2, hd2, _, hv2, hl2, hb2⟩
    clear hv2
    have hz := hb2.size
    have hz1 := hb1.size
    go_wp2_with fail
    refine (bigMul_nought _ g2 c2 B _ (by omega)).mono ?_
    rintro e w3 ⟨v, rfl, g3, c3, L, hv, ho3, hd3, ht3, hv3, hl3, hb3⟩
    have HV3 := hide hv3
    have HV := hide hv
    have HO := hide ho3
    clear hv3 hv ho3 ho2 hd2
    go_wp2
    go_ret2
    refine ⟨v, rfl, ⟨g3, c3, L, unhide HV, ?_, hd3, ht3, unhide HV3, hl3⟩, (hb1.trans (hb2.mono hz1)).trans (hb3.mono (by omega))⟩
    have h := unhide HO
    rw [unhide HV] at h
    exact own_base h (by omega)
  · have e1 : sgn1 a = 1 := by unfold sgn1; rw [if_neg (by omega)]
    have e2 : abs1 a = a := by unfold abs1; rw [if_neg (by omega)]
    rw [e1, e2]
    clear e1 e2
    go_enter Tryd.func11, Tryd.ntmps11
    go_wp2_with fail
    refine (bigOf_pos _ _ (by omega) (by omega)).mono ?_
    rintro e w1 ⟨g1, c1, A, rfl, ho1, hd1, _, hv1, hl1, hb1⟩
    have HV1 := hide hv1
    clear hv1
    go_wp2_with fail
    refine (bigOf_pos _ _ (by omega) (by omega)).mono ?_
    rintro e w2 ⟨g2, c2, B, rfl, ho2, hd2, _, hv2, hl2, hb2⟩
    have HV2 := hide hv2
    clear hv2
    have q1 := (own_cap ho1).2.2
    have q2 := (own_cap ho2).2.2
    have ho1' := own_below ho1 hb2 q1.2
    have hz := hb2.size
    have hz1 := hb1.size
    go_wp2_with fail
    refine (bigMul_any g1 c1 g2 c2 A B _ (by omega) (by omega) hd1 hd2 (own_cell ho1') (own_cell ho2) (by omega) (by omega)).mono ?_
    rintro e w3 ⟨v, rfl, g3, c3, L, hv, ho3, hd3, ht3, hv3, hl3, hb3⟩
    have HV3 := hide hv3
    have HV := hide hv
    have HO := hide ho3
    have hz2 := hb2.size
    clear hv3 hv ho3 ho1 ho2 ho1' hd1 hd2
    go_wp2
    go_ret2
    refine ⟨v, rfl, ⟨g3, c3, L, unhide HV, ?_, hd3, ht3, by rw [unhide HV3, unhide HV1, unhide HV2], hl3⟩, (hb1.trans (hb2.mono hz1)).trans (hb3.mono (by omega))⟩
    have h := unhide HO
    rw [unhide HV] at h
    exact own_base h (by omega)
end Go.Proofs.YtilihjjkndlihabDoor
