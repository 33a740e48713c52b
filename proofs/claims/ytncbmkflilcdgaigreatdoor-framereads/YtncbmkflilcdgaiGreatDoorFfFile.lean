/-
  The document's files: a picture and cards as bytes, by contract.
-/
import Derived.Test.YtncbmkflilcdgaiGreatDoorFfDec
import Derived.Test.YtncbmkflilcdgaiGreatDoorFfP2
import Derived.Test.YtncbmkflilcdgaiGreatDoorFrRef
namespace Go.Proofs.YtncbmkflilcdgaiGreatDoor
open Go Go.RowKit

def FilePost (p : Pic) (L : List Crd) (w : World) (e : Ending) (w' : World) : Prop := ∃ v, e = .returned (.tuple #[v, .int .i64 (fileE p L)]) ∧ (fileE p L = 0 → BOwn w' w.heap.size v (fileV p L)) ∧ (fileE p L ≠ 0 → v = .slice none 0 0) ∧ Below w.heap.size w w'
theorem three_bytes (w : World) (x y z : UInt8) : ∀ k u, ([byV x, byV y, byV z] : List Value)[k]? = some u → (w.alloc (.cells #[.int .u8 x.toNat, .int .u8 y.toNat, .int .u8 z.toNat] 5)).cell? ((⟨w.heap.size, 0, none⟩ : Addr).add k) = some u := by
  intro k u hu
  rcases k with _ | _ | _ | k
  · cases hu
    rw [add_pl2]
    exact (cells_at (alloc_last w _) 0 (by simp)).1
  · cases hu
    rw [add_pl2]
    exact (cells_at (alloc_last w _) 1 (by simp)).1
  · cases hu
    rw [add_pl2]
    exact (cells_at (alloc_last w _) 2 (by simp)).1
  · simp at hu
theorem row_in {H W y x : Nat} (hy : y < H) (hx : x < W) : y * W + x < W * H := by
  have : (y + 1) * W ≤ H * W := Nat.mul_le_mul_right _ hy
  rw [Nat.add_mul, Nat.one_mul] at this
  rw [Nat.mul_comm W H]
  omega
theorem pix_idx {H W y x : Nat} (hW : 1 ≤ W) (hy : y < H) (hx : x < W) : (H - 1 - ((H - (y + 1)) * W + x) / W) * W + ((H - (y + 1)) * W + x) % W = y * W + x := by
  have d : ((H - (y + 1)) * W + x) / W = H - (y + 1) := by
    rw [Nat.mul_comm, Nat.mul_add_div hW, Nat.div_eq_of_lt hx, Nat.add_zero]
  have m : ((H - (y + 1)) * W + x) % W = x := by
    rw [Nat.mul_comm, Nat.mul_add_mod, Nat.mod_eq_of_lt hx]
  rw [d, m, show H - 1 - (H - (y + 1)) = y by omega]
theorem rows_next {p : Pic} {L : List CrdS} {i : Nat} (hi : i < L.length) : rowsV (six p ++ (L.map CrdS.crd).take (i + 1)) = rowsV (six p ++ (L.map CrdS.crd).take i) ++ rowV (L.getD i crdS0).name.data.toList (L.getD i crdS0).value.data.toList := by
  unfold rowsV
  rw [List.take_add_one, List.getElem?_map, List.getElem?_eq_getElem hi, ← List.append_assoc, List.map_append, List.flatten_append, List.getD_eq_getElem?_getD, List.getElem?_eq_getElem hi]
  simp [CrdS.crd]
theorem picE_pos {p : Pic} (h : picE p ≠ 0) : 0 < picE p := by
  unfold picE at *
  repeat' split at h
  all_goals first | (exact absurd rfl h) | skip
  all_goals (repeat' split) <;> first | omega | skip
theorem cardsE_pos {L : List Crd} (h : cardsE L ≠ 0) : 0 < cardsE L := by
  unfold cardsE at *
  split
  · decide
  · rename_i q1
    rw [if_neg q1] at h
    split
    · decide
    · rename_i q2
      rw [if_neg q2] at h
      split
      · decide
      · rename_i q3
        rw [if_neg q3] at h
        exact absurd rfl h
set_option maxRecDepth 100000 in
set_option maxHeartbeats 3200000 in
theorem fileOf_any {w : World} {b o cap ccap : Nat} {ad adc : Option Addr} {p : Pic} {L : List CrdS} (h : PicAt w b o ad cap p) (hl : p.L.length * 8 ≤ 140737488355328) (hc : CCame w adc L) (hn : L.length ≤ 1000000) :
    Calls Tryz.prog 8 #[.pointer (some ⟨b, o, none⟩), .slice adc L.length ccap] w (FilePost p (L.map CrdS.crd) w) := by
  have hp := pictureError_any h hl
  have HP := hideR h
  have HC := hideR hc
  by_cases q0 : picE p = 0
  case' neg =>
    have HF : HeldR (∀ u, Below w.heap.size w u → FilePost p (L.map CrdS.crd) w (.returned (.tuple #[.slice none 0 0, .int .i64 (picE p)])) u) := by
      intro u hu
      have e : fileE p (L.map CrdS.crd) = picE p := by unfold fileE; rw [if_neg q0]
      exact ⟨_, by rw [e], fun k => absurd (by rw [← e]; exact k) q0, fun _ => rfl, hu⟩
    have t1 : (picE p == 0) = false := beq_eq_false_iff_ne.2 q0
    have t2 : decide (0 < picE p) = true := decide_eq_true (picE_pos q0)
    clear q0 h hc
    generalize picE p = E at *
    go_enter Tryz.func8, Tryz.ntmps8
    go_wp2_with fail
    refine hp.mono ?_
    rintro e w1 ⟨rfl, k1⟩
    have HK := hideR k1
    clear k1 hp
    go_wp2
    go_ret2
    exact unhideR HF _ (unhideR HK)
  have h0 := pic_ok q0
  rw [q0] at hp
  by_cases q1 : cardsE (L.map CrdS.crd) = 0
  case' neg =>
    have HF : HeldR (∀ u, Below w.heap.size w u → FilePost p (L.map CrdS.crd) w (.returned (.tuple #[.slice none 0 0, .int .i64 (cardsE (L.map CrdS.crd))])) u) := by
      intro u hu
      have e : fileE p (L.map CrdS.crd) = cardsE (L.map CrdS.crd) := by unfold fileE; rw [if_pos q0]
      exact ⟨_, by rw [e], fun k => absurd (by rw [← e]; exact k) q1, fun _ => rfl, hu⟩
    have t2 : decide (0 < cardsE (L.map CrdS.crd)) = true := decide_eq_true (cardsE_pos q1)
    have hce := fun (u : World) (k : Below w.heap.size w u) => cardsError_any (cap := ccap) (hc.below k) hn
    unfold CarPost at hce
    clear q0 q1 h hc h0
    generalize cardsE (L.map CrdS.crd) = E at *
    go_enter Tryz.func8, Tryz.ntmps8
    go_wp2_with fail
    refine hp.mono ?_
    rintro e w1 ⟨rfl, k1⟩
    have HK := hideR k1
    clear hp
    go_wp2_with fail
    refine (hce _ k1).mono ?_
    rintro e w2 ⟨rfl, k2⟩
    replace HK := hideR (below_go (unhideR HK) k2)
    clear k1 k2 hce
    go_wp2
    go_ret2
    exact unhideR HF _ (unhideR HK)
  have hL := cards_ok q1
  have hce := fun (u : World) (k : Below w.heap.size w u) => cardsError_any (cap := ccap) (hc.below k) hn
  unfold CarPost at hce
  rw [q1] at hce
  have HE : HeldR (fileE p (L.map CrdS.crd) = 0) := by unfold HeldR fileE; rw [if_pos q0, q1]
  have e1 : p.wide = ((p.wide.toNat : Nat) : Int) := (Int.toNat_of_nonneg (by have := h0.w1; omega)).symm
  have e2 : p.high = ((p.high.toNat : Nat) : Int) := (Int.toNat_of_nonneg (by have := h0.h1; omega)).symm
  have hdw := fun u : World => dec_any p.wide.toNat p.wide u e1 (by have := h0.w2; omega)
  have hdh := fun u : World => dec_any p.high.toNat p.high u e2 (by have := h0.h2; omega)
  have H0 := hideR h0
  have HL := hideR hL
  have E1 := hideR e1
  have E2 := hideR e2
  clear q0 q1 h hc h0 hL e1 e2
  go_enter Tryz.func8, Tryz.ntmps8
  go_wp2_with fail
  refine hp.mono ?_
  rintro e w1 ⟨rfl, k1⟩
  clear hp
  go_wp2_with fail
  refine (hce _ k1).mono ?_
  rintro e w2 ⟨rfl, k2⟩
  have HK := hideR (below_go k1 k2)
  clear k1 k2 hce
  have HB : HeldR (w.heap.size ≤ w2.heap.size) := (unhideR HK).size
  have HO : HeldR (BOwn w2 w.heap.size (.slice none 0 0) []) := World.ownsRow_nil _ _ _ _
  have hr := cardRow_any ⟨#[83, 73, 77, 80, 76, 69]⟩ ⟨#[84]⟩ (unhideR HB) (unhideR HO) (by decide) (by show 6 ≤ 8; decide) (by show 1 ≤ 70; decide)
  go_wp2_with fail
  refine hr.mono ?_
  rintro e w3 ⟨v3, rfl, hO, hB⟩
  replace HO := hideR hO
  replace HK := hideR ((unhideR HK).trans hB)
  replace HB : HeldR (w.heap.size ≤ w3.heap.size) := Nat.le_trans (unhideR HB) hB.size
  clear hO hB hr
  have hr := cardRow_any ⟨#[66, 73, 84, 80, 73, 88]⟩ ⟨#[49, 54]⟩ (unhideR HB) (unhideR HO) (by decide) (by show 6 ≤ 8; decide) (by show 2 ≤ 70; decide)
  go_wp2_with fail
  refine hr.mono ?_
  rintro e w4 ⟨v4, rfl, hO, hB⟩
  replace HO := hideR hO
  replace HK := hideR ((unhideR HK).trans hB)
  replace HB : HeldR (w.heap.size ≤ w4.heap.size) := Nat.le_trans (unhideR HB) hB.size
  clear hO hB hr
  have hr := cardRow_any ⟨#[78, 65, 88, 73, 83]⟩ ⟨#[50]⟩ (unhideR HB) (unhideR HO) (by decide) (by show 5 ≤ 8; decide) (by show 1 ≤ 70; decide)
  go_wp2_with fail
  refine hr.mono ?_
  rintro e w5 ⟨v5, rfl, hO, hB⟩
  replace HO := hideR hO
  replace HK := hideR ((unhideR HK).trans hB)
  replace HB : HeldR (w.heap.size ≤ w5.heap.size) := Nat.le_trans (unhideR HB) hB.size
  clear hO hB hr
  have cs : w5.cell? ⟨b, o, none⟩ = some (.int .i64 p.wide) := ((unhideR HP).below (unhideR HK)).c0
  go_wp2_with fail
  refine (hdw _).mono ?_
  rintro e w5' ⟨s5, rfl, HS5, hs5, hB⟩
  replace HO := hideR ((unhideR HO).below hB)
  replace HK := hideR (below_go (unhideR HK) (hB.mono (Nat.le_refl _)))
  replace HB : HeldR (w.heap.size ≤ w5'.heap.size) := Nat.le_trans (unhideR HB) hB.size
  clear hB cs
  have hr := cardRow_any ⟨#[78, 65, 88, 73, 83, 49]⟩ s5 (unhideR HB) (unhideR HO) (by decide) (by show 6 ≤ 8; decide) (by omega)
  go_wp2_with fail
  refine hr.mono ?_
  rintro e w6 ⟨v6, rfl, hO, hB⟩
  replace HO := hideR hO
  rw [show s5.data.toList = dec3 p.wide.toNat by rw [unhideR HS5]; rfl] at HO
  replace HK := hideR ((unhideR HK).trans hB)
  replace HB : HeldR (w.heap.size ≤ w6.heap.size) := Nat.le_trans (unhideR HB) hB.size
  clear hO hB hr HS5 hs5
  have hl3 : ([] ++ rowV [83, 73, 77, 80, 76, 69] [84] ++ rowV [66, 73, 84, 80, 73, 88] [49, 54] ++ rowV [78, 65, 88, 73, 83] [50] ++ rowV [78, 65, 88, 73, 83, 49] (dec3 p.wide.toNat)).length = 320 := by
    rw [List.length_append, row_length (by decide) (Nat.le_trans (dec3_len _) (by decide))]
    rfl
  have cs : w6.cell? ⟨b, o + 1, none⟩ = some (.int .i64 p.high) := ((unhideR HP).below (unhideR HK)).c1
  go_wp2_with fail
  refine (hdh _).mono ?_
  rintro e w6' ⟨s6, rfl, HS6, hs6, hB⟩
  replace HO := hideR ((unhideR HO).below hB)
  replace HK := hideR (below_go (unhideR HK) (hB.mono (Nat.le_refl _)))
  replace HB : HeldR (w.heap.size ≤ w6'.heap.size) := Nat.le_trans (unhideR HB) hB.size
  clear hB cs
  have hr := cardRow_any ⟨#[78, 65, 88, 73, 83, 50]⟩ s6 (unhideR HB) (unhideR HO) (by rw [show _ = 320 from hl3]; decide) (by show 6 ≤ 8; decide) (by omega)
  go_wp2_with fail
  refine hr.mono ?_
  rintro e w7 ⟨v7, rfl, hO, hB⟩
  replace HO := hideR hO
  rw [show s6.data.toList = dec3 p.high.toNat by rw [unhideR HS6]; rfl] at HO
  replace HK := hideR ((unhideR HK).trans hB)
  replace HB : HeldR (w.heap.size ≤ w7.heap.size) := Nat.le_trans (unhideR HB) hB.size
  clear hO hB hr HS6 hs6
  -- MARK
  have hl4 : ([] ++ rowV [83, 73, 77, 80, 76, 69] [84] ++ rowV [66, 73, 84, 80, 73, 88] [49, 54] ++ rowV [78, 65, 88, 73, 83] [50] ++ rowV [78, 65, 88, 73, 83, 49] (dec3 p.wide.toNat) ++ rowV [78, 65, 88, 73, 83, 50] (dec3 p.high.toNat)).length = 400 := by
    rw [List.length_append, row_length (by decide) (Nat.le_trans (dec3_len _) (by decide)), hl3]
  have hr := cardRow_any ⟨#[66, 90, 69, 82, 79]⟩ ⟨#[51, 50, 55, 54, 56]⟩ (unhideR HB) (unhideR HO) (by rw [show _ = 400 from hl4]; decide) (by show 5 ≤ 8; decide) (by show 5 ≤ 70; decide)
  clear hl3 hl4
  go_wp2_with fail
  refine hr.mono ?_
  rintro e w8 ⟨v8, rfl, hO, hB⟩
  replace HO : HeldR (BOwn w8 w.heap.size v8 (rowsV (six p ++ (L.map CrdS.crd).take 0))) := by
    have e : rowsV (six p ++ (L.map CrdS.crd).take 0) = [] ++ rowV [83, 73, 77, 80, 76, 69] [84] ++ rowV [66, 73, 84, 80, 73, 88] [49, 54] ++ rowV [78, 65, 88, 73, 83] [50] ++ rowV [78, 65, 88, 73, 83, 49] (dec3 p.wide.toNat) ++ rowV [78, 65, 88, 73, 83, 50] (dec3 p.high.toNat) ++ rowV [66, 90, 69, 82, 79] [51, 50, 55, 54, 56] := by
      unfold rowsV six
      simp
    rw [e]
    exact hO
  replace HK := hideR ((unhideR HK).trans hB)
  clear hO hB hr HB hdw hdh
  have HOK : HeldR (∀ i, i < L.length → CrdOk (L.getD i crdS0).crd) := by
    intro i hi
    refine ((unhideR HL).each _ (List.mem_map.2 ⟨L.getD i crdS0, ?_, rfl⟩)).1
    rw [List.getD_eq_getElem?_getD, List.getElem?_eq_getElem hi]
    exact List.getElem_mem hi
  have HAL : HeldR (∀ i, ∀ c ∈ six p ++ (L.map CrdS.crd).take i, CrdOk c) := by
    intro i c hc
    rcases List.mem_append.1 hc with hc | hc
    · exact (six_ok (unhideR H0) c hc).1
    · exact ((unhideR HL).each c (List.mem_of_mem_take hc)).1
  have hfew : L.length ≤ 100 := by
    have := (unhideR HL).few
    rw [List.length_map] at this
    exact this
  go_wp2
  go_loopw [7, 8] (fun bv iv wl => ∃ i : Nat, i ≤ L.length ∧ iv = .int .i64 (i : Nat) ∧ HeldR (BOwn wl w.heap.size bv (rowsV (six p ++ (L.map CrdS.crd).take i))) ∧ HeldR (Below w.heap.size w wl)) (fun _ iv _ => L.length + 1 - (intOf iv).toNat)
  case atStart => exact ⟨0, by omega, rfl, HO, HK⟩
  case round =>
    clear HO HK
    obtain ⟨i, hi, rfl, HO, HK⟩ := hrel
    have hlen : (rowsV (six p ++ (L.map CrdS.crd).take i)).length = 80 * (6 + i) := by
      rw [rows_length (unhideR HAL i), List.length_append, List.length_take, List.length_map, Nat.min_eq_left hi]
      rfl
    by_cases hil : i < L.length
    · obtain ⟨b', off', e', hb', cn, cv, _, _⟩ := ((unhideR HC).below (unhideR HK)).at_ i hil
      subst e'
      have hok := unhideR HOK i hil
      have HN : HeldR (rowsV (six p ++ (L.map CrdS.crd).take (i + 1)) = rowsV (six p ++ (L.map CrdS.crd).take i) ++ rowV (L.getD i crdS0).name.data.toList (L.getD i crdS0).value.data.toList) := rows_next hil
      generalize L.getD i crdS0 = C at cn cv hok HN
      have hs1 : C.name.size ≤ 8 := by have := hok.n1; rw [show C.crd.name.length = C.name.size from Array.length_toList] at this; exact this
      have hs2 : C.value.size ≤ 70 := by have := hok.v1; rw [show C.crd.value.length = C.value.size from Array.length_toList] at this; exact this
      have hr := fun (u : World) (k : Below wr.heap.size wr u) => cardRow_any C.name C.value (B := w.heap.size) (Nat.le_trans (unhideR HK).size k.size) ((unhideR HO).below k) (by rw [hlen]; omega) hs1 hs2
      have hti : decide ((i : Int) < (L.length : Nat)) = true := decide_eq_true (by omega)
      generalize rowsV (six p ++ (L.map CrdS.crd).take i) = A at *
      generalize rowV C.name.data.toList C.value.data.toList = Rw at *
      clear hok hlen HOK HAL
      go_wp2_with fail
      go_region_with ((go_at_call 22; refine (hr _ (drawn_below wr 1)).mono ?_; rintro e w9 ⟨v9, rfl, hO, hB⟩))
      all_goals
        have HO9 : HeldR (BOwn w9 w.heap.size v9 (rowsV (six p ++ (L.map CrdS.crd).take (i + 1)))) := by rw [unhideR HN]; exact hO
        have HK9 := hideR (((unhideR HK).trans ((drawn_below wr 1).mono (unhideR HK).size)).trans hB)
        clear hO hB hr
        go_wp2
        exact ⟨⟨i + 1, by omega, by go_num, HO9, HK9⟩, by simp [intOf]; omega⟩
    · obtain rfl : i = L.length := by omega
      have hti : decide ((L.length : Int) < (L.length : Nat)) = false := decide_eq_false (by omega)
      obtain ⟨i0, hi0, hz0, hz1, hz2⟩ := info_parts infoB
      rw [List.take_of_length_le (by rw [List.length_map]; exact Nat.le_refl _)] at hlen HO
      obtain ⟨ad1, cap1, e1x⟩ := (unhideR HO).slice
      subst e1x
      have H1 : HeldR (wr.ownsRow w.heap.size 5 1 (.slice ad1 (80 * (6 + L.length)) cap1) (80 * (6 + L.length)) (byCells (rowsV (six p ++ L.map CrdS.crd)))) := by
        have := unhideR HO
        unfold BOwn at this
        rw [hlen] at this
        exact this
      rw [hlen]
      have hHd : (headV p (L.map CrdS.crd)).length = 80 * (6 + L.length) + 3 := by
        have := head_length (unhideR H0) (unhideR HL)
        rw [List.length_map] at this
        exact this
      have HHd := hideR hHd
      have HLen := hideR hlen
      have lsz := (unhideR HK).size
      clear hlen hHd HO HOK HAL hi hil
      go_wp2_with (first
        | (at_builtin; refine wpList_append_own _ rfl _ _ 27 rfl w.heap.size 5 i0 (.int .u8 0) 1 1 Tryz.underlying27 hi0 hz0 hz1 hz2 rfl (by decide) _ (80 * (6 + L.length)) (byCells (rowsV (six p ++ L.map CrdS.crd))) rfl (own_below2 (unhideR H1) (below_a _ _)) ⟨wr.heap.size, 0, none⟩ 3 3 [byV 69, byV 78, byV 68] rfl rfl ?c1 ?c2 ?c3 ?c4 ?c5 ?_))
      case c1 => exact three_bytes wr 69 78 68
      case c2 =>
        intro u hu
        simp only [List.mem_cons, List.not_mem_nil, or_false] at hu
        rcases hu with rfl | rfl | rfl <;> rfl
      case c3 => unfold maxLen; omega
      case c4 => omega
      case c5 => simp; omega
      intro v3 w3 hown3 hgrow3 _
      have B3 := hideR (((unhideR HK).alloc lsz _).grown hgrow3 (by simp; omega) (fun g h => own_at2 (unhideR H1) g h))
      have O3 : HeldR (BOwn w3 w.heap.size v3 (headV p (L.map CrdS.crd))) := by
        unfold HeldR BOwn
        rw [unhideR HHd]
        unfold headV byCells
        rw [List.map_append]
        exact hown3
      obtain ⟨ad3, cap3, e3⟩ := (unhideR O3).slice
      subst e3
      have O3' : HeldR (BOwn w3 w.heap.size (.slice ad3 (80 * (6 + L.length) + 3) cap3) (headV p (L.map CrdS.crd))) := by
        have := unhideR O3
        rw [unhideR HHd] at this
        exact this
      rw [unhideR HHd]
      have hbl := fun u => blocks_any (80 * (6 + L.length) + 3) u (by omega)
      have hB3 : w.heap.size ≤ w3.heap.size := (unhideR B3).size
      have hpd := padded_any (blocksV (80 * (6 + L.length) + 3)) 32 hB3 (unhideR O3') (by unfold blocksV; omega)
      have HFH : HeldR (padV (blocksV (80 * (6 + L.length) + 3)) 32 (headV p (L.map CrdS.crd)) = fullHead p (L.map CrdS.crd)) := by
        unfold HeldR fullHead
        rw [unhideR HHd]
      rw [unhideR HFH] at hpd
      clear hown3 hgrow3 O3 H1 lsz
      generalize blocksV (80 * (6 + L.length) + 3) = NB at *
      generalize (80 * (6 + L.length) + 3) = NH at *
      go_wp2_with fail
      refine (hbl _).mono ?_
      rintro e w4 ⟨rfl, rfl⟩
      go_wp2_with fail
      refine hpd.mono ?_
      rintro e w5 ⟨v5, rfl, hO5, hB5⟩
      have W1 : HeldR (PicOk p) := H0
      obtain ⟨W, hW⟩ : ∃ W : Nat, W = p.wide.toNat := ⟨_, rfl⟩
      obtain ⟨H, hH⟩ : ∃ H : Nat, H = p.high.toNat := ⟨_, rfl⟩
      have e1 : p.wide = (W : Int) := by rw [hW]; exact unhideR E1
      have e2 : p.high = (H : Int) := by rw [hH]; exact unhideR E2
      have hWb : 1 ≤ W ∧ W ≤ 256 := by have := (unhideR H0).w1; have := (unhideR H0).w2; omega
      have hHb : 1 ≤ H ∧ H ≤ 256 := by have := (unhideR H0).h1; have := (unhideR H0).h2; omega
      have hLn : p.L.length = W * H := by rw [hW, hH]; exact pix_len (unhideR H0)
      have HFl : HeldR (blocksV (80 * (6 + L.length) + 80) = (fullHead p (L.map CrdS.crd)).length) := by
        have := full_length (unhideR H0) (unhideR HL)
        rw [List.length_map] at this
        exact this.symm
      have hFl : (fullHead p (L.map CrdS.crd)).length ≤ 20000 := by rw [← unhideR HFl]; unfold blocksV; omega
      have HO : HeldR (BOwn w5 w.heap.size v5 (fullHead p (L.map CrdS.crd) ++ dataV p ((H - H) * W))) := by
        unfold HeldR
        rw [Nat.sub_self, Nat.zero_mul, show dataV p 0 = [] from rfl, List.append_nil]
        exact hO5
      replace HK := hideR ((unhideR B3).trans hB5)
      have HPo : HeldR (∀ v' w', BOwn w' w.heap.size v' (padV (blocksV (fullHead p (L.map CrdS.crd) ++ dataV p (H * W)).length) 0 (fullHead p (L.map CrdS.crd) ++ dataV p (H * W))) → Below w.heap.size w w' → FilePost p (L.map CrdS.crd) w (.returned (.tuple #[v', .int .i64 0])) w') := by
        intro v' w' h1 h2
        have ef : padV (blocksV (fullHead p (L.map CrdS.crd) ++ dataV p (H * W)).length) 0 (fullHead p (L.map CrdS.crd) ++ dataV p (H * W)) = fileV p (L.map CrdS.crd) := by
          unfold fileV bodyV
          rw [hLn, Nat.mul_comm W H]
        rw [ef] at h1
        exact ⟨v', by rw [unhideR HE], fun _ => h1, fun k => absurd (unhideR HE) k, h2⟩
      have HPx : HeldR (∀ y1 x, y1 < H → x < W → y1 * W + x < W * H ∧ dataV p ((H - (y1 + 1)) * W + x + 1) = dataV p ((H - (y1 + 1)) * W + x) ++ [hi8 (p.L.getD (y1 * W + x) 0).toNat, lo8 (p.L.getD (y1 * W + x) 0).toNat]) := by
        intro y1 x hy hx
        refine ⟨row_in hy hx, ?_⟩
        rw [data_succ]
        unfold pixAt
        rw [← hW, ← hH, pix_idx hWb.1 hy hx]
      have HEc := HE
      clear hO5 hB5 hpd hbl O3' B3 hB3 HFH HHd HFl HE hW hH
      generalize fullHead p (L.map CrdS.crd) = FH at *
      have hp5 := (unhideR HP).below (unhideR HK)
      have cH : w5.cell? ⟨b, o + 1, none⟩ = some (.int .i64 (H : Nat)) := by rw [← e2]; exact hp5.c1
      clear hp5
      go_wp2
      clear cH
      go_loopw [7, 9] (fun bv yv wl => ∃ y : Nat, y ≤ H ∧ yv = .int .i64 (y : Nat) ∧ HeldR (BOwn wl w.heap.size bv (FH ++ dataV p ((H - y) * W))) ∧ HeldR (Below w.heap.size w wl)) (fun _ yv _ => (intOf yv).toNat)
      case atStart => exact ⟨H, Nat.le_refl _, rfl, HO, HK⟩
      case round =>
        clear HO HK
        obtain ⟨y, hy, rfl, HO, HK⟩ := hrel
        by_cases hy0 : 0 < y
        · obtain ⟨y1, hy1⟩ : ∃ y1, y = y1 + 1 := ⟨y - 1, by omega⟩
          have hyb : y1 < H := by omega
          have ty : decide ((0 : Int) < (y : Nat)) = true := decide_eq_true (by omega)
          have wy : IntKind.i64.wrap ((y : Int) - 1) = (y1 : Int) := by rw [iwrap (by omega) (by omega)]; omega
          have HPy := hideR (fun x (hx : x < W) => unhideR HPx y1 x hyb hx)
          have HNx : HeldR ((H - y) * W + W = (H - y1) * W) := by
            unfold HeldR
            rw [show H - y1 = (H - y) + 1 by omega, Nat.add_mul, Nat.one_mul]
          rw [← hy1] at HPy
          have hkb : (H - y) * W ≤ 65536 := by
            have : (H - y) * W ≤ 256 * 256 := Nat.mul_le_mul (by omega) hWb.2
            omega
          have HY1 := hideR hy1
          clear HPx hy1
          generalize (H - y) * W = KB at *
          go_wp2
          go_loopw [7, 10] (fun bv xv wl => ∃ x : Nat, x ≤ W ∧ xv = .int .i64 (x : Nat) ∧ HeldR (BOwn wl w.heap.size bv (FH ++ dataV p (KB + x))) ∧ HeldR (Below w.heap.size w wl)) (fun _ xv _ => W + 1 - (intOf xv).toNat)
          case atStart => exact ⟨0, by omega, rfl, HO, HK⟩
          case round =>
            clear HO HK
            obtain ⟨x, hx, rfl, HO, HK⟩ := hrel
            obtain ⟨bad, bcap, eb⟩ := (unhideR HO).slice
            subst eb
            have hp6 := (unhideR HP).below (unhideR HK)
            have cW : wr.cell? ⟨b, o, none⟩ = some (.int .i64 (W : Nat)) := by rw [← e1]; exact hp6.c0
            have hbl : (FH ++ dataV p (KB + x)).length = FH.length + 2 * (KB + x) := by rw [List.length_append, data_length]
            by_cases hxl : x < W
            · have tx : decide ((x : Int) < (W : Nat)) = true := decide_eq_true (by omega)
              obtain ⟨hin, hds⟩ := unhideR HPy x hxl
              have c2 := hp6.c2
              obtain ⟨bc, oc, ea, hbc, cc⟩ := hp6.row.at_ (y1 * W + x) (by rw [hLn]; exact hin)
              have hz := (unhideR H0).each (y1 * W + x) (by rw [hLn]; exact hin)
              subst ea
              rw [hLn] at c2
              obtain ⟨c, hcz⟩ : ∃ c : Nat, p.L.getD (y1 * W + x) 0 = (c : Int) := ⟨(p.L.getD (y1 * W + x) 0).toNat, (Int.toNat_of_nonneg hz.1).symm⟩
              rw [hcz] at cc hds hz
              rw [show ((c : Int)).toNat = c from rfl] at hds
              have HDs := hideR hds
              have hy2 : y1 ≤ 255 := by omega
              have hmb : y1 * W ≤ 65280 := by
                have : y1 * W ≤ 255 * 256 := Nat.mul_le_mul hy2 hWb.2
                omega
              obtain ⟨m, hm⟩ : ∃ m, y1 * W = m := ⟨_, rfl⟩
              have wm : IntKind.i64.wrap ((y1 : Int) * (W : Int)) = (m : Int) := by rw [iwrap (by rw [← Int.natCast_mul, hm]; omega) (by rw [← Int.natCast_mul, hm]; omega), ← Int.natCast_mul, hm]
              rw [hm] at cc hin hmb
              obtain ⟨ix, hix⟩ : ∃ ix, m + x = ix := ⟨_, rfl⟩
              have wi : IntKind.i64.wrap ((m : Int) + (x : Int)) = (ix : Int) := by rw [iwrap (by omega) (by omega)]; omega
              rw [hix] at cc hin
              obtain ⟨WH, hWH⟩ : ∃ WH, W * H = WH := ⟨_, rfl⟩
              rw [hWH] at hin c2
              obtain ⟨N, hN⟩ : ∃ N : Nat, (c + 32768) % 65536 = N := ⟨_, rfl⟩
              have wc : IntKind.i64.wrap ((c : Int) + 32768) = (c : Int) + 32768 := iwrap (by omega) (by omega)
              have wN : ((c : Int) + 32768) % 65536 = (N : Int) := by omega
              have hh8 : ((hi8 c).toNat : Int) = (N : Int) / 256 := by
                unfold hi8
                rw [UInt8.toNat_ofNat', hN, Nat.mod_eq_of_lt (by omega)]
                omega
              have hl8 : ((lo8 c).toNat : Int) = (N : Int) % 256 := by
                unfold lo8
                rw [UInt8.toNat_ofNat', hN, Nat.mod_eq_of_lt (by omega)]
                omega
              generalize hi8 c = hc8 at *
              generalize lo8 c = lc8 at *
              have HH8 : HeldR ((N : Int) / 256 = (hc8.toNat : Int)) := hh8.symm
              have HL8 : HeldR (((c : Int) + 32768) % 256 = (lc8.toNat : Int)) := by unfold HeldR; omega
              have hNb : N < 65536 := by omega
              have HOx : HeldR (wr.ownsRow w.heap.size 5 1 (.slice bad (FH.length + 2 * (KB + x)) bcap) (FH.length + 2 * (KB + x)) (byCells (FH ++ dataV p (KB + x)))) := by
                have := unhideR HO
                unfold BOwn at this
                rw [hbl] at this
                exact this
              have HBl := hideR hbl
              rw [hbl]
              have lsz := (unhideR HK).size
              clear hcz hds hm hix hWH hN hp6 hh8 hl8 hbl HO HPy
              go_wp2_with fail
              go_quiet (fail)
              go_wp2_with (first
                | (at_builtin; refine wpList_append_own _ rfl _ _ 27 rfl w.heap.size 5 i0 (.int .u8 0) 1 1 Tryz.underlying27 hi0 hz0 hz1 hz2 rfl (by decide) _ (FH.length + 2 * (KB + x)) (byCells (FH ++ dataV p (KB + x))) rfl (own_below2 (own_below2 (unhideR HOx) (drawn_below _ _)) (below_a _ _)) ⟨wr.heap.size, 0, none⟩ 2 2 [byV hc8, byV lc8] rfl rfl ?c1 ?c2 ?c3 ?c4 ?c5 ?_))
              case c1 =>
                rw [unhideR HH8, unhideR HL8]
                exact two_bytes _ hc8 lc8
              case c2 =>
                intro u hu
                simp only [List.mem_cons, List.not_mem_nil, or_false] at hu
                rcases hu with rfl | rfl <;> rfl
              case c3 => unfold maxLen; omega
              case c4 => omega
              case c5 => simp; omega
              intro v7 w7 hown7 hgrow7 _
              have B7 := hideR ((((unhideR HK).trans ((drawn_below wr _).mono lsz)).alloc lsz _).grown hgrow7 (by simp; omega) (fun g h => own_at2 (unhideR HOx) g h))
              have O7 : HeldR (BOwn w7 w.heap.size v7 (FH ++ dataV p (KB + (x + 1)))) := by
                unfold HeldR BOwn
                rw [← Nat.add_assoc, unhideR HDs, ← List.append_assoc, List.length_append, unhideR HBl]
                unfold byCells
                rw [List.map_append (l₁ := FH ++ dataV p (KB + x))]
                exact hown7
              clear hown7 hgrow7 lsz
              go_wp2
              exact ⟨⟨x + 1, by omega, by go_num, O7, B7⟩, by simp [intOf]; omega⟩
            · obtain rfl : x = W := by omega
              have tx : decide ((x : Int) < (x : Nat)) = false := decide_eq_false (by omega)
              have HG : HeldR (BOwn wr w.heap.size (.slice bad (FH ++ dataV p (KB + x)).length bcap) (FH ++ dataV p ((H - y1) * x))) := by rw [← unhideR HNx]; exact HO
              have HY := hideR (unhideR HY1)
              clear HO HPy hp6
              go_wp2
              exact ⟨⟨y1, by omega, rfl, HG, HK⟩, by have := unhideR HY; simp [intOf]; omega⟩
        · obtain rfl : y = 0 := by omega
          have ty : decide ((0 : Int) < 0) = false := rfl
          rw [Nat.sub_zero] at HO
          obtain ⟨bad, bcap, eb⟩ := (unhideR HO).slice
          subst eb
          have hbl : (FH ++ dataV p (H * W)).length = FH.length + 2 * (H * W) := by rw [List.length_append, data_length]
          have hHW : H * W ≤ 65536 := by
            have : H * W ≤ 256 * 256 := Nat.mul_le_mul hHb.2 hWb.2
            omega
          have hBz : w.heap.size ≤ wr.heap.size := (unhideR HK).size
          have hbk := fun u => blocks_any (FH ++ dataV p (H * W)).length u (by rw [hbl]; omega)
          have hpd := padded_any (blocksV (FH ++ dataV p (H * W)).length) 0 hBz (unhideR HO) (by rw [hbl]; unfold blocksV; omega)
          clear hbl hHW HPx HO
          generalize padV (blocksV (FH ++ dataV p (H * W)).length) 0 (FH ++ dataV p (H * W)) = FV at *
          generalize blocksV (FH ++ dataV p (H * W)).length = NB2 at *
          generalize (FH ++ dataV p (H * W)).length = NL at *
          go_wp2_with fail
          refine (hbk _).mono ?_
          rintro e w8 ⟨rfl, rfl⟩
          go_wp2_with fail
          refine hpd.mono ?_
          rintro e w9 ⟨v9, rfl, hO9, hB9⟩
          have HF := hideR (unhideR HPo v9 w9 hO9 ((unhideR HK).trans hB9))
          clear hO9 hB9 hpd hbk HPo
          go_wp2
          go_ret2
          exact unhideR HF
end Go.Proofs.YtncbmkflilcdgaiGreatDoor
