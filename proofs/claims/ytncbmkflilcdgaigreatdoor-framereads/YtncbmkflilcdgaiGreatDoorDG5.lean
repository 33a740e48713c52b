/-
  The program's files: the head, the counts.
-/
import Derived.Test.YtncbmkflilcdgaiGreatDoorDG4
import Derived.Test.YtncbmkflilcdgaiGreatDoorDF1
import Derived.Test.YtncbmkflilcdgaiGreatDoorFfFile
namespace Go.Proofs.YtncbmkflilcdgaiGreatDoor
open Go Go.RowKit

/-! rows -/
def RV (L : List CrdS) (k : Nat) : Bs := rowsV ((L.take k).map CrdS.crd)
theorem RV_next {L : List CrdS} {k : Nat} (hk : k < L.length) : RV L (k + 1) = RV L k ++ rowV (L.getD k crdS0).name.data.toList (L.getD k crdS0).value.data.toList := by
  unfold RV rowsV
  rw [List.take_add_one, List.getElem?_eq_getElem hk, List.map_append, List.map_append, List.flatten_append, List.getD_eq_getElem?_getD, List.getElem?_eq_getElem hk]
  simp [CrdS.crd]
structure CardIn (c : CrdS) : Prop where
  n1 : 1 ≤ c.name.size
  n8 : c.name.size ≤ 8
  v70 : c.value.size ≤ 70
theorem RV_length {L : List CrdS} (h : ∀ k, k < L.length → CardIn (L.getD k crdS0)) : ∀ {k : Nat}, k ≤ L.length → (RV L k).length = 80 * k
  | 0, _ => rfl
  | k + 1, hk => by
    have hc := h k (by omega)
    have l1 : (L.getD k crdS0).name.data.toList.length = (L.getD k crdS0).name.size := Array.length_toList
    have l2 : (L.getD k crdS0).value.data.toList.length = (L.getD k crdS0).value.size := Array.length_toList
    have a := hc.n8
    have b := hc.v70
    rw [RV_next (by omega), List.length_append, RV_length h (by omega), row_length (by omega) (by omega)]
    omega
theorem six_in (W H : Nat) : ∀ k, k < (sixS W H).length → CardIn ((sixS W H).getD k crdS0) := by
  intro k hk
  have hk6 : k < 6 := hk
  have l1 := dec3_len W
  have l2 := dec3_len H
  have e1 := strB_size (dec3 W)
  have e2 := strB_size (dec3 H)
  rcases k with _ | _ | _ | _ | _ | _ | k
  · exact ⟨Nat.le_of_ble_eq_true rfl, Nat.le_of_ble_eq_true rfl, Nat.le_of_ble_eq_true rfl⟩
  · exact ⟨Nat.le_of_ble_eq_true rfl, Nat.le_of_ble_eq_true rfl, Nat.le_of_ble_eq_true rfl⟩
  · exact ⟨Nat.le_of_ble_eq_true rfl, Nat.le_of_ble_eq_true rfl, Nat.le_of_ble_eq_true rfl⟩
  · exact ⟨Nat.le_of_ble_eq_true rfl, Nat.le_of_ble_eq_true rfl, by show (strB (dec3 W)).size ≤ 70; omega⟩
  · exact ⟨Nat.le_of_ble_eq_true rfl, Nat.le_of_ble_eq_true rfl, by show (strB (dec3 H)).size ≤ 70; omega⟩
  · exact ⟨Nat.le_of_ble_eq_true rfl, Nat.le_of_ble_eq_true rfl, Nat.le_of_ble_eq_true rfl⟩
  · omega
theorem cards_in {L : List CrdS} (h : cardsE (L.map CrdS.crd) = 0) : ∀ k, k < L.length → CardIn (L.getD k crdS0) := by
  intro k hk
  have hc := cards_ok h
  have h1 := hc.names k (by rw [List.length_map]; exact hk)
  rw [crd_at hk] at h1
  have h2 := hc.values (L.getD k crdS0).crd (List.mem_map.2 ⟨L.getD k crdS0, by rw [List.getD_eq_getElem?_getD, List.getElem?_eq_getElem hk]; exact List.getElem_mem hk, rfl⟩)
  have l1 : (L.getD k crdS0).name.data.toList.length = (L.getD k crdS0).name.size := Array.length_toList
  have l2 : (L.getD k crdS0).value.data.toList.length = (L.getD k crdS0).value.size := Array.length_toList
  have h3 := val_ok h2
  have h4 := name_ok h1
  unfold nameOk at h1
  simp only [Bool.and_eq_true, decide_eq_true_eq] at h1
  obtain ⟨⟨⟨⟨h5, _⟩, _⟩, _⟩, _⟩ := h1
  refine ⟨?_, ?_, ?_⟩
  · rw [← l1]; exact h5
  · rw [← l1]; exact h4.1
  · rw [← l2]; exact h3.1
theorem six_no {W H : Nat} : ∀ cs fr, sixObj W H ≠ .cells cs 5 fr := fun cs fr q => by
  unfold sixObj at q
  injection q with _ q2
  revert q2
  decide
theorem fill_blocks (n : Nat) : fillN n 2880 = blocksV n - n := by
  unfold fillN blocksV
  omega
theorem full_fill (p : Pic) (L : List Crd) : fillV 2880 32 (headV p L) = fullHead p L := by
  unfold fillV fullHead padV
  rw [fill_blocks]
theorem file_fill (p : Pic) (L : List Crd) : fillV 2880 0 (bodyV p L) = fileV p L := by
  unfold fillV fileV padV
  rw [fill_blocks]
theorem nilB (w : World) (B : Nat) : BOwn w B (.slice none 0 0) [] := World.ownsRow_nil _ _ _ _
set_option maxRecDepth 100000 in
set_option maxHeartbeats 3200000 in
theorem headOf_any {a : Nat → Addr} {w : World} {ap ac : Option Addr} {n cp cc : Nat} {W H : Nat} {L : List CrdS} (hS : SentsF w a) (hW : W ≤ 256) (hH : H ≤ 256) (hr : CCame w ac L) (hl : L.length ≤ 1000) (hin : ∀ k, k < L.length → CardIn (L.getD k crdS0)) :
    Calls Tryz.prog 19 #[.agg #[.int .i64 (W : Nat), .int .i64 (H : Nat), .slice ap n cp], .slice ac L.length cc] w (RowPostT w.heap.size w (fullHead ⟨W, H, []⟩ (L.map CrdS.crd))) := by
  obtain ⟨i0, hi0, hz0, hz1, hz2⟩ := info_parts infoB
  have hb := below_a w (.cells #[.int .i64 (W : Nat), .int .i64 (H : Nat), .slice ap n cp] 33)
  obtain ⟨p0, p1, p2⟩ := pic_three (alloc_last w (.cells #[.int .i64 (W : Nat), .int .i64 (H : Nat), .slice ap n cp] 33))
  have hfc := firstCards_any W H hW hH (hS.below hb)
  have HR := hideR hr
  have HIn := hideR hin
  have HB := hideR hb
  have HE : HeldR (fillV 2880 32 (RV (sixS W H) 6 ++ RV L L.length ++ [69, 78, 68]) = fullHead ⟨W, H, []⟩ (L.map CrdS.crd)) := by
    refine hideR ?_
    rw [← full_fill]
    congr 1
    unfold headV RV rowsV
    rw [List.take_length, show (sixS W H).take 6 = sixS W H from rfl, six_is, List.map_append, List.flatten_append]
  rw [← unhideR HE]
  clear hb hS hr hin
  go_enter Tryz.func19, Tryz.ntmps19
  go_wp2_with fail
  refine hfc.mono ?_
  rintro e u ⟨g, rfl, _, ku, hg⟩
  have HG := hideR hg
  have HK := hideR (below_go (unhideR HB) ku)
  have HT := hideR ((tk_below (unhideR HB)).trans (tk_below ku))
  clear hfc ku hg p0 p1 p2 HB
  have hwu := (unhideR HK).size
  go_wp2
  go_loopw [5, 16] (fun bv kv wl => ∃ k : Nat, k ≤ 6 ∧ kv = .int .i64 (k : Nat) ∧ HeldR (BOwn wl w.heap.size bv (RV (sixS W H) k)) ∧ HeldR (Below w.heap.size w wl) ∧ HeldR (Tkeep w wl) ∧ HeldR (wl.heap[g]? = some (sixObj W H))) (fun _ kv _ => 7 - (intOf kv).toNat)
  case atStart => exact ⟨0, by omega, rfl, hideR (nilB _ _), HK, HT, HG⟩
  case round =>
    clear HG HK HT
    obtain ⟨k, hk, rfl, HO, HK, HT, HG⟩ := hrel
    by_cases hlt : k < 6
    · obtain ⟨b1, o1, eb, lb1, x1, x2, _⟩ := (six_came (unhideR HG)).at_ k hlt
      injection eb with eb
      injection eb with e1 e2
      subst e1
      subst e2
      simp only [Nat.zero_add] at x1 x2
      have hci := six_in W H k hlt
      have HN := hideR (RV_next (L := sixS W H) (k := k) hlt)
      have hlen := RV_length (six_in W H) (k := k) hk
      obtain ⟨hn1, hn8, hv70⟩ := hci
      generalize ((sixS W H).getD k crdS0).name = n1 at *
      generalize ((sixS W H).getD k crdS0).value = v1 at *
      have hb2 := below_a wr (.cells #[.string n1, .string v1] 57)
      have lsz := (unhideR HK).size
      have y0 : (wr.alloc (.cells #[.string n1, .string v1] 57)).cell? ⟨wr.heap.size, 0, none⟩ = some (.string n1) := (cells_at (alloc_last wr (.cells #[.string n1, .string v1] 57)) 0 (by simp)).1
      have y1 : (wr.alloc (.cells #[.string n1, .string v1] 57)).cell? ⟨wr.heap.size, 1, none⟩ = some (.string v1) := (cells_at (alloc_last wr (.cells #[.string n1, .string v1] 57)) 1 (by simp)).1
      have hwc := withCard_any n1 v1 (Nat.le_trans lsz hb2.size) ((unhideR HO).below hb2) (by omega) (by omega) hn1 hn8 hv70
      replace HK := hideR (below_go (unhideR HK) hb2)
      replace HT := hideR ((unhideR HT).trans (tk_below hb2))
      replace HG := hideR (keepB (unhideR HG) hb2)
      obtain ⟨bs, hbs⟩ : ∃ bs, RV (sixS W H) k ++ rowV n1.data.toList v1.data.toList = bs := ⟨_, rfl⟩
      rw [hbs] at hwc HN
      clear hb2 hbs hlen HO
      go_wp2_with fail
      refine hwc.mono ?_
      rintro e w2 ⟨v2, rfl, hO2, hB2, hT2⟩
      have HO := hideR hO2
      replace HK := hideR ((unhideR HK).trans hB2)
      replace HT := hideR ((unhideR HT).trans hT2)
      replace HG := hideR (hT2 _ _ (unhideR HG) six_no)
      clear hwc hO2 hB2 hT2 y0 y1 x1 x2
      go_wp2
      exact ⟨⟨k + 1, by omega, by go_num, by rw [unhideR HN]; exact HO, HK, HT, HG⟩, by simp [intOf]; omega⟩
    · obtain rfl : k = 6 := by omega
      clear HG
      rw [show ((6 : Nat) : Int) = 6 from rfl]
      go_wp2
      go_loopw [5, 26] (fun bv kv wl => ∃ k : Nat, k ≤ L.length ∧ kv = .int .i64 (k : Nat) ∧ HeldR (BOwn wl w.heap.size bv (RV (sixS W H) 6 ++ RV L k)) ∧ HeldR (Below w.heap.size w wl) ∧ HeldR (Tkeep w wl)) (fun _ kv _ => L.length + 1 - (intOf kv).toNat)
      case atStart => exact ⟨0, by omega, rfl, by rw [show RV L 0 = [] from rfl, List.append_nil]; exact HO, HK, HT⟩
      case round =>
        clear HO HK HT
        obtain ⟨k, hk, rfl, HO, HK, HT⟩ := hrel
        have hl6 := RV_length (six_in W H) (k := 6) (Nat.le_refl _)
        have hlk := RV_length (unhideR HIn) (k := k) hk
        have hlen : (RV (sixS W H) 6 ++ RV L k).length = 480 + 80 * k := by rw [List.length_append, hl6, hlk]
        clear hl6 hlk
        by_cases hlt : k < L.length
        · obtain ⟨b1, o1, rfl, lb1, x1, x2, _⟩ := ((unhideR HR).below (unhideR HK)).at_ k hlt
          have hci := unhideR HIn k hlt
          have HN : HeldR (RV (sixS W H) 6 ++ RV L (k + 1) = (RV (sixS W H) 6 ++ RV L k) ++ rowV (L.getD k crdS0).name.data.toList (L.getD k crdS0).value.data.toList) := hideR (by rw [RV_next hlt, List.append_assoc])
          obtain ⟨hn1, hn8, hv70⟩ := hci
          generalize ((L).getD k crdS0).name = n1 at *
          generalize ((L).getD k crdS0).value = v1 at *
          have hb2 := below_a wr (.cells #[.string n1, .string v1] 57)
          have lsz := (unhideR HK).size
          have y0 : (wr.alloc (.cells #[.string n1, .string v1] 57)).cell? ⟨wr.heap.size, 0, none⟩ = some (.string n1) := (cells_at (alloc_last wr (.cells #[.string n1, .string v1] 57)) 0 (by simp)).1
          have y1 : (wr.alloc (.cells #[.string n1, .string v1] 57)).cell? ⟨wr.heap.size, 1, none⟩ = some (.string v1) := (cells_at (alloc_last wr (.cells #[.string n1, .string v1] 57)) 1 (by simp)).1
          have hwc := withCard_any n1 v1 (Nat.le_trans lsz hb2.size) ((unhideR HO).below hb2) (by omega) (by omega) hn1 hn8 hv70
          replace HK := hideR (below_go (unhideR HK) hb2)
          replace HT := hideR ((unhideR HT).trans (tk_below hb2))
          obtain ⟨bs, hbs⟩ : ∃ bs, (RV (sixS W H) 6 ++ RV L k) ++ rowV n1.data.toList v1.data.toList = bs := ⟨_, rfl⟩
          rw [hbs] at hwc HN
          clear hb2 hbs hlen HO
          go_wp2_with fail
          refine hwc.mono ?_
          rintro e w2 ⟨v2, rfl, hO2, hB2, hT2⟩
          have HO := hideR hO2
          replace HK := hideR ((unhideR HK).trans hB2)
          replace HT := hideR ((unhideR HT).trans hT2)
          clear hwc hO2 hB2 hT2 y0 y1 x1 x2
          go_wp2
          exact ⟨⟨k + 1, by omega, by go_num, by rw [unhideR HN]; exact HO, HK, HT⟩, by simp [intOf]; omega⟩
        · obtain rfl : k = L.length := by omega
          have lsz := (unhideR HK).size
          have H1 : HeldR (wr.ownsRow w.heap.size 5 1 u5 (480 + 80 * L.length) (byCells (RV (sixS W H) 6 ++ RV L L.length))) := by
            have := unhideR HO
            unfold BOwn at this
            rw [hlen] at this
            exact this
          generalize hA : RV (sixS W H) 6 ++ RV L L.length = A at *
          have HA := hideR hA
          clear HO hA
          go_wp2_with (first
            | (at_builtin; refine Go.Lib.wpList_append_own_string _ rfl _ _ 27 9 rfl w.heap.size 5 i0 Tryz.underlying27 Tryz.underlying9 hi0 hz0 hz1 hz2 _ (480 + 80 * L.length) (byCells A) rfl (unhideR H1) ⟨#[69, 78, 68]⟩ rfl ?d3 ?d4 lsz ?_))
          case d3 => show 480 + 80 * L.length + 3 ≤ maxLen; unfold maxLen; omega
          case d4 => show 480 + 80 * L.length + 3 ≤ _; omega
          intro v3 w3 hown3 hgrow3 _
          have lsz3 := Nat.le_trans lsz hgrow3.size
          have B3 := hideR ((unhideR HK).grown hgrow3 lsz (fun g h => own_at2 (unhideR H1) g h))
          have T3 := hideR ((unhideR HT).trans (tk_grown (unhideR H1) hgrow3))
          have hlA : (A ++ [69, 78, 68]).length = 480 + 80 * L.length + 3 := by rw [List.length_append, hlen]; rfl
          have H3 : HeldR (BOwn w3 w.heap.size v3 (A ++ [69, 78, 68])) := by
            unfold HeldR BOwn byCells
            rw [List.map_append, hlA]
            exact hown3
          clear hown3 hgrow3 H1 HK HT
          have hp := filled_any 2880 32 lsz3 (unhideR H3) (by decide) (by decide) (by rw [hlA]; omega)
          rw [show (((2880 : Nat) : Nat) : Int) = 2880 from rfl] at hp
          clear H3 hlA hlen
          go_wp2_with fail
          refine hp.mono ?_
          rintro e w5 ⟨v5, rfl, hO5, hB5, hT5⟩
          have HF : HeldR (RowPostT w.heap.size w (fillV 2880 32 (A ++ [69, 78, 68])) (.returned v5) w5) := hideR ⟨v5, rfl, hO5, (unhideR B3).trans hB5, (unhideR T3).trans hT5⟩
          clear hp hO5 hB5 hT5
          go_wp2
          go_ret
          exact unhideR HF
/-! the counts -/
theorem stored_any (c : Nat) (hc : c ≤ 65535) (w : World) : Calls Tryz.prog 38 #[.int .i64 (c : Nat)] w fun e w' => e = .returned (.int .i16 ((c : Int) - 32768)) ∧ w' = w := by
  by_cases h : c < 32768
  · have h1 : IntKind.i16.wrap (c : Int) = (c : Int) := by unfold IntKind.wrap; simp [IntKind.signed, IntKind.bits]; omega
    have h2 : IntKind.i16.wrap ((c : Int) + -32768) = (c : Int) - 32768 := by unfold IntKind.wrap; simp [IntKind.signed, IntKind.bits]; omega
    go_enter Tryz.func38, Tryz.ntmps38
    go_wp2
    go_ret
    exact ⟨rfl, rfl⟩
  · have h1 : IntKind.i16.wrap (c : Int) = (c : Int) - 65536 := by unfold IntKind.wrap; simp [IntKind.signed, IntKind.bits]; omega
    have h2 : IntKind.i16.wrap ((c : Int) - 65536 + -32768) = (c : Int) - 32768 := by unfold IntKind.wrap; simp [IntKind.signed, IntKind.bits]; omega
    go_enter Tryz.func38, Tryz.ntmps38
    go_wp2
    go_ret
    exact ⟨rfl, rfl⟩
end Go.Proofs.YtncbmkflilcdgaiGreatDoor
