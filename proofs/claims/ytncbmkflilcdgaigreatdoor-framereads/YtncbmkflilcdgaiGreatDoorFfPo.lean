/-
  The document's files: what is read of bytes, by contract.
-/
import Derived.Test.YtncbmkflilcdgaiGreatDoorFfPicA
import Derived.Test.YtncbmkflilcdgaiGreatDoorDH13A
import Derived.Deep.CutBlock
namespace Go.Proofs.YtncbmkflilcdgaiGreatDoor
open Go Go.RowKit

theorem card_val {l : Bs} {k j : Nat} {LS : List CrdS} (h : LS.map CrdS.crd = cardsOf l k) (hj : j < k) : (LS.getD j crdS0).value.data.toList = (cardAt l j).value := by
  have hl : LS.length = k := by
    have := congrArg List.length h
    rw [List.length_map] at this
    rw [this]
    unfold cardsOf
    simp
  have e := congrArg (fun L => L[j]?) h
  simp only [List.getElem?_map] at e
  rw [List.getElem?_eq_getElem (by omega)] at e
  unfold cardsOf at e
  rw [List.getElem?_map, List.getElem?_range (by omega)] at e
  have e2 := Option.some.inj e
  rw [List.getD_eq_getElem?_getD, List.getElem?_eq_getElem (by omega)]
  rw [← e2]
  rfl
theorem blk_ne {w : World} {g B n s : Nat} {cs : Array Value} {ty e : TypeId} {xs : List Value} {v : Value} (h : w.heap[g]? = some (.cells cs ty)) (ho : w.ownsRow B e s v n xs) (he : e ≠ ty) : some g ≠ v.ownBlock := by
  intro q
  rcases ho.2 with ⟨h1, _⟩ | ⟨g', c, cur, h1, _, h3, _⟩
  · subst h1; cases q
  · subst h1
    have eg : g = g' := by simpa [Value.ownBlock] using q
    subst eg
    rw [h] at h3
    injection h3 with h3
    injection h3 with _ h4
    exact he h4.symm
def SlZR (n : Nat) (v : Value) : Prop := ∃ g : Nat, v = .slice (some ⟨g, 0, none⟩) n n
theorem ownZR_stb (B n : Nat) (v : Value) : Stb (OwnZR B n v) := fun _ _ h k => own_below2 h k
theorem pix_all {l : Bs} {D W H : Nat} {C : List Int} (hW : 1 ≤ W) (hl : C.length = W * H) (h : ∀ j, j < W * H → C.getD (turnI W H j) 0 = pixOf l D j) : C = (picOf l D W H).L := by
  unfold picOf
  refine List.ext_getElem (by simp [hl]) (fun i h1 h2 => ?_)
  have hi : i < W * H := by rw [← hl]; exact h1
  have ht := turn_lt (H := H) hW hi
  have e := h (turnI W H i) ht
  rw [turn_turn hW hi] at e
  simp only [List.getElem_map, List.getElem_range]
  have e2 : C[i] = C.getD i 0 := by simp [List.getD, List.getElem?_eq_getElem h1]
  rw [e2, e]
  rfl
theorem drop_cells {w : World} {g o : Nat} {LS : List CrdS} (h : CCame w (some ⟨g, o, none⟩) LS) : ∀ j u, (crdCells LS)[j]? = some u → w.cell? ((⟨g, o, none⟩ : Addr).add j) = some u := by
  intro j u hu
  have hj := (List.getElem?_eq_some_iff.1 hu).1
  rw [crdCells_length] at hj
  obtain ⟨b', o', e', _, h1, h2, _⟩ := h.at_ (j / 2) (by omega)
  cases e'
  obtain ⟨c1, c2⟩ := crdCells_at LS (j / 2) (by omega)
  rw [add_pl2]
  rcases Nat.mod_two_eq_zero_or_one j with m | m
  · rw [show j = j / 2 * 2 by omega] at hu
    rw [c1] at hu
    rw [show o + j = o + j / 2 * 2 by omega, h1]
    exact hu
  · rw [show j = j / 2 * 2 + 1 by omega] at hu
    rw [c2] at hu
    rw [show o + j = o + j / 2 * 2 + 1 by omega, h2]
    exact hu
theorem crd_one {L : List CrdS} : ∀ u ∈ crdCells L, u.oneCell' = true := by
  induction L with
  | nil => intro u hu; cases hu
  | cons c L ih =>
    intro u hu
    unfold crdCells at hu
    rcases List.mem_cons.1 hu with rfl | hu
    · rfl
    · rcases List.mem_cons.1 hu with rfl | hu
      · rfl
      · exact ih u hu
def PicPost (l : Bs) (w : World) (e : Ending) (w' : World) : Prop := ∃ (g : Nat) (ax al : Option Addr) (cx cl : Nat) (L : List CrdS), e = .returned (.tuple #[.pointer (some ⟨g, 0, none⟩), .slice al L.length cl, .int .i64 (readV l).1]) ∧
  PicAt w' g 0 ax cx (readV l).2.1 ∧ L.map CrdS.crd = (readV l).2.2 ∧ CCame w' al L ∧ Below w.heap.size w w' ∧ w.heap.size ≤ g ∧ ∀ a0, ax = some a0 → w.heap.size ≤ a0.block
set_option maxRecDepth 100000 in
set_option maxHeartbeats 3200000 in
theorem pictureOf_any {w : World} {ab : Option Addr} {cb : Nat} {l : Bs} (h : BAt w ab l) (hl : l.length ≤ 400010) (hc : l.length ≤ cb) :
    Calls Tryz.prog 14 #[.slice ab l.length cb] w (PicPost l w) := by
  have HN : HeldR (∀ u E, Below w.heap.size w u → readV l = (E, pic0, []) → u.heap[w.heap.size]? = some (.cells #[.int .i64 0, .int .i64 0, .slice none 0 0] 33) → PicPost l w (.returned (.tuple #[.pointer (some ⟨w.heap.size, 0, none⟩), .slice none 0 0, .int .i64 E])) u) := by
    intro u E hu he hg
    refine ⟨w.heap.size, none, none, 0, 0, [], by rw [he]; rfl, ?_, by rw [he]; rfl, ⟨fun k hk => absurd hk (Nat.not_lt_zero k)⟩, hu, Nat.le_refl _, fun a0 q => (by cases q)⟩
    rw [he]
    exact ⟨ltB hg, (cells_at hg 0 (by simp)).1, (cells_at hg 1 (by simp)).1, (cells_at hg 2 (by simp)).1, ⟨fun k hk => absurd hk (Nat.not_lt_zero k)⟩⟩
  have k0 := below_a w (.cells #[.int .i64 0, .int .i64 0, .slice none 0 0] 33)
  have HK := hideR k0
  have HG := hideR (alloc_last w (.cells #[.int .i64 0, .int .i64 0, .slice none 0 0] 33))
  have HB := hideR (h.below k0)
  clear h k0
  by_cases q0 : 400000 < l.length
  · have t0 : decide ((400000 : Int) < (l.length : Nat)) = true := decide_eq_true (by omega)
    have HF := hideR (unhideR HN _ 2 (unhideR HK) (by unfold readV; rw [if_pos q0]) (unhideR HG))
    go_enter Tryz.func14, Tryz.ntmps14
    go_wp2
    simp [bodyPost, results, Tryz.results14, go_sem]
    exact unhideR HF
  have t0 : decide ((400000 : Int) < (l.length : Nat)) = false := decide_eq_false (by omega)
  obtain ⟨i0, hi0, hz0, hz1, hz2⟩ := info_parts infoC
  go_enter Tryz.func14, Tryz.ntmps14
  go_upto_block 0 with fail
  generalize w.alloc (.cells #[.int .i64 0, .int .i64 0, .slice none 0 0] 33) = W1 at *
  go_cut [6, 7, 8] from 22 to 52 (fun s6 s7 s8 wx => ∃ (k a : Nat) (LS : List CrdS), HeldR (a = 80 * k) ∧ k ≤ 106 ∧ s7 = .int .i64 (a : Nat) ∧ HeldR (COwn wx W1.heap.size s6 LS) ∧ HeldR (LS.map CrdS.crd = cardsOf l k) ∧ HeldR (stopV l 107 0 = k) ∧ HeldR (Below W1.heap.size W1 wx))
  case' first =>
    go_wp2_with fail
    go_loopw [6, 7] (fun av atv wl => ∃ (k a : Nat) (LS : List CrdS), HeldR (a = 80 * k) ∧ k ≤ 106 ∧ atv = .int .i64 (a : Nat) ∧ HeldR (COwn wl W1.heap.size av LS) ∧ HeldR (LS.map CrdS.crd = cardsOf l k) ∧ HeldR (∀ j, j < k → endB l j = false) ∧ HeldR (Below W1.heap.size W1 wl)) (fun _ atv _ => l.length + 80 - (intOf atv).toNat)
    case atStart => exact ⟨0, 0, [], rfl, by omega, rfl, World.ownsRow_nil _ _ _ _, rfl, fun j hj => absurd hj (Nat.not_lt_zero j), hideR (Below.refl _ _)⟩
    case round =>
      obtain ⟨k, a, LS, HA, hk, rfl, HO, HL, HE, HW⟩ := hrel
      have hab : a ≤ 8480 := by have := unhideR HA; omega
      have wa : IntKind.i64.wrap ((a : Int) + 80) = (a : Int) + 80 := iwrap (by omega) (by omega)
      by_cases h80 : a + 80 ≤ l.length
      · obtain ⟨b, off, eb, _, _⟩ := (unhideR HB).at_ 0 (by omega)
        subst eb
        have hb8 := ((unhideR HB).below (unhideR HW)).part a 8
        have l8 := part_len (l := l) (s := a) (n := 8) (by omega)
        have htr := trimmed_any (cap := cb - a) hb8 (by rw [l8]; omega) (by rw [l8]; omega)
        rw [l8] at htr
        have wb : IntKind.i64.wrap ((a : Int) + 8) = (a : Int) + 8 := iwrap (by omega) (by omega)
        have ta : decide ((a : Int) + 80 ≤ (l.length : Nat)) = true := decide_eq_true (by omega)
        have HNm : HeldR (trimV ((l.drop a).take 8) = (cardAt l k).name) := by rw [unhideR HA]; exact rfl
        unfold TrimPost at htr
        rw [unhideR HNm] at htr
        clear hb8 l8
        go_wp2_with fail
        refine htr.mono ?_
        rintro e w3 ⟨rfl, rfl⟩
        have htl : (strB (cardAt l k).name).toList = (cardAt l k).name := by rw [ByteArray.toList_eq]; rfl
        by_cases hE : (cardAt l k).name = [69, 78, 68]
        · have te : ((strB (cardAt l k).name).toList == [69, 78, 68]) = true := by rw [htl, hE]; rfl
          have HST : HeldR (stopV l 107 0 = k) := stop_at 107 0 (fun j _ hj => unhideR HE j hj) (by unfold endB; rw [hE]; simp) (by omega) (by omega)
          clear hE htl htr
          generalize strB (cardAt l k).name = S at *
          go_wp2_with fail
          go_meet
          exact ⟨k, a, LS, HA, hk, rfl, HO, HL, HST, HW⟩
        · have te : ((strB (cardAt l k).name).toList == [69, 78, 68]) = false := by rw [htl]; exact beq_eq_false_iff_ne.2 hE
          have HEk : HeldR (∀ j, j < k + 1 → endB l j = false) := by
            intro j hj
            by_cases e : j < k
            · exact unhideR HE j e
            · obtain rfl : j = k := by omega
              unfold endB
              rw [Bool.or_eq_false_iff]
              exact ⟨decide_eq_false (by have := unhideR HA; omega), beq_eq_false_iff_ne.2 hE⟩
          have hb7 := ((unhideR HB).below (unhideR HW)).part (a + 10) 70
          have l7 := part_len (l := l) (s := a + 10) (n := 70) (by omega)
          have htv := trimmed_any (cap := cb - (a + 10)) hb7 (by rw [l7]; omega) (by rw [l7]; omega)
          rw [l7] at htv
          have HVa : HeldR (trimV ((l.drop (a + 10)).take 70) = (cardAt l k).value) := by rw [unhideR HA]; exact rfl
          unfold TrimPost at htv
          rw [unhideR HVa] at htv
          have wc : IntKind.i64.wrap ((a : Int) + 10) = (a : Int) + 10 := iwrap (by omega) (by omega)
          have HLn : HeldR ((LS ++ [(⟨strB (cardAt l k).name, strB (cardAt l k).value⟩ : CrdS)]).map CrdS.crd = cardsOf l (k + 1)) := by
            unfold HeldR
            rw [cards_next, List.map_append, unhideR HL]
            rfl
          have hLS : LS.length = k := by
            have := congrArg List.length (unhideR HL)
            rw [List.length_map] at this
            rw [this]
            unfold cardsOf
            simp
          obtain ⟨ado, capo, eo⟩ := (unhideR HO).slice
          subst eo
          have HO1 : HeldR (w3.ownsRow W1.heap.size 57 2 (.slice ado k capo) k (crdCells LS)) := by
            have := unhideR HO
            unfold COwn at this
            rw [hLS] at this
            exact this
          rw [hLS]
          have HLS := hideR hLS
          have lsz := (unhideR HW).size
          clear hE htl htr hb7 l7 hLS
          generalize strB (cardAt l k).name = S at *
          generalize strB (cardAt l k).value = V at *
          go_wp2_with fail
          refine htv.mono ?_
          rintro e w4 ⟨rfl, rfl⟩
          clear htv
          go_wp2_with (first
            | (at_builtin; refine wpList_append_own _ rfl _ _ 23 rfl W1.heap.size 57 i0 (.agg #[.string ByteArray.empty, .string ByteArray.empty]) 2 32 Tryz.underlying23 hi0 hz0 hz1 hz2 rfl (by decide) _ k (crdCells LS) rfl (own_below2 (unhideR HO1) (below_a _ _)) ⟨w4.heap.size, 0, none⟩ 1 1 [.string S, .string V] rfl rfl ?c1 ?c2 ?c3 ?c4 ?c5 ?_))
          case c1 =>
            intro j u hu
            rcases j with _ | _ | j
            · cases hu
              rw [add_pl2]
              exact (cells_at (alloc_last w4 _) 0 (by simp)).1
            · cases hu
              rw [add_pl2]
              exact (cells_at (alloc_last w4 _) 1 (by simp)).1
            · simp at hu
          case c2 =>
            intro u hu
            simp only [List.mem_cons, List.not_mem_nil, or_false] at hu
            rcases hu with rfl | rfl <;> rfl
          case c3 => unfold maxLen; omega
          case c4 => omega
          case c5 => simp; omega
          intro v7 w7 hown7 hgrow7 _
          have B7 := hideR (((unhideR HW).alloc lsz _).grown hgrow7 (by simp; omega) (fun g h => own_at2 (unhideR HO1) g h))
          have O7 : HeldR (COwn w7 W1.heap.size v7 (LS ++ [(⟨S, V⟩ : CrdS)])) := by
            unfold HeldR COwn
            rw [List.length_append, unhideR HLS, crdCells_append]
            exact hown7
          obtain ⟨adv, capv, ev⟩ : ∃ adv capv, v7 = .slice adv (k + 1) capv := by
            rcases hown7.2 with ⟨_, h2⟩ | ⟨g, cap, cur, e, _⟩
            · omega
            · exact ⟨_, _, e⟩
          subst ev
          clear hown7 hgrow7 lsz HO HO1
          by_cases hk6 : k + 1 ≤ 106
          · have t6 : decide ((106 : Int) < ((k + 1 : Nat) : Int)) = false := decide_eq_false (by omega)
            have HA2 : HeldR (a + 80 = 80 * (k + 1)) := by have := unhideR HA; unfold HeldR; omega
            go_wp2
            exact ⟨⟨k + 1, a + 80, _, HA2, hk6, by go_num, O7, HLn, HEk, B7⟩, by simp [intOf]; omega⟩
          · have t6 : decide ((106 : Int) < ((k + 1 : Nat) : Int)) = true := decide_eq_true (by omega)
            have HF := hideR (unhideR HN w7 8 (below_go (unhideR HK) (unhideR B7)) (by
              have hst := stop_all (b := l) 107 0 (fun j _ hj => unhideR HEk j (by omega))
              unfold readV
              rw [if_neg q0, if_pos (.inl (by rw [hst]; decide))]) (keepB (unhideR HG) (unhideR B7)))
            go_wp2
            simp [bodyPost, results, Tryz.results14, go_sem]
            exact unhideR HF
      · have ta : decide ((a : Int) + 80 ≤ (l.length : Nat)) = false := decide_eq_false (by omega)
        have HST : HeldR (stopV l 107 0 = k) := stop_at 107 0 (fun j _ hj => unhideR HE j hj) (by unfold endB; rw [decide_eq_true (by have := unhideR HA; omega)]; rfl) (by omega) (by omega)
        go_wp2_with fail
        go_meet
        exact ⟨k, a, LS, HA, hk, rfl, HO, HL, HST, HW⟩
  obtain ⟨k, a, LS, HA, hk, rfl, HO, HL, HST, HW⟩ := hcut
  have hlenL : LS.length = k := by
    have := congrArg List.length (unhideR HL)
    rw [List.length_map] at this
    rw [this]
    unfold cardsOf
    simp
  have hsz : ∀ c ∈ LS, c.name.size ≤ 140737488355328 ∧ c.value.size ≤ 140737488355328 := by
    intro c hc
    have hm : c.crd ∈ cardsOf l k := by rw [← unhideR HL]; exact List.mem_map.2 ⟨c, hc, rfl⟩
    unfold cardsOf at hm
    obtain ⟨j, _, hj⟩ := List.mem_map.1 hm
    have e1 : c.name.size = (cardAt l j).name.length := by rw [hj]; exact Array.length_toList.symm
    have e2 : c.value.size = (cardAt l j).value.length := by rw [hj]; exact Array.length_toList.symm
    have b1 := trim_len ((l.drop (80 * j)).take 8)
    have b2 := trim_len ((l.drop (80 * j + 10)).take 70)
    rw [List.length_take] at b1 b2
    rw [e1, e2]
    unfold cardAt
    constructor
    · show (trimV ((l.drop (80 * j)).take 8)).length ≤ _
      omega
    · show (trimV ((l.drop (80 * j + 10)).take 70)).length ≤ _
      omega
  obtain ⟨ada, capa, ea, hca⟩ := (unhideR HO).came hsz
  subst ea
  have HCa := hideR hca
  have HSz := hideR hsz
  clear hca hsz
  rw [hlenL]
  by_cases hk6 : k < 6
  case' pos =>
    have t6 : decide ((k : Int) < 6) = true := decide_eq_true (by omega)
    have HF := hideR (unhideR HN _ 8 (below_go (unhideR HK) (unhideR HW)) (by
      unfold readV
      rw [if_neg q0, if_pos (.inr (by rw [unhideR HST]; exact hk6))]) (keepB (unhideR HG) (unhideR HW)))
    go_wp2
    simp [bodyPost, results, Tryz.results14, go_sem]
    exact unhideR HF
  have t6 : decide ((k : Int) < 6) = false := decide_eq_false (by omega)
  obtain ⟨ga, oa, eg, hga, x3a, x3, _, s3⟩ := (unhideR HCa).at_ 3 (by omega)
  obtain ⟨ga', oa', eg', _, x4a, x4, _, s4⟩ := (unhideR HCa).at_ 4 (by omega)
  subst eg
  cases eg'
  have HC3 : HeldR (∀ v, Below wc.heap.size wc v → v.cell? ⟨ga, oa + 7, none⟩ = some (.string (LS.getD 3 crdS0).value)) := fun v hv => (hv.cell (p := ⟨ga, oa + 7, none⟩) hga).trans x3
  have HC4 : HeldR (∀ v, Below wc.heap.size wc v → v.cell? ⟨ga, oa + 9, none⟩ = some (.string (LS.getD 4 crdS0).value)) := fun v hv => (hv.cell (p := ⟨ga, oa + 9, none⟩) hga).trans x4
  have hn3 := fun u => number_any (LS.getD 3 crdS0).value s3 u
  have hn4 := fun u => number_any (LS.getD 4 crdS0).value s4 u
  have hv3 : (LS.getD 3 crdS0).value.data.toList = (cardAt l 3).value := card_val (unhideR HL) (by omega)
  have hv4 : (LS.getD 4 crdS0).value.data.toList = (cardAt l 4).value := card_val (unhideR HL) (by omega)
  rw [hv3] at hn3
  rw [hv4] at hn4
  generalize hWn : numV (cardAt l 3).value 0 = Wn at *
  generalize hHn : numV (cardAt l 4).value 0 = Hn at *
  generalize (LS.getD 3 crdS0).value = V3 at *
  generalize (LS.getD 4 crdS0).value = V4 at *
  have HWn := hideR hWn
  have HHn := hideR hHn
  clear x3a x3 x4a x4 s3 s4 hv3 hv4 hWn hHn
  have hk3 : (3 : Int) < (k : Nat) := by omega
  have hk4 : (4 : Int) < (k : Nat) := by omega
  go_wp2_with fail
  refine wp_region_made 0 #[true, true, true, true, true, true, true, true, true, true, true, true, false] [.lets (· = .slice (some ⟨ga, oa, none⟩) k capa),
    .lets (· = .pointer (some ⟨ga, oa + 6, none⟩)),
    .lets (· = .pointer (some ⟨ga, oa + 7, none⟩)),
    .lets (· = .string V3),
    .lets (· = .int .i64 (Wn : Nat)),
    .lets (· = .slice (some ⟨ga, oa, none⟩) k capa),
    .lets (· = .pointer (some ⟨ga, oa + 8, none⟩)),
    .lets (· = .pointer (some ⟨ga, oa + 9, none⟩)),
    .lets (· = .string V4),
    .lets (· = .int .i64 (Hn : Nat)),
    .lets (· = .agg #[.int .i64 (Wn : Nat), .int .i64 (Hn : Nat), .slice none 0 0]),
    .new (.cells #[.int .i64 (Wn : Nat), .int .i64 (Hn : Nat), .slice none 0 0] 33)] [] [] (by kernel_rfl) (by kernel_rfl) rfl ?kinds (by kernel_rfl) (by kernel_rfl) (by kernel_rfl) ?_
  case kinds =>
    constructor
    · intro i h
      rcases i with _ | _ | _ | _ | _ | _ | _ | _ | _ | _ | _ | _ | i <;> simp [Kx.isMade] at h
    · intro i h
      rcases i with _ | _ | _ | _ | _ | _ | _ | _ | _ | _ | _ | _ | i <;> simp [Kx.isUse] at h
  refine lexX_step (fun K hK => ⟨by kernel_rfl, ⟨_, rfl⟩, fun v hv => ?_, fun v hv => ?_⟩)
  · go_simp
    exact mUpon_b
  subst hv
  go_simp
  refine hK _ ?_
  clear hK K
  refine lexX_step (fun K hK => ⟨by kernel_rfl, ⟨_, rfl⟩, fun v hv => ?_, fun v hv => ?_⟩)
  · go_simp
    exact mUpon_b
  subst hv
  go_simp
  refine hK _ ?_
  clear hK K
  refine lexX_step (fun K hK => ⟨by kernel_rfl, ⟨_, rfl⟩, fun v hv => ?_, fun v hv => ?_⟩)
  · go_simp
    exact mUpon_b
  subst hv
  go_simp
  refine hK _ ?_
  clear hK K
  refine lexX_step (fun K hK => ⟨by kernel_rfl, ⟨_, rfl⟩, fun v hv => ?_, fun v hv => ?_⟩)
  · have x := unhideR HC3 _ hv
    go_simp
    exact mUpon_b
  subst hv
  go_simp
  refine hK _ ?_
  clear hK K
  refine lexX_step (fun K hK => ⟨by kernel_rfl, ⟨_, rfl⟩, fun v hv => ?_, fun v hv => ?_⟩)
  · go_simp
    refine (hn3 _).mono ?_
    rintro e w9 ⟨rfl, rfl⟩
    exact ⟨_, rfl, rfl, Below.refl _ _⟩
  subst hv
  go_simp
  refine hK _ ?_
  clear hK K
  refine lexX_step (fun K hK => ⟨by kernel_rfl, ⟨_, rfl⟩, fun v hv => ?_, fun v hv => ?_⟩)
  · go_simp
    exact mUpon_b
  subst hv
  go_simp
  refine hK _ ?_
  clear hK K
  refine lexX_step (fun K hK => ⟨by kernel_rfl, ⟨_, rfl⟩, fun v hv => ?_, fun v hv => ?_⟩)
  · go_simp
    exact mUpon_b
  subst hv
  go_simp
  refine hK _ ?_
  clear hK K
  refine lexX_step (fun K hK => ⟨by kernel_rfl, ⟨_, rfl⟩, fun v hv => ?_, fun v hv => ?_⟩)
  · go_simp
    exact mUpon_b
  subst hv
  go_simp
  refine hK _ ?_
  clear hK K
  refine lexX_step (fun K hK => ⟨by kernel_rfl, ⟨_, rfl⟩, fun v hv => ?_, fun v hv => ?_⟩)
  · have x := unhideR HC4 _ hv
    go_simp
    exact mUpon_b
  subst hv
  go_simp
  refine hK _ ?_
  clear hK K
  refine lexX_step (fun K hK => ⟨by kernel_rfl, ⟨_, rfl⟩, fun v hv => ?_, fun v hv => ?_⟩)
  · go_simp
    refine (hn4 _).mono ?_
    rintro e w9 ⟨rfl, rfl⟩
    exact ⟨_, rfl, rfl, Below.refl _ _⟩
  subst hv
  go_simp
  refine hK _ ?_
  clear hK K
  refine lexX_step (fun K hK => ⟨by kernel_rfl, ⟨_, rfl⟩, fun v hv => ?_, fun v hv => ?_⟩)
  · go_simp
    exact mUpon_b
  subst hv
  go_simp
  refine hK _ ?_
  clear hK K
  refine lexX_new (fin0.some _) (fun b20 fb20 K hK => ⟨by kernel_rfl, fun v => ?_, ?_⟩)
  · go_simp
    first
      | exact ⟨rfl, rfl⟩
      | rfl
  unfold ptr
  go_simp
  refine hK _ ?_
  clear hK K
  refine lexX_end (fun v5 hv => ?_)
  have hz0 : v5.heap[b20]? = some (.cells #[.int .i64 (Wn : Nat), .int .i64 (Hn : Nat), .slice none 0 0] 33 (0, 0)) := hv.held b20 _ (by unfold Hd.put; rw [if_pos rfl])
  have hge := fb20.ge
  refine wpAny_step (i := 12) (by kernel_rfl) rfl (by kernel_rfl) (fun K hK => ?_)
  unfold Oper.wp
  go_simp
  refine hK _ _ ?_
  clear hK K
  refine wpAny_end (by kernel_rfl) ?_
  have K5 := hideR hv.low
  have HZ := hideR hz0
  have HGe := hideR hge
  have HBc : HeldR (BAt wc ab l) := hideR ((unhideR HB).below (unhideR HW))
  have HNv : HeldR (∀ v, Below wc.heap.size wc v → ∀ E, readV l = (E, pic0, []) → PicPost l w (.returned (.tuple #[.pointer (some ⟨w.heap.size, 0, none⟩), .slice none 0 0, .int .i64 E])) v) := hideR (fun v kv E he => unhideR HN v E (below_go (unhideR HK) (below_go (unhideR HW) kv)) he (keepB (unhideR HG) (below_go (unhideR HW) kv)))
  have HLow : HeldR (∀ v, Below wc.heap.size wc v → Below w.heap.size w v) := hideR (fun v kv => below_go (unhideR HK) (below_go (unhideR HW) kv))
  have hab : a ≤ 8480 := by have := unhideR HA; omega
  have wa : IntKind.i64.wrap ((a : Int) + 80) = (a : Int) + 80 := iwrap (by omega) (by omega)
  have hbk := blocks_any (a + 80) v5 (by omega)
  rw [show ((a + 80 : Nat) : Int) = (a : Int) + 80 from rfl] at hbk
  clear hv hz0 hge HC3 HC4 hn3 hn4 HN HK HW HG HB
  go_wp2_with fail
  refine hbk.mono ?_
  rintro e v6 ⟨rfl, rfl⟩
  have hDb : blocksV (a + 80) ≤ 12000 := by unfold blocksV; omega
  have HD0 : HeldR (blocksV (80 * stopV l 107 0 + 80) = blocksV (a + 80)) := hideR (by rw [unhideR HST, unhideR HA])
  obtain ⟨D, hD⟩ : ∃ D, blocksV (a + 80) = D := ⟨_, rfl⟩
  rw [hD] at hDb HD0 ⊢
  clear hD hbk wa
  have HSt : HeldR (¬ (106 < stopV l 107 0 ∨ stopV l 107 0 < 6)) := hideR (by rw [unhideR HST]; omega)
  have HBig : HeldR ((256 < Wn ∨ 256 < Hn ∨ l.length < D + 2 * Wn * Hn) → readV l = (8, pic0, [])) := hideR (fun q => by
    unfold readV
    rw [if_neg q0, if_neg (unhideR HSt), if_pos (by rw [unhideR HWn, unhideR HHn, unhideR HD0]; exact q)])
  have HRv : HeldR (¬ (256 < Wn ∨ 256 < Hn ∨ l.length < D + 2 * Wn * Hn) → readV l = if fileE (picOf l D Wn Hn) ((cardsOf l k).drop 6) ≠ 0 ∨ fileV (picOf l D Wn Hn) ((cardsOf l k).drop 6) ≠ l then (8, pic0, []) else (0, picOf l D Wn Hn, (cardsOf l k).drop 6)) := hideR (fun q => by
    conv => lhs; unfold readV
    rw [if_neg q0, if_neg (unhideR HSt), if_neg (by rw [unhideR HWn, unhideR HHn, unhideR HD0]; exact q), unhideR HWn, unhideR HHn, unhideR HD0, unhideR HST])
  obtain ⟨z0, z1, z2⟩ := pic_three (unhideR HZ)
  by_cases w1 : 256 < Wn
  · have tw : decide ((256 : Int) < (Wn : Nat)) = true := decide_eq_true (by omega)
    have HBad := hideR (unhideR HBig (.inl w1))
    clear HBig HRv
    go_wp2_with fail
    refine wp_region_lets [(· = .pointer (some ⟨b20, 0, none⟩)),
      (· = .pointer (some ⟨b20, 0, none⟩)),
      (· = .pointer (some ⟨b20, 0, none⟩)),
      (· = .int .i64 (Wn : Nat)),
      (· = .bool true),
      (· = .bool true),
      (· = undef),
      (· = undef),
      (· = undef),
      (· = undef),
      (· = undef),
      (· = .bool true),
      (· = .bool true),
      (· = undef),
      (· = undef),
      (· = undef),
      (· = undef),
      (· = undef),
      (· = undef),
      (· = undef),
      (· = undef),
      (· = undef),
      (· = undef),
      (· = undef),
      (· = undef),
      (· = undef),
      (· = undef),
      (· = undef),
      (· = .bool true)] (by kernel_rfl) (by kernel_rfl) ?_
    refine lexL_step (fun K hK => ⟨by kernel_rfl, ⟨_, rfl⟩, fun n => ?_, fun v hv => ?_⟩)
    · go_simp
      exact lUpon_one
    subst hv
    go_simp
    refine hK _ ?_
    clear hK K
    refine lexL_step (fun K hK => ⟨by kernel_rfl, ⟨_, rfl⟩, fun n => ?_, fun v hv => ?_⟩)
    · go_simp
      exact lUpon_one
    subst hv
    go_simp
    refine hK _ ?_
    clear hK K
    refine lexL_step (fun K hK => ⟨by kernel_rfl, ⟨_, rfl⟩, fun n => ?_, fun v hv => ?_⟩)
    · go_simp
      exact lUpon_one
    subst hv
    go_simp
    refine hK _ ?_
    clear hK K
    refine lexL_step (fun K hK => ⟨by kernel_rfl, ⟨_, rfl⟩, fun n => ?_, fun v hv => ?_⟩)
    · go_simp
      exact lUpon_one
    subst hv
    go_simp
    refine hK _ ?_
    clear hK K
    refine lexL_step (fun K hK => ⟨by kernel_rfl, ⟨_, rfl⟩, fun n => ?_, fun v hv => ?_⟩)
    · go_simp
      exact lUpon_one
    subst hv
    go_simp
    refine hK _ ?_
    clear hK K
    refine lexL_step (fun K hK => ⟨by kernel_rfl, ⟨_, rfl⟩, fun n => ?_, fun v hv => ?_⟩)
    · go_simp
      exact lUpon_one
    subst hv
    go_simp
    refine hK _ ?_
    clear hK K
    refine lexL_skip (fun K hK => ⟨by kernel_rfl, ?_⟩)
    go_simp
    refine hK _ ?_
    clear hK K
    refine lexL_skip (fun K hK => ⟨by kernel_rfl, ?_⟩)
    go_simp
    refine hK _ ?_
    clear hK K
    refine lexL_skip (fun K hK => ⟨by kernel_rfl, ?_⟩)
    go_simp
    refine hK _ ?_
    clear hK K
    refine lexL_skip (fun K hK => ⟨by kernel_rfl, ?_⟩)
    go_simp
    refine hK _ ?_
    clear hK K
    refine lexL_skip (fun K hK => ⟨by kernel_rfl, ?_⟩)
    go_simp
    refine hK _ ?_
    clear hK K
    refine lexL_step (fun K hK => ⟨by kernel_rfl, ⟨_, rfl⟩, fun n => ?_, fun v hv => ?_⟩)
    · go_simp
      exact lUpon_one
    subst hv
    go_simp
    refine hK _ ?_
    clear hK K
    refine lexL_step (fun K hK => ⟨by kernel_rfl, ⟨_, rfl⟩, fun n => ?_, fun v hv => ?_⟩)
    · go_simp
      exact lUpon_one
    subst hv
    go_simp
    refine hK _ ?_
    clear hK K
    refine lexL_skip (fun K hK => ⟨by kernel_rfl, ?_⟩)
    go_simp
    refine hK _ ?_
    clear hK K
    refine lexL_skip (fun K hK => ⟨by kernel_rfl, ?_⟩)
    go_simp
    refine hK _ ?_
    clear hK K
    refine lexL_skip (fun K hK => ⟨by kernel_rfl, ?_⟩)
    go_simp
    refine hK _ ?_
    clear hK K
    refine lexL_skip (fun K hK => ⟨by kernel_rfl, ?_⟩)
    go_simp
    refine hK _ ?_
    clear hK K
    refine lexL_skip (fun K hK => ⟨by kernel_rfl, ?_⟩)
    go_simp
    refine hK _ ?_
    clear hK K
    refine lexL_skip (fun K hK => ⟨by kernel_rfl, ?_⟩)
    go_simp
    refine hK _ ?_
    clear hK K
    refine lexL_skip (fun K hK => ⟨by kernel_rfl, ?_⟩)
    go_simp
    refine hK _ ?_
    clear hK K
    refine lexL_skip (fun K hK => ⟨by kernel_rfl, ?_⟩)
    go_simp
    refine hK _ ?_
    clear hK K
    refine lexL_skip (fun K hK => ⟨by kernel_rfl, ?_⟩)
    go_simp
    refine hK _ ?_
    clear hK K
    refine lexL_skip (fun K hK => ⟨by kernel_rfl, ?_⟩)
    go_simp
    refine hK _ ?_
    clear hK K
    refine lexL_skip (fun K hK => ⟨by kernel_rfl, ?_⟩)
    go_simp
    refine hK _ ?_
    clear hK K
    refine lexL_skip (fun K hK => ⟨by kernel_rfl, ?_⟩)
    go_simp
    refine hK _ ?_
    clear hK K
    refine lexL_skip (fun K hK => ⟨by kernel_rfl, ?_⟩)
    go_simp
    refine hK _ ?_
    clear hK K
    refine lexL_skip (fun K hK => ⟨by kernel_rfl, ?_⟩)
    go_simp
    refine hK _ ?_
    clear hK K
    refine lexL_skip (fun K hK => ⟨by kernel_rfl, ?_⟩)
    go_simp
    refine hK _ ?_
    clear hK K
    refine lexL_step (fun K hK => ⟨by kernel_rfl, ⟨_, rfl⟩, fun n => ?_, fun v hv => ?_⟩)
    · go_simp
      exact lUpon_one
    subst hv
    go_simp
    refine hK _ ?_
    clear hK K
    refine lexL_end ?_
    intro n9
    have HF := hideR (unhideR HNv _ (below_go (unhideR K5) (drawn_below v6 n9)) 8 (unhideR HBad))
    go_wp2
    simp [bodyPost, results, Tryz.results14, go_sem]
    exact unhideR HF
  have tw1 : decide ((256 : Int) < (Wn : Nat)) = false := decide_eq_false (by omega)
  by_cases w2 : 256 < Hn
  · have tw : decide ((256 : Int) < (Hn : Nat)) = true := decide_eq_true (by omega)
    have HBad := hideR (unhideR HBig (.inr (.inl w2)))
    clear HBig HRv
    go_wp2_with fail
    refine wp_region_lets [(· = .pointer (some ⟨b20, 0, none⟩)),
      (· = .pointer (some ⟨b20, 0, none⟩)),
      (· = .pointer (some ⟨b20, 0, none⟩)),
      (· = .int .i64 (Wn : Nat)),
      (· = .bool false),
      (· = .bool false),
      (· = .pointer (some ⟨b20, 0, none⟩)),
      (· = .pointer (some ⟨b20, 0, none⟩)),
      (· = .pointer (some ⟨b20, 1, none⟩)),
      (· = .int .i64 (Hn : Nat)),
      (· = .bool true),
      (· = .bool true),
      (· = .bool true),
      (· = undef),
      (· = undef),
      (· = undef),
      (· = undef),
      (· = undef),
      (· = undef),
      (· = undef),
      (· = undef),
      (· = undef),
      (· = undef),
      (· = undef),
      (· = undef),
      (· = undef),
      (· = undef),
      (· = undef),
      (· = .bool true)] (by kernel_rfl) (by kernel_rfl) ?_
    refine lexL_step (fun K hK => ⟨by kernel_rfl, ⟨_, rfl⟩, fun n => ?_, fun v hv => ?_⟩)
    · go_simp
      exact lUpon_one
    subst hv
    go_simp
    refine hK _ ?_
    clear hK K
    refine lexL_step (fun K hK => ⟨by kernel_rfl, ⟨_, rfl⟩, fun n => ?_, fun v hv => ?_⟩)
    · go_simp
      exact lUpon_one
    subst hv
    go_simp
    refine hK _ ?_
    clear hK K
    refine lexL_step (fun K hK => ⟨by kernel_rfl, ⟨_, rfl⟩, fun n => ?_, fun v hv => ?_⟩)
    · go_simp
      exact lUpon_one
    subst hv
    go_simp
    refine hK _ ?_
    clear hK K
    refine lexL_step (fun K hK => ⟨by kernel_rfl, ⟨_, rfl⟩, fun n => ?_, fun v hv => ?_⟩)
    · go_simp
      exact lUpon_one
    subst hv
    go_simp
    refine hK _ ?_
    clear hK K
    refine lexL_step (fun K hK => ⟨by kernel_rfl, ⟨_, rfl⟩, fun n => ?_, fun v hv => ?_⟩)
    · go_simp
      exact lUpon_one
    subst hv
    go_simp
    refine hK _ ?_
    clear hK K
    refine lexL_step (fun K hK => ⟨by kernel_rfl, ⟨_, rfl⟩, fun n => ?_, fun v hv => ?_⟩)
    · go_simp
      exact lUpon_one
    subst hv
    go_simp
    refine hK _ ?_
    clear hK K
    refine lexL_step (fun K hK => ⟨by kernel_rfl, ⟨_, rfl⟩, fun n => ?_, fun v hv => ?_⟩)
    · go_simp
      exact lUpon_one
    subst hv
    go_simp
    refine hK _ ?_
    clear hK K
    refine lexL_step (fun K hK => ⟨by kernel_rfl, ⟨_, rfl⟩, fun n => ?_, fun v hv => ?_⟩)
    · go_simp
      exact lUpon_one
    subst hv
    go_simp
    refine hK _ ?_
    clear hK K
    refine lexL_step (fun K hK => ⟨by kernel_rfl, ⟨_, rfl⟩, fun n => ?_, fun v hv => ?_⟩)
    · go_simp
      exact lUpon_one
    subst hv
    go_simp
    refine hK _ ?_
    clear hK K
    refine lexL_step (fun K hK => ⟨by kernel_rfl, ⟨_, rfl⟩, fun n => ?_, fun v hv => ?_⟩)
    · go_simp
      exact lUpon_one
    subst hv
    go_simp
    refine hK _ ?_
    clear hK K
    refine lexL_step (fun K hK => ⟨by kernel_rfl, ⟨_, rfl⟩, fun n => ?_, fun v hv => ?_⟩)
    · go_simp
      exact lUpon_one
    subst hv
    go_simp
    refine hK _ ?_
    clear hK K
    refine lexL_step (fun K hK => ⟨by kernel_rfl, ⟨_, rfl⟩, fun n => ?_, fun v hv => ?_⟩)
    · go_simp
      exact lUpon_one
    subst hv
    go_simp
    refine hK _ ?_
    clear hK K
    refine lexL_step (fun K hK => ⟨by kernel_rfl, ⟨_, rfl⟩, fun n => ?_, fun v hv => ?_⟩)
    · go_simp
      exact lUpon_one
    subst hv
    go_simp
    refine hK _ ?_
    clear hK K
    refine lexL_skip (fun K hK => ⟨by kernel_rfl, ?_⟩)
    go_simp
    refine hK _ ?_
    clear hK K
    refine lexL_skip (fun K hK => ⟨by kernel_rfl, ?_⟩)
    go_simp
    refine hK _ ?_
    clear hK K
    refine lexL_skip (fun K hK => ⟨by kernel_rfl, ?_⟩)
    go_simp
    refine hK _ ?_
    clear hK K
    refine lexL_skip (fun K hK => ⟨by kernel_rfl, ?_⟩)
    go_simp
    refine hK _ ?_
    clear hK K
    refine lexL_skip (fun K hK => ⟨by kernel_rfl, ?_⟩)
    go_simp
    refine hK _ ?_
    clear hK K
    refine lexL_skip (fun K hK => ⟨by kernel_rfl, ?_⟩)
    go_simp
    refine hK _ ?_
    clear hK K
    refine lexL_skip (fun K hK => ⟨by kernel_rfl, ?_⟩)
    go_simp
    refine hK _ ?_
    clear hK K
    refine lexL_skip (fun K hK => ⟨by kernel_rfl, ?_⟩)
    go_simp
    refine hK _ ?_
    clear hK K
    refine lexL_skip (fun K hK => ⟨by kernel_rfl, ?_⟩)
    go_simp
    refine hK _ ?_
    clear hK K
    refine lexL_skip (fun K hK => ⟨by kernel_rfl, ?_⟩)
    go_simp
    refine hK _ ?_
    clear hK K
    refine lexL_skip (fun K hK => ⟨by kernel_rfl, ?_⟩)
    go_simp
    refine hK _ ?_
    clear hK K
    refine lexL_skip (fun K hK => ⟨by kernel_rfl, ?_⟩)
    go_simp
    refine hK _ ?_
    clear hK K
    refine lexL_skip (fun K hK => ⟨by kernel_rfl, ?_⟩)
    go_simp
    refine hK _ ?_
    clear hK K
    refine lexL_skip (fun K hK => ⟨by kernel_rfl, ?_⟩)
    go_simp
    refine hK _ ?_
    clear hK K
    refine lexL_skip (fun K hK => ⟨by kernel_rfl, ?_⟩)
    go_simp
    refine hK _ ?_
    clear hK K
    refine lexL_step (fun K hK => ⟨by kernel_rfl, ⟨_, rfl⟩, fun n => ?_, fun v hv => ?_⟩)
    · go_simp
      exact lUpon_one
    subst hv
    go_simp
    refine hK _ ?_
    clear hK K
    refine lexL_end ?_
    intro n9
    have HF := hideR (unhideR HNv _ (below_go (unhideR K5) (drawn_below v6 n9)) 8 (unhideR HBad))
    go_wp2
    simp [bodyPost, results, Tryz.results14, go_sem]
    exact unhideR HF
  have tw2 : decide ((256 : Int) < (Hn : Nat)) = false := decide_eq_false (by omega)
  have hN65 : Wn * Hn ≤ 65536 := Nat.mul_le_mul (show Wn ≤ 256 by omega) (show Hn ≤ 256 by omega)
  have e2n : 2 * Wn * Hn = 2 * (Wn * Hn) := Nat.mul_assoc 2 Wn Hn
  obtain ⟨N, hN⟩ : ∃ N, Wn * Hn = N := ⟨_, rfl⟩
  obtain ⟨E1, hE1⟩ : ∃ E1, 2 * Wn = E1 := ⟨_, rfl⟩
  obtain ⟨E2, hE2⟩ : ∃ E2, 2 * Wn * Hn = E2 := ⟨_, rfl⟩
  obtain ⟨E3, hE3⟩ : ∃ E3, D + E2 = E3 := ⟨_, rfl⟩
  have hw1 : IntKind.i64.wrap (2 * (Wn : Int)) = (E1 : Nat) := by rw [iwrap (by omega) (by omega)]; omega
  have hw2 : IntKind.i64.wrap ((E1 : Int) * (Hn : Int)) = (E2 : Nat) := by
    have e : (E1 : Int) * (Hn : Int) = ((E2 : Nat) : Int) := by rw [← hE2, ← hE1]; simp only [Int.natCast_mul]
    rw [e]
    exact iwrap (by omega) (by omega)
  have hw3 : IntKind.i64.wrap ((D : Int) + (E2 : Int)) = (E3 : Nat) := by rw [iwrap (by omega) (by omega)]; omega
  have hwm : IntKind.i64.wrap ((Wn : Int) * (Hn : Int)) = (N : Nat) := by
    have e : (Wn : Int) * (Hn : Int) = ((N : Nat) : Int) := by rw [← hN, Int.natCast_mul]
    rw [e]
    exact iwrap (by omega) (by omega)
  rw [hN] at hN65
  rw [hE2] at HBig HRv
  have HNe := hideR hN
  have HE2 := hideR (show E2 = 2 * N by omega)
  obtain ⟨q, hq⟩ : ∃ q, decide (l.length < E3) = q := ⟨_, rfl⟩
  have hq' : decide ((l.length : Int) < (E3 : Int)) = q := by rw [← hq]; exact decide_eq_decide.2 (by omega)
  have HQ := hideR hq
  clear hE1 e2n
  go_wp2_with fail
  refine wp_region_lets [(· = .pointer (some ⟨b20, 0, none⟩)),
    (· = .pointer (some ⟨b20, 0, none⟩)),
    (· = .pointer (some ⟨b20, 0, none⟩)),
    (· = .int .i64 (Wn : Nat)),
    (· = .bool false),
    (· = .bool false),
    (· = .pointer (some ⟨b20, 0, none⟩)),
    (· = .pointer (some ⟨b20, 0, none⟩)),
    (· = .pointer (some ⟨b20, 1, none⟩)),
    (· = .int .i64 (Hn : Nat)),
    (· = .bool false),
    (· = .bool false),
    (· = .bool false),
    (· = .int .i64 (D : Nat)),
    (· = .pointer (some ⟨b20, 0, none⟩)),
    (· = .pointer (some ⟨b20, 0, none⟩)),
    (· = .pointer (some ⟨b20, 0, none⟩)),
    (· = .int .i64 (Wn : Nat)),
    (· = .int .i64 (E1 : Nat)),
    (· = .pointer (some ⟨b20, 0, none⟩)),
    (· = .pointer (some ⟨b20, 0, none⟩)),
    (· = .pointer (some ⟨b20, 1, none⟩)),
    (· = .int .i64 (Hn : Nat)),
    (· = .int .i64 (E2 : Nat)),
    (· = .int .i64 (E3 : Nat)),
    (· = .slice ab l.length cb),
    (· = .int .i64 (l.length : Nat)),
    (· = .bool q),
    (· = .bool q)] (by kernel_rfl) (by kernel_rfl) ?_
  refine lexL_step (fun K hK => ⟨by kernel_rfl, ⟨_, rfl⟩, fun n => ?_, fun v hv => ?_⟩)
  · go_simp
    exact lUpon_one
  subst hv
  go_simp
  refine hK _ ?_
  clear hK K
  refine lexL_step (fun K hK => ⟨by kernel_rfl, ⟨_, rfl⟩, fun n => ?_, fun v hv => ?_⟩)
  · go_simp
    exact lUpon_one
  subst hv
  go_simp
  refine hK _ ?_
  clear hK K
  refine lexL_step (fun K hK => ⟨by kernel_rfl, ⟨_, rfl⟩, fun n => ?_, fun v hv => ?_⟩)
  · go_simp
    exact lUpon_one
  subst hv
  go_simp
  refine hK _ ?_
  clear hK K
  refine lexL_step (fun K hK => ⟨by kernel_rfl, ⟨_, rfl⟩, fun n => ?_, fun v hv => ?_⟩)
  · go_simp
    exact lUpon_one
  subst hv
  go_simp
  refine hK _ ?_
  clear hK K
  refine lexL_step (fun K hK => ⟨by kernel_rfl, ⟨_, rfl⟩, fun n => ?_, fun v hv => ?_⟩)
  · go_simp
    exact lUpon_one
  subst hv
  go_simp
  refine hK _ ?_
  clear hK K
  refine lexL_step (fun K hK => ⟨by kernel_rfl, ⟨_, rfl⟩, fun n => ?_, fun v hv => ?_⟩)
  · go_simp
    exact lUpon_one
  subst hv
  go_simp
  refine hK _ ?_
  clear hK K
  refine lexL_step (fun K hK => ⟨by kernel_rfl, ⟨_, rfl⟩, fun n => ?_, fun v hv => ?_⟩)
  · go_simp
    exact lUpon_one
  subst hv
  go_simp
  refine hK _ ?_
  clear hK K
  refine lexL_step (fun K hK => ⟨by kernel_rfl, ⟨_, rfl⟩, fun n => ?_, fun v hv => ?_⟩)
  · go_simp
    exact lUpon_one
  subst hv
  go_simp
  refine hK _ ?_
  clear hK K
  refine lexL_step (fun K hK => ⟨by kernel_rfl, ⟨_, rfl⟩, fun n => ?_, fun v hv => ?_⟩)
  · go_simp
    exact lUpon_one
  subst hv
  go_simp
  refine hK _ ?_
  clear hK K
  refine lexL_step (fun K hK => ⟨by kernel_rfl, ⟨_, rfl⟩, fun n => ?_, fun v hv => ?_⟩)
  · go_simp
    exact lUpon_one
  subst hv
  go_simp
  refine hK _ ?_
  clear hK K
  refine lexL_step (fun K hK => ⟨by kernel_rfl, ⟨_, rfl⟩, fun n => ?_, fun v hv => ?_⟩)
  · go_simp
    exact lUpon_one
  subst hv
  go_simp
  refine hK _ ?_
  clear hK K
  refine lexL_step (fun K hK => ⟨by kernel_rfl, ⟨_, rfl⟩, fun n => ?_, fun v hv => ?_⟩)
  · go_simp
    exact lUpon_one
  subst hv
  go_simp
  refine hK _ ?_
  clear hK K
  refine lexL_step (fun K hK => ⟨by kernel_rfl, ⟨_, rfl⟩, fun n => ?_, fun v hv => ?_⟩)
  · go_simp
    exact lUpon_one
  subst hv
  go_simp
  refine hK _ ?_
  clear hK K
  refine lexL_step (fun K hK => ⟨by kernel_rfl, ⟨_, rfl⟩, fun n => ?_, fun v hv => ?_⟩)
  · go_simp
    exact lUpon_one
  subst hv
  go_simp
  refine hK _ ?_
  clear hK K
  refine lexL_step (fun K hK => ⟨by kernel_rfl, ⟨_, rfl⟩, fun n => ?_, fun v hv => ?_⟩)
  · go_simp
    exact lUpon_one
  subst hv
  go_simp
  refine hK _ ?_
  clear hK K
  refine lexL_step (fun K hK => ⟨by kernel_rfl, ⟨_, rfl⟩, fun n => ?_, fun v hv => ?_⟩)
  · go_simp
    exact lUpon_one
  subst hv
  go_simp
  refine hK _ ?_
  clear hK K
  refine lexL_step (fun K hK => ⟨by kernel_rfl, ⟨_, rfl⟩, fun n => ?_, fun v hv => ?_⟩)
  · go_simp
    exact lUpon_one
  subst hv
  go_simp
  refine hK _ ?_
  clear hK K
  refine lexL_step (fun K hK => ⟨by kernel_rfl, ⟨_, rfl⟩, fun n => ?_, fun v hv => ?_⟩)
  · go_simp
    exact lUpon_one
  subst hv
  go_simp
  refine hK _ ?_
  clear hK K
  refine lexL_step (fun K hK => ⟨by kernel_rfl, ⟨_, rfl⟩, fun n => ?_, fun v hv => ?_⟩)
  · go_simp
    exact lUpon_one
  subst hv
  go_simp
  refine hK _ ?_
  clear hK K
  refine lexL_step (fun K hK => ⟨by kernel_rfl, ⟨_, rfl⟩, fun n => ?_, fun v hv => ?_⟩)
  · go_simp
    exact lUpon_one
  subst hv
  go_simp
  refine hK _ ?_
  clear hK K
  refine lexL_step (fun K hK => ⟨by kernel_rfl, ⟨_, rfl⟩, fun n => ?_, fun v hv => ?_⟩)
  · go_simp
    exact lUpon_one
  subst hv
  go_simp
  refine hK _ ?_
  clear hK K
  refine lexL_step (fun K hK => ⟨by kernel_rfl, ⟨_, rfl⟩, fun n => ?_, fun v hv => ?_⟩)
  · go_simp
    exact lUpon_one
  subst hv
  go_simp
  refine hK _ ?_
  clear hK K
  refine lexL_step (fun K hK => ⟨by kernel_rfl, ⟨_, rfl⟩, fun n => ?_, fun v hv => ?_⟩)
  · go_simp
    exact lUpon_one
  subst hv
  go_simp
  refine hK _ ?_
  clear hK K
  refine lexL_step (fun K hK => ⟨by kernel_rfl, ⟨_, rfl⟩, fun n => ?_, fun v hv => ?_⟩)
  · go_simp
    exact lUpon_one
  subst hv
  go_simp
  refine hK _ ?_
  clear hK K
  refine lexL_step (fun K hK => ⟨by kernel_rfl, ⟨_, rfl⟩, fun n => ?_, fun v hv => ?_⟩)
  · go_simp
    exact lUpon_one
  subst hv
  go_simp
  refine hK _ ?_
  clear hK K
  refine lexL_step (fun K hK => ⟨by kernel_rfl, ⟨_, rfl⟩, fun n => ?_, fun v hv => ?_⟩)
  · go_simp
    exact lUpon_one
  subst hv
  go_simp
  refine hK _ ?_
  clear hK K
  refine lexL_step (fun K hK => ⟨by kernel_rfl, ⟨_, rfl⟩, fun n => ?_, fun v hv => ?_⟩)
  · go_simp
    exact lUpon_one
  subst hv
  go_simp
  refine hK _ ?_
  clear hK K
  refine lexL_step (fun K hK => ⟨by kernel_rfl, ⟨_, rfl⟩, fun n => ?_, fun v hv => ?_⟩)
  · go_simp
    exact lUpon_one
  subst hv
  go_simp
  refine hK _ ?_
  clear hK K
  refine lexL_step (fun K hK => ⟨by kernel_rfl, ⟨_, rfl⟩, fun n => ?_, fun v hv => ?_⟩)
  · go_simp
    exact lUpon_one
  subst hv
  go_simp
  refine hK _ ?_
  clear hK K
  refine lexL_end ?_
  intro n9
  have K7 := hideR (below_go (unhideR K5) (drawn_below v6 n9))
  replace HZ := hideR (keepB (unhideR HZ) (drawn_below v6 n9))
  generalize v6.drewN n9 = v7 at *
  clear z0 z1 z2 tw1 tw2 hw1 hw2 hw3 K5
  cases q
  case true =>
    have HBad := hideR (unhideR HBig (.inr (.inr (by have := of_decide_eq_true (unhideR HQ); omega))))
    clear HBig HRv hq hq'
    have HF := hideR (unhideR HNv _ (unhideR K7) 8 (unhideR HBad))
    go_wp2
    simp [bodyPost, results, Tryz.results14, go_sem]
    exact unhideR HF
  have hfit : D + E2 ≤ l.length := by have := of_decide_eq_false (unhideR HQ); omega
  have HRv2 := hideR (unhideR HRv (by omega))
  clear HBig HRv hq hq' hE2 hE3
  go_wp2_with fail
  refine wp_region_made 2 #[true, true, true, true, true, true, true, true, true, true, true, false, false, false] [.lets (· = .pointer (some ⟨b20, 0, none⟩)),
    .lets (· = .pointer (some ⟨b20, 0, none⟩)),
    .lets (· = .pointer (some ⟨b20, 0, none⟩)),
    .lets (· = .pointer (some ⟨b20, 0, none⟩)),
    .lets (· = .int .i64 (Wn : Nat)),
    .lets (· = .pointer (some ⟨b20, 0, none⟩)),
    .lets (· = .pointer (some ⟨b20, 0, none⟩)),
    .lets (· = .pointer (some ⟨b20, 1, none⟩)),
    .lets (· = .int .i64 (Hn : Nat)),
    .lets (· = .int .i64 (N : Nat)),
    .made (SlZR N) (OwnZR wc.heap.size N)] [10] [] (by kernel_rfl) (by kernel_rfl) rfl ?kinds (by kernel_rfl) (by kernel_rfl) (by kernel_rfl) ?_
  case kinds =>
    constructor
    · intro i h
      rcases i with _ | _ | _ | _ | _ | _ | _ | _ | _ | _ | _ | i <;> simp [Kx.isMade] at h ⊢
    · intro i h
      rcases i with _ | _ | _ | _ | _ | _ | _ | _ | _ | _ | _ | i <;> simp [Kx.isUse] at h
  refine lexX_step (fun K hK => ⟨by kernel_rfl, ⟨_, rfl⟩, fun v hv => ?_, fun v hv => ?_⟩)
  · go_simp
    exact mUpon_b
  subst hv
  go_simp
  refine hK _ ?_
  clear hK K
  refine lexX_step (fun K hK => ⟨by kernel_rfl, ⟨_, rfl⟩, fun v hv => ?_, fun v hv => ?_⟩)
  · go_simp
    exact mUpon_b
  subst hv
  go_simp
  refine hK _ ?_
  clear hK K
  refine lexX_step (fun K hK => ⟨by kernel_rfl, ⟨_, rfl⟩, fun v hv => ?_, fun v hv => ?_⟩)
  · go_simp
    exact mUpon_b
  subst hv
  go_simp
  refine hK _ ?_
  clear hK K
  refine lexX_step (fun K hK => ⟨by kernel_rfl, ⟨_, rfl⟩, fun v hv => ?_, fun v hv => ?_⟩)
  · go_simp
    exact mUpon_b
  subst hv
  go_simp
  refine hK _ ?_
  clear hK K
  refine lexX_step (fun K hK => ⟨by kernel_rfl, ⟨_, rfl⟩, fun v hv => ?_, fun v hv => ?_⟩)
  · obtain ⟨z0, z1, z2⟩ := pic_three (keepB (unhideR HZ) hv)
    go_simp
    exact mUpon_b
  subst hv
  go_simp
  refine hK _ ?_
  clear hK K
  refine lexX_step (fun K hK => ⟨by kernel_rfl, ⟨_, rfl⟩, fun v hv => ?_, fun v hv => ?_⟩)
  · go_simp
    exact mUpon_b
  subst hv
  go_simp
  refine hK _ ?_
  clear hK K
  refine lexX_step (fun K hK => ⟨by kernel_rfl, ⟨_, rfl⟩, fun v hv => ?_, fun v hv => ?_⟩)
  · go_simp
    exact mUpon_b
  subst hv
  go_simp
  refine hK _ ?_
  clear hK K
  refine lexX_step (fun K hK => ⟨by kernel_rfl, ⟨_, rfl⟩, fun v hv => ?_, fun v hv => ?_⟩)
  · go_simp
    exact mUpon_b
  subst hv
  go_simp
  refine hK _ ?_
  clear hK K
  refine lexX_step (fun K hK => ⟨by kernel_rfl, ⟨_, rfl⟩, fun v hv => ?_, fun v hv => ?_⟩)
  · obtain ⟨z0, z1, z2⟩ := pic_three (keepB (unhideR HZ) hv)
    go_simp
    exact mUpon_b
  subst hv
  go_simp
  refine hK _ ?_
  clear hK K
  refine lexX_step (fun K hK => ⟨by kernel_rfl, ⟨_, rfl⟩, fun v hv => ?_, fun v hv => ?_⟩)
  · go_simp
    exact mUpon_b
  subst hv
  go_simp
  refine hK _ ?_
  clear hK K
  refine lexX_made ⟨by kernel_rfl, ⟨_, 0, rfl⟩, ownZR_stb _ _, fun v hv => ?_, ?_⟩
  · obtain ⟨w9, hmk, hoz, k9⟩ := make_zeroR (w := v) wc.heap.size (Nat.le_trans (unhideR K7).size hv.size) hN65
    go_simp
    exact ⟨k9, ⟨_, rfl⟩, hoz⟩
  rintro _ ⟨gz, rfl⟩ K hK
  go_simp
  refine hK _ ?_
  clear hK K
  refine lexX_end (fun v8 hv => ?_)
  have HO8 := hideR hv.fact.2
  have K8 := hideR (below_go (unhideR K7) hv.low)
  replace HZ := hideR (keepB (unhideR HZ) hv.low)
  clear hv
  obtain ⟨z0, z1, z2⟩ := pic_three (unhideR HZ)
  obtain ⟨f0, f1, f2⟩ := pic_open (unhideR HZ)
  refine wpAny_step (i := 11) (by kernel_rfl) rfl (by kernel_rfl) (fun K hK => ?_)
  unfold Oper.wp
  go_simp
  refine hK _ _ ?_
  clear hK K
  refine wpAny_step (i := 12) (by kernel_rfl) rfl (by kernel_rfl) (fun K hK => ?_)
  unfold Oper.wp
  go_simp
  refine hK _ _ ?_
  clear hK K
  refine wpAny_step (i := 13) (by kernel_rfl) rfl (by kernel_rfl) (fun K hK => ?_)
  unfold Oper.wp
  go_simp
  refine hK _ _ ?_
  clear hK K
  refine wpAny_end (by kernel_rfl) ?_
  have HN9 : HeldR (NOwn (v8.setCell ⟨b20, 2, none⟩ (.slice (some ⟨gz, 0, none⟩) N N)) wc.heap.size (.slice (some ⟨gz, 0, none⟩) N N) (List.replicate N 0)) := by
    have ne := blk_ne (unhideR HZ) (unhideR HO8) (by decide)
    have := own_other (i := 2) (x := .slice (some ⟨gz, 0, none⟩) N N) (unhideR HO8) ne
    unfold HeldR NOwn
    rw [List.length_replicate]
    exact this
  have HZ9 : HeldR ((v8.setCell ⟨b20, 2, none⟩ (.slice (some ⟨gz, 0, none⟩) N N)).heap[b20]? = some (.cells #[.int .i64 (Wn : Nat), .int .i64 (Hn : Nat), .slice (some ⟨gz, 0, none⟩) N N] 33)) := hideR (heap_setCell_same v8 b20 2 _ _ (.slice (some ⟨gz, 0, none⟩) N N) (unhideR HZ))
  have K9 : HeldR (Below wc.heap.size wc (v8.setCell ⟨b20, 2, none⟩ (.slice (some ⟨gz, 0, none⟩) N N))) := hideR ((unhideR K8).setCell (by simpa using unhideR HGe) _)
  generalize v8.setCell ⟨b20, 2, none⟩ (.slice (some ⟨gz, 0, none⟩) N N) = V9 at *
  clear z0 z1 z2 f0 f1 f2 HO8 K8 HZ K7
  go_wp2
  go_loopw [10] (fun iv wl => ∃ (i : Nat) (C : List Int), i ≤ N ∧ iv = .int .i64 (i : Nat) ∧ HeldR (C.length = N) ∧ HeldR (∀ j, j < i → C.getD (turnI Wn Hn j) 0 = pixOf l D j) ∧ HeldR (NOwn wl wc.heap.size (.slice (some ⟨gz, 0, none⟩) N N) C) ∧ HeldR (wl.heap[b20]? = some (.cells #[.int .i64 (Wn : Nat), .int .i64 (Hn : Nat), .slice (some ⟨gz, 0, none⟩) N N] 33)) ∧ HeldR (Below wc.heap.size wc wl)) (fun iv _ => N + 1 - (intOf iv).toNat)
  case atStart => exact ⟨0, List.replicate N 0, by omega, rfl, hideR List.length_replicate, hideR (fun j hj => absurd hj (Nat.not_lt_zero j)), HN9, HZ9, K9⟩
  case round =>
    obtain ⟨i, C, hi, rfl, HCl, HPx, HOr, HZr, HWr⟩ := hrel
    obtain ⟨z0, z1, z2⟩ := pic_three (unhideR HZr)
    have HSr : HeldR (wc.heap.size ≤ wr.heap.size) := hideR (unhideR HWr).size
    by_cases hlt : i < N
    · have hNm := unhideR HNe
      have hWp : 1 ≤ Wn := by
        refine Nat.one_le_iff_ne_zero.2 (fun q => ?_)
        rw [q, Nat.zero_mul] at hNm
        omega
      have hHp : 1 ≤ Hn := by
        refine Nat.one_le_iff_ne_zero.2 (fun q => ?_)
        rw [q, Nat.mul_zero] at hNm
        omega
      have hturn := turn_lt (W := Wn) (H := Hn) (i := i) hWp (by omega)
      have HTu := hideR (fun j (hj : j < N) => turn_turn (W := Wn) (H := Hn) (i := j) hWp (by omega))
      have hDv : i / Wn < Hn := Nat.div_lt_of_lt_mul (by omega)
      have hRm : i % Wn < Wn := Nat.mod_lt _ (by omega)
      have hE := unhideR HE2
      obtain ⟨bl, ol, e, _, b0⟩ := ((unhideR HBc).below (unhideR HWr)).at_ (D + 2 * i) (by omega)
      subst e
      obtain ⟨bl', ol', e, _, b1⟩ := ((unhideR HBc).below (unhideR HWr)).at_ (D + 2 * i + 1) (by omega)
      cases e
      have HPi : HeldR (pixOf l D i = ((((l.getD (D + 2 * i) 0).toNat * 256 + (l.getD (D + 2 * i + 1) 0).toNat + 32768) % 65536 : Nat) : Int)) := hideR rfl
      have hX := (l.getD (D + 2 * i) 0).toNat_lt
      have hY := (l.getD (D + 2 * i + 1) 0).toNat_lt
      generalize (l.getD (D + 2 * i) 0).toNat = X at *
      generalize (l.getD (D + 2 * i + 1) 0).toNat = Y at *
      have hd1 : (i : Int) / (Wn : Int) = ((i / Wn : Nat) : Int) := (Int.natCast_ediv i Wn).symm
      have hm1 : (i : Int) % (Wn : Int) = ((i % Wn : Nat) : Int) := (Int.natCast_emod i Wn).symm
      have hd2 : (i : Int).tdiv (Wn : Int) = ((i / Wn : Nat) : Int) := (Int.tdiv_eq_ediv_of_nonneg (Int.natCast_nonneg i)).trans hd1
      have hm2 : (i : Int).tmod (Wn : Int) = ((i % Wn : Nat) : Int) := (Int.tmod_eq_emod_of_nonneg (Int.natCast_nonneg i)).trans hm1
      have hte : turnI Wn Hn i = (Hn - 1 - i / Wn) * Wn + i % Wn := rfl
      generalize i / Wn = Q at *
      generalize i % Wn = R at *
      obtain ⟨t, ht⟩ : ∃ t, turnI Wn Hn i = t := ⟨_, rfl⟩
      rw [ht] at hturn hte
      have HT := hideR ht
      have htN : t < N := by omega
      have hM1 : (Hn - 1 - Q) * Wn ≤ 256 * 256 := Nat.mul_le_mul (show Hn - 1 - Q ≤ 256 by omega) (show Wn ≤ 256 by omega)
      have hmul : ((Hn : Int) - 1 - (Q : Int)) * (Wn : Int) = (((Hn - 1 - Q) * Wn : Nat) : Int) := by
        rw [Int.natCast_mul]
        congr 1
        omega
      have hwM : IntKind.i64.wrap (((Hn : Int) - 1 - (Q : Int)) * (Wn : Int)) = (((Hn - 1 - Q) * Wn : Nat) : Int) := by rw [hmul]; exact iwrap (by omega) (by omega)
      clear hmul
      generalize (Hn - 1 - Q) * Wn = M at *
      have hWz : (Wn : Int) ≠ 0 := by omega
      have hW0 : Wn ≠ 0 := by omega
      have wA : IntKind.i64.wrap ((Hn : Int) - 1) = (Hn : Int) - 1 := iwrap (by omega) (by omega)
      have wB : IntKind.i64.wrap (Q : Int) = (Q : Int) := iwrap (by omega) (by omega)
      have wC : IntKind.i64.wrap ((Hn : Int) - 1 - (Q : Int)) = (Hn : Int) - 1 - (Q : Int) := iwrap (by omega) (by omega)
      have wD : IntKind.i64.wrap (R : Int) = (R : Int) := iwrap (by omega) (by omega)
      have wE : IntKind.i64.wrap ((M : Int) + (R : Int)) = (t : Nat) := by rw [iwrap (by omega) (by omega)]; omega
      obtain ⟨I2, hI2⟩ : ∃ I2, 2 * i = I2 := ⟨_, rfl⟩
      obtain ⟨F, hF⟩ : ∃ F, D + I2 = F := ⟨_, rfl⟩
      rw [hI2, hF] at b0
      rw [hI2, show D + I2 + 1 = F + 1 by omega] at b1
      obtain ⟨X2, hX2⟩ : ∃ X2, X * 256 = X2 := ⟨_, rfl⟩
      obtain ⟨n, hn⟩ : ∃ n, X2 + Y = n := ⟨_, rfl⟩
      obtain ⟨cn, hcn⟩ : ∃ cn, (n + 32768) % 65536 = cn := ⟨_, rfl⟩
      have v1 : IntKind.i64.wrap (2 * (i : Int)) = (I2 : Nat) := by rw [iwrap (by omega) (by omega)]; omega
      have v2 : IntKind.i64.wrap ((D : Int) + (I2 : Int)) = (F : Nat) := by rw [iwrap (by omega) (by omega)]; omega
      have v3 : IntKind.i64.wrap ((F : Int) + 1) = (F : Int) + 1 := iwrap (by omega) (by omega)
      have v4 : IntKind.i64.wrap (X : Int) = (X : Int) := iwrap (by omega) (by omega)
      have v5' : IntKind.i64.wrap (Y : Int) = (Y : Int) := iwrap (by omega) (by omega)
      have v6' : IntKind.i64.wrap ((X : Int) * 256) = (X2 : Nat) := by rw [iwrap (by omega) (by omega)]; omega
      have v7' : IntKind.i64.wrap ((X2 : Int) + (Y : Int)) = (n : Nat) := by rw [iwrap (by omega) (by omega)]; omega
      have v8' : IntKind.i64.wrap ((n : Int) + 32768) = (n : Int) + 32768 := iwrap (by omega) (by omega)
      have v9 : ((n : Int) + 32768) % 65536 = (cn : Nat) := by omega
      have v9b : ((n : Int) + 32768).tmod 65536 = (cn : Nat) := by rw [Int.tmod_eq_emod_of_nonneg (by omega)]; omega
      have v10 : IntKind.i64.wrap (cn : Int) = (cn : Int) := iwrap (by omega) (by omega)
      have j1 : (F : Int) < (l.length : Nat) := by omega
      have j2 : (F : Int) + 1 < (l.length : Nat) := by omega
      have j3 : (t : Int) < (N : Int) := by omega
      have HPv : HeldR (pixOf l D i = ((cn : Nat) : Int)) := hideR (by rw [unhideR HPi, hX2, hn, hcn])
      clear hNm hE hRm hDv hI2 hF hX2 hn hcn hte ht hturn HPi
      go_wp2_with fail
      refine wp_region_lets [(· = .pointer (some ⟨b20, 0, none⟩)),
        (· = .pointer (some ⟨b20, 0, none⟩)),
        (· = .pointer (some ⟨b20, 1, none⟩)),
        (· = .int .i64 (Hn : Nat)),
        (· = .int .i64 ((Hn : Int) - 1)),
        (· = .int .i64 (i : Nat)),
        (· = .pointer (some ⟨b20, 0, none⟩)),
        (· = .pointer (some ⟨b20, 0, none⟩)),
        (· = .pointer (some ⟨b20, 0, none⟩)),
        (· = .int .i64 (Wn : Nat)),
        (· = .int .i64 (Q : Nat)),
        (· = .int .i64 ((Hn : Int) - 1 - (Q : Int))),
        (· = .int .i64 ((Hn : Int) - 1 - (Q : Int)))] (by kernel_rfl) (by kernel_rfl) ?_
      refine lexL_step (fun K hK => ⟨by kernel_rfl, ⟨_, rfl⟩, fun n => ?_, fun v hv => ?_⟩)
      · go_simp
        exact lUpon_one
      subst hv
      go_simp
      refine hK _ ?_
      clear hK K
      refine lexL_step (fun K hK => ⟨by kernel_rfl, ⟨_, rfl⟩, fun n => ?_, fun v hv => ?_⟩)
      · go_simp
        exact lUpon_one
      subst hv
      go_simp
      refine hK _ ?_
      clear hK K
      refine lexL_step (fun K hK => ⟨by kernel_rfl, ⟨_, rfl⟩, fun n => ?_, fun v hv => ?_⟩)
      · go_simp
        exact lUpon_one
      subst hv
      go_simp
      refine hK _ ?_
      clear hK K
      refine lexL_step (fun K hK => ⟨by kernel_rfl, ⟨_, rfl⟩, fun n => ?_, fun v hv => ?_⟩)
      · go_simp
        exact lUpon_one
      subst hv
      go_simp
      refine hK _ ?_
      clear hK K
      refine lexL_step (fun K hK => ⟨by kernel_rfl, ⟨_, rfl⟩, fun n => ?_, fun v hv => ?_⟩)
      · go_simp
        exact lUpon_one
      subst hv
      go_simp
      refine hK _ ?_
      clear hK K
      refine lexL_step (fun K hK => ⟨by kernel_rfl, ⟨_, rfl⟩, fun n => ?_, fun v hv => ?_⟩)
      · go_simp
        exact lUpon_one
      subst hv
      go_simp
      refine hK _ ?_
      clear hK K
      refine lexL_step (fun K hK => ⟨by kernel_rfl, ⟨_, rfl⟩, fun n => ?_, fun v hv => ?_⟩)
      · go_simp
        exact lUpon_one
      subst hv
      go_simp
      refine hK _ ?_
      clear hK K
      refine lexL_step (fun K hK => ⟨by kernel_rfl, ⟨_, rfl⟩, fun n => ?_, fun v hv => ?_⟩)
      · go_simp
        exact lUpon_one
      subst hv
      go_simp
      refine hK _ ?_
      clear hK K
      refine lexL_step (fun K hK => ⟨by kernel_rfl, ⟨_, rfl⟩, fun n => ?_, fun v hv => ?_⟩)
      · go_simp
        exact lUpon_one
      subst hv
      go_simp
      refine hK _ ?_
      clear hK K
      refine lexL_step (fun K hK => ⟨by kernel_rfl, ⟨_, rfl⟩, fun n => ?_, fun v hv => ?_⟩)
      · go_simp
        exact lUpon_one
      subst hv
      go_simp
      refine hK _ ?_
      clear hK K
      refine lexL_step (fun K hK => ⟨by kernel_rfl, ⟨_, rfl⟩, fun n => ?_, fun v hv => ?_⟩)
      · go_simp
        exact lUpon_one
      subst hv
      go_simp
      refine hK _ ?_
      clear hK K
      refine lexL_step (fun K hK => ⟨by kernel_rfl, ⟨_, rfl⟩, fun n => ?_, fun v hv => ?_⟩)
      · go_simp
        exact lUpon_one
      subst hv
      go_simp
      refine hK _ ?_
      clear hK K
      refine lexL_step (fun K hK => ⟨by kernel_rfl, ⟨_, rfl⟩, fun n => ?_, fun v hv => ?_⟩)
      · go_simp
        exact lUpon_one
      subst hv
      go_simp
      refine hK _ ?_
      clear hK K
      refine lexL_end ?_
      intro n1
      replace HOr : HeldR (NOwn (wr.drewN n1) wc.heap.size (.slice (some ⟨gz, 0, none⟩) N N) C) := hideR (own_below2 (unhideR HOr) (drawn_below wr n1))
      replace HZr := hideR (keepB (unhideR HZr) (drawn_below wr n1))
      replace HWr := hideR (below_goB (unhideR HWr) (unhideR HSr) (drawn_below wr n1))
      replace HSr : HeldR (wc.heap.size ≤ (wr.drewN n1).heap.size) := HSr
      have b0' : (wr.drewN n1).cell? ⟨bl, ol + F, none⟩ = some (.int .u8 (X : Nat)) := b0
      have b1' : (wr.drewN n1).cell? ⟨bl, ol + (F + 1), none⟩ = some (.int .u8 (Y : Nat)) := b1
      generalize wr.drewN n1 = W2 at *
      clear b0 b1 z0 z1 z2
      go_wp2_with fail
      refine wp_region_lets [(· = .slice (some ⟨bl, ol, none⟩) l.length cb),
        (· = .int .i64 (D : Nat)),
        (· = .int .i64 (i : Nat)),
        (· = .int .i64 (I2 : Nat)),
        (· = .int .i64 (F : Nat)),
        (· = .pointer (some ⟨bl, (ol + F), none⟩)),
        (· = .int .u8 (X : Nat)),
        (· = .int .i64 (X : Nat)),
        (· = .int .i64 (X2 : Nat)),
        (· = .slice (some ⟨bl, ol, none⟩) l.length cb),
        (· = .int .i64 (D : Nat)),
        (· = .int .i64 (i : Nat)),
        (· = .int .i64 (I2 : Nat)),
        (· = .int .i64 (F : Nat)),
        (· = .int .i64 ((F : Int) + 1)),
        (· = .pointer (some ⟨bl, (ol + (F + 1)), none⟩)),
        (· = .int .u8 (Y : Nat)),
        (· = .int .i64 (Y : Nat)),
        (· = .int .i64 (n : Nat)),
        (· = .int .i64 (n : Nat))] (by kernel_rfl) (by kernel_rfl) ?_
      refine lexL_step (fun K hK => ⟨by kernel_rfl, ⟨_, rfl⟩, fun n => ?_, fun v hv => ?_⟩)
      · go_simp
        exact lUpon_one
      subst hv
      go_simp
      refine hK _ ?_
      clear hK K
      refine lexL_step (fun K hK => ⟨by kernel_rfl, ⟨_, rfl⟩, fun n => ?_, fun v hv => ?_⟩)
      · go_simp
        exact lUpon_one
      subst hv
      go_simp
      refine hK _ ?_
      clear hK K
      refine lexL_step (fun K hK => ⟨by kernel_rfl, ⟨_, rfl⟩, fun n => ?_, fun v hv => ?_⟩)
      · go_simp
        exact lUpon_one
      subst hv
      go_simp
      refine hK _ ?_
      clear hK K
      refine lexL_step (fun K hK => ⟨by kernel_rfl, ⟨_, rfl⟩, fun n => ?_, fun v hv => ?_⟩)
      · go_simp
        exact lUpon_one
      subst hv
      go_simp
      refine hK _ ?_
      clear hK K
      refine lexL_step (fun K hK => ⟨by kernel_rfl, ⟨_, rfl⟩, fun n => ?_, fun v hv => ?_⟩)
      · go_simp
        exact lUpon_one
      subst hv
      go_simp
      refine hK _ ?_
      clear hK K
      refine lexL_step (fun K hK => ⟨by kernel_rfl, ⟨_, rfl⟩, fun n => ?_, fun v hv => ?_⟩)
      · go_simp
        exact lUpon_one
      subst hv
      go_simp
      refine hK _ ?_
      clear hK K
      refine lexL_step (fun K hK => ⟨by kernel_rfl, ⟨_, rfl⟩, fun n => ?_, fun v hv => ?_⟩)
      · go_simp
        exact lUpon_one
      subst hv
      go_simp
      refine hK _ ?_
      clear hK K
      refine lexL_step (fun K hK => ⟨by kernel_rfl, ⟨_, rfl⟩, fun n => ?_, fun v hv => ?_⟩)
      · go_simp
        exact lUpon_one
      subst hv
      go_simp
      refine hK _ ?_
      clear hK K
      refine lexL_step (fun K hK => ⟨by kernel_rfl, ⟨_, rfl⟩, fun n => ?_, fun v hv => ?_⟩)
      · go_simp
        exact lUpon_one
      subst hv
      go_simp
      refine hK _ ?_
      clear hK K
      refine lexL_step (fun K hK => ⟨by kernel_rfl, ⟨_, rfl⟩, fun n => ?_, fun v hv => ?_⟩)
      · go_simp
        exact lUpon_one
      subst hv
      go_simp
      refine hK _ ?_
      clear hK K
      refine lexL_step (fun K hK => ⟨by kernel_rfl, ⟨_, rfl⟩, fun n => ?_, fun v hv => ?_⟩)
      · go_simp
        exact lUpon_one
      subst hv
      go_simp
      refine hK _ ?_
      clear hK K
      refine lexL_step (fun K hK => ⟨by kernel_rfl, ⟨_, rfl⟩, fun n => ?_, fun v hv => ?_⟩)
      · go_simp
        exact lUpon_one
      subst hv
      go_simp
      refine hK _ ?_
      clear hK K
      refine lexL_step (fun K hK => ⟨by kernel_rfl, ⟨_, rfl⟩, fun n => ?_, fun v hv => ?_⟩)
      · go_simp
        exact lUpon_one
      subst hv
      go_simp
      refine hK _ ?_
      clear hK K
      refine lexL_step (fun K hK => ⟨by kernel_rfl, ⟨_, rfl⟩, fun n => ?_, fun v hv => ?_⟩)
      · go_simp
        exact lUpon_one
      subst hv
      go_simp
      refine hK _ ?_
      clear hK K
      refine lexL_step (fun K hK => ⟨by kernel_rfl, ⟨_, rfl⟩, fun n => ?_, fun v hv => ?_⟩)
      · go_simp
        exact lUpon_one
      subst hv
      go_simp
      refine hK _ ?_
      clear hK K
      refine lexL_step (fun K hK => ⟨by kernel_rfl, ⟨_, rfl⟩, fun n => ?_, fun v hv => ?_⟩)
      · go_simp
        exact lUpon_one
      subst hv
      go_simp
      refine hK _ ?_
      clear hK K
      refine lexL_step (fun K hK => ⟨by kernel_rfl, ⟨_, rfl⟩, fun n => ?_, fun v hv => ?_⟩)
      · go_simp
        exact lUpon_one
      subst hv
      go_simp
      refine hK _ ?_
      clear hK K
      refine lexL_step (fun K hK => ⟨by kernel_rfl, ⟨_, rfl⟩, fun n => ?_, fun v hv => ?_⟩)
      · go_simp
        exact lUpon_one
      subst hv
      go_simp
      refine hK _ ?_
      clear hK K
      refine lexL_step (fun K hK => ⟨by kernel_rfl, ⟨_, rfl⟩, fun n => ?_, fun v hv => ?_⟩)
      · go_simp
        exact lUpon_one
      subst hv
      go_simp
      refine hK _ ?_
      clear hK K
      refine lexL_step (fun K hK => ⟨by kernel_rfl, ⟨_, rfl⟩, fun n => ?_, fun v hv => ?_⟩)
      · go_simp
        exact lUpon_one
      subst hv
      go_simp
      refine hK _ ?_
      clear hK K
      refine lexL_end ?_
      intro n2
      replace HOr : HeldR (NOwn (W2.drewN n2) wc.heap.size (.slice (some ⟨gz, 0, none⟩) N N) C) := hideR (own_below2 (unhideR HOr) (drawn_below W2 n2))
      replace HZr := hideR (keepB (unhideR HZr) (drawn_below W2 n2))
      replace HWr := hideR (below_goB (unhideR HWr) (unhideR HSr) (drawn_below W2 n2))
      replace HSr : HeldR (wc.heap.size ≤ (W2.drewN n2).heap.size) := HSr
      generalize W2.drewN n2 = W3 at *
      clear b0' b1'
      go_wp2_with fail
      refine wp_region_made 0 #[true, true, true, true, true, true, true, true, true, true, true, true, true, true, true, true, true, true, true, true, true, false] [.lets (· = .pointer (some ⟨b20, 0, none⟩)),
        .lets (· = .pointer (some ⟨b20, 0, none⟩)),
        .lets (· = .pointer (some ⟨b20, 2, none⟩)),
        .lets (· = .slice (some ⟨gz, 0, none⟩) N N),
        .lets (· = .int .i64 ((Hn : Int) - 1 - (Q : Int))),
        .lets (· = .pointer (some ⟨b20, 0, none⟩)),
        .lets (· = .pointer (some ⟨b20, 0, none⟩)),
        .lets (· = .pointer (some ⟨b20, 0, none⟩)),
        .lets (· = .int .i64 (Wn : Nat)),
        .lets (· = .int .i64 (M : Nat)),
        .lets (· = .int .i64 (i : Nat)),
        .lets (· = .pointer (some ⟨b20, 0, none⟩)),
        .lets (· = .pointer (some ⟨b20, 0, none⟩)),
        .lets (· = .pointer (some ⟨b20, 0, none⟩)),
        .lets (· = .int .i64 (Wn : Nat)),
        .lets (· = .int .i64 (R : Nat)),
        .lets (· = .int .i64 (t : Nat)),
        .lets (· = .int .i64 (n : Nat)),
        .lets (· = .int .i64 ((n : Int) + 32768)),
        .lets (· = .int .i64 (cn : Nat)),
        .lets (· = .pointer (some ⟨gz, t, none⟩))] [] [] (by kernel_rfl) (by kernel_rfl) rfl ?kinds (by kernel_rfl) (by kernel_rfl) (by kernel_rfl) ?_
      case kinds =>
        constructor
        · intro i h
          rcases i with _ | _ | _ | _ | _ | _ | _ | _ | _ | _ | _ | _ | _ | _ | _ | _ | _ | _ | _ | _ | _ | i <;> simp [Kx.isMade] at h
        · intro i h
          rcases i with _ | _ | _ | _ | _ | _ | _ | _ | _ | _ | _ | _ | _ | _ | _ | _ | _ | _ | _ | _ | _ | i <;> simp [Kx.isUse] at h
      refine lexX_step (fun K hK => ⟨by kernel_rfl, ⟨_, rfl⟩, fun v hv => ?_, fun v hv => ?_⟩)
      · go_simp
        exact mUpon_b
      subst hv
      go_simp
      refine hK _ ?_
      clear hK K
      refine lexX_step (fun K hK => ⟨by kernel_rfl, ⟨_, rfl⟩, fun v hv => ?_, fun v hv => ?_⟩)
      · go_simp
        exact mUpon_b
      subst hv
      go_simp
      refine hK _ ?_
      clear hK K
      refine lexX_step (fun K hK => ⟨by kernel_rfl, ⟨_, rfl⟩, fun v hv => ?_, fun v hv => ?_⟩)
      · go_simp
        exact mUpon_b
      subst hv
      go_simp
      refine hK _ ?_
      clear hK K
      refine lexX_step (fun K hK => ⟨by kernel_rfl, ⟨_, rfl⟩, fun v hv => ?_, fun v hv => ?_⟩)
      · obtain ⟨z0, z1, z2⟩ := pic_three (keepB (unhideR HZr) hv)
        go_simp
        exact mUpon_b
      subst hv
      go_simp
      refine hK _ ?_
      clear hK K
      refine lexX_step (fun K hK => ⟨by kernel_rfl, ⟨_, rfl⟩, fun v hv => ?_, fun v hv => ?_⟩)
      · go_simp
        exact mUpon_b
      subst hv
      go_simp
      refine hK _ ?_
      clear hK K
      refine lexX_step (fun K hK => ⟨by kernel_rfl, ⟨_, rfl⟩, fun v hv => ?_, fun v hv => ?_⟩)
      · go_simp
        exact mUpon_b
      subst hv
      go_simp
      refine hK _ ?_
      clear hK K
      refine lexX_step (fun K hK => ⟨by kernel_rfl, ⟨_, rfl⟩, fun v hv => ?_, fun v hv => ?_⟩)
      · go_simp
        exact mUpon_b
      subst hv
      go_simp
      refine hK _ ?_
      clear hK K
      refine lexX_step (fun K hK => ⟨by kernel_rfl, ⟨_, rfl⟩, fun v hv => ?_, fun v hv => ?_⟩)
      · go_simp
        exact mUpon_b
      subst hv
      go_simp
      refine hK _ ?_
      clear hK K
      refine lexX_step (fun K hK => ⟨by kernel_rfl, ⟨_, rfl⟩, fun v hv => ?_, fun v hv => ?_⟩)
      · obtain ⟨z0, z1, z2⟩ := pic_three (keepB (unhideR HZr) hv)
        go_simp
        exact mUpon_b
      subst hv
      go_simp
      refine hK _ ?_
      clear hK K
      refine lexX_step (fun K hK => ⟨by kernel_rfl, ⟨_, rfl⟩, fun v hv => ?_, fun v hv => ?_⟩)
      · go_simp
        exact mUpon_b
      subst hv
      go_simp
      refine hK _ ?_
      clear hK K
      refine lexX_step (fun K hK => ⟨by kernel_rfl, ⟨_, rfl⟩, fun v hv => ?_, fun v hv => ?_⟩)
      · go_simp
        exact mUpon_b
      subst hv
      go_simp
      refine hK _ ?_
      clear hK K
      refine lexX_step (fun K hK => ⟨by kernel_rfl, ⟨_, rfl⟩, fun v hv => ?_, fun v hv => ?_⟩)
      · go_simp
        exact mUpon_b
      subst hv
      go_simp
      refine hK _ ?_
      clear hK K
      refine lexX_step (fun K hK => ⟨by kernel_rfl, ⟨_, rfl⟩, fun v hv => ?_, fun v hv => ?_⟩)
      · go_simp
        exact mUpon_b
      subst hv
      go_simp
      refine hK _ ?_
      clear hK K
      refine lexX_step (fun K hK => ⟨by kernel_rfl, ⟨_, rfl⟩, fun v hv => ?_, fun v hv => ?_⟩)
      · go_simp
        exact mUpon_b
      subst hv
      go_simp
      refine hK _ ?_
      clear hK K
      refine lexX_step (fun K hK => ⟨by kernel_rfl, ⟨_, rfl⟩, fun v hv => ?_, fun v hv => ?_⟩)
      · obtain ⟨z0, z1, z2⟩ := pic_three (keepB (unhideR HZr) hv)
        go_simp
        exact mUpon_b
      subst hv
      go_simp
      refine hK _ ?_
      clear hK K
      refine lexX_step (fun K hK => ⟨by kernel_rfl, ⟨_, rfl⟩, fun v hv => ?_, fun v hv => ?_⟩)
      · go_simp
        exact mUpon_b
      subst hv
      go_simp
      refine hK _ ?_
      clear hK K
      refine lexX_step (fun K hK => ⟨by kernel_rfl, ⟨_, rfl⟩, fun v hv => ?_, fun v hv => ?_⟩)
      · go_simp
        exact mUpon_b
      subst hv
      go_simp
      refine hK _ ?_
      clear hK K
      refine lexX_step (fun K hK => ⟨by kernel_rfl, ⟨_, rfl⟩, fun v hv => ?_, fun v hv => ?_⟩)
      · go_simp
        exact mUpon_b
      subst hv
      go_simp
      refine hK _ ?_
      clear hK K
      refine lexX_step (fun K hK => ⟨by kernel_rfl, ⟨_, rfl⟩, fun v hv => ?_, fun v hv => ?_⟩)
      · go_simp
        exact mUpon_b
      subst hv
      go_simp
      refine hK _ ?_
      clear hK K
      refine lexX_step (fun K hK => ⟨by kernel_rfl, ⟨_, rfl⟩, fun v hv => ?_, fun v hv => ?_⟩)
      · go_simp
        exact mUpon_b
      subst hv
      go_simp
      refine hK _ ?_
      clear hK K
      refine lexX_step (fun K hK => ⟨by kernel_rfl, ⟨_, rfl⟩, fun v hv => ?_, fun v hv => ?_⟩)
      · go_simp
        exact mUpon_b
      subst hv
      go_simp
      refine hK _ ?_
      clear hK K
      refine lexX_end (fun v5 hv => ?_)
      have HO5 : HeldR (NOwn v5 wc.heap.size (.slice (some ⟨gz, 0, none⟩) N N) C) := hideR (own_below2 (unhideR HOr) hv.low)
      have HZ5 := hideR (keepB (unhideR HZr) hv.low)
      have K5 := hideR (below_goB (unhideR HWr) (unhideR HSr) hv.low)
      clear hv
      have hc5 := unhideR HO5
      unfold NOwn at hc5
      rw [unhideR HCl] at hc5
      have m5 := hc5.cellAt t (by rw [Nat.mul_one]; exact htN)
      have f5 := hc5.frozenAt t
      have m6 : v5.cell? ⟨gz, t, none⟩ = some (.int .i64 (C.getD t 0)) := by
        rw [m5, List.getElem?_map, List.getElem?_eq_getElem (by rw [unhideR HCl]; exact htN), List.getD_eq_getElem?_getD, List.getElem?_eq_getElem (by rw [unhideR HCl]; exact htN)]
        rfl
      have HO6 : HeldR (NOwn (v5.setCell ⟨gz, t, none⟩ (.int .i64 (cn : Nat))) wc.heap.size (.slice (some ⟨gz, 0, none⟩) N N) (C.set t (cn : Nat))) := by
        have := (hc5.stored t (.int .i64 (cn : Nat))).1
        unfold HeldR NOwn
        rw [List.length_set, unhideR HCl, List.map_set]
        exact this
      have HZ6 : HeldR ((v5.setCell ⟨gz, t, none⟩ (.int .i64 (cn : Nat))).heap[b20]? = some (.cells #[.int .i64 (Wn : Nat), .int .i64 (Hn : Nat), .slice (some ⟨gz, 0, none⟩) N N] 33)) := by
        have ne := blk_ne (unhideR HZ5) hc5 (by decide)
        refine hideR ?_
        rw [heap_setCell_other v5 ⟨gz, t, none⟩ b20 _ (fun q => ne (by rw [q]; rfl))]
        exact unhideR HZ5
      have HkB : HeldR (wc.heap.size ≤ gz) := hideR (own_at2 hc5 gz rfl)
      have K6 : HeldR (Below wc.heap.size wc (v5.setCell ⟨gz, t, none⟩ (.int .i64 (cn : Nat)))) := hideR ((unhideR K5).setCell (by simpa using unhideR HkB) _)
      clear m5 hc5
      refine wpAny_step (i := 21) (by kernel_rfl) rfl (by kernel_rfl) (fun K hK => ?_)
      unfold Oper.wp
      go_simp
      refine hK _ _ ?_
      clear hK K
      refine wpAny_end (by kernel_rfl) ?_
      generalize v5.setCell ⟨gz, t, none⟩ (.int .i64 (cn : Nat)) = W4 at *
      have HPx2 : HeldR (∀ j, j < i + 1 → (C.set t (cn : Nat)).getD (turnI Wn Hn j) 0 = pixOf l D j) := hideR (fun j hj => by
        by_cases ej : j = i
        · rw [ej, unhideR HT, getD_set_self (by rw [unhideR HCl]; exact htN)]
          exact (unhideR HPv).symm
        · rw [getD_set_other (fun q => ej ?_)]
          · exact unhideR HPx j (by omega)
          · have a1 := unhideR HTu i hlt
            have a2 := unhideR HTu j (by omega)
            rw [unhideR HT, q, a2] at a1
            exact a1)
      have HCl2 : HeldR ((C.set t (cn : Nat)).length = N) := hideR (by rw [List.length_set]; exact unhideR HCl)
      clear m6 f5
      go_wp2
      exact ⟨⟨i + 1, _, by omega, by go_num, HCl2, HPx2, HO6, HZ6, K6⟩, by simp [intOf]; omega⟩
    · obtain rfl : i = N := by omega
      have hCp : C = (picOf l D Wn Hn).L := by
        by_cases w0 : Wn = 0
        · have n0 : i = 0 := by have := unhideR HNe; rw [w0, Nat.zero_mul] at this; exact this.symm
          have c0 : C = [] := List.length_eq_zero_iff.1 (by rw [unhideR HCl]; exact n0)
          rw [c0]
          unfold picOf
          rw [w0, Nat.zero_mul]
          rfl
        · refine pix_all (by omega) (by rw [unhideR HCl]; exact (unhideR HNe).symm) (fun j hj => unhideR HPx j (by rw [← unhideR HNe]; exact hj))
      have hpl : (picOf l D Wn Hn).L.length = i := by rw [← hCp]; exact unhideR HCl
      have HPa : HeldR (PicAt wr b20 0 (some ⟨gz, 0, none⟩) i (picOf l D Wn Hn)) := by
        obtain ⟨ad9, cap9, e9, h9, _⟩ := own_ints (unhideR HOr)
        injection e9 with e9
        subst e9
        refine hideR ⟨ltB (unhideR HZr), z0, z1, ?_, ?_⟩
        · rw [hpl]; exact z2
        · rw [← hCp]; exact h9
      have HGz : HeldR (wc.heap.size ≤ gz) := hideR (own_at2 (unhideR HOr) gz rfl)
      have hcapa : k ≤ capa := by have := own_cap (unhideR HO); omega
      obtain ⟨oz, hoz⟩ : ∃ oz, (if capa = 6 then oa else oa + 12) = oz := ⟨_, rfl⟩
      have hadr : (if capa = 6 then (some ⟨ga, oa, none⟩ : Option Addr) else some ⟨ga, oa + 12, none⟩) = some ⟨ga, oz, none⟩ := by
        rw [← hoz]
        split <;> rfl
      have hld : (LS.drop 6).length = k - 6 := by rw [List.length_drop, hlenL]
      have HCd : HeldR (CCame wr (some ⟨ga, oz, none⟩) (LS.drop 6)) := by
        refine hideR ?_
        by_cases c6 : capa = 6
        · exact ⟨fun j hj => absurd hj (by rw [hld]; omega)⟩
        · rw [← hoz, if_neg c6]
          exact drop_came ((unhideR HCa).below (unhideR HWr)) 6
      have hcl : (crdCells (LS.drop 6)).length = (k - 6) * 2 := by rw [crdCells_length, hld]
      have i6 : (6 : Int) ≤ (k : Nat) := by omega
      have HMp : HeldR ((LS.drop 6).map CrdS.crd = (cardsOf l k).drop 6) := hideR (by rw [List.map_drop, unhideR HL])
      have HLd := hideR hld
      clear hCp hoz hld HCl HPx HNe
      go_wp2_with (first
        | (at_builtin; refine wpList_append_own _ rfl _ _ 23 rfl wr.heap.size 57 i0 (.agg #[.string ByteArray.empty, .string ByteArray.empty]) 2 32 Tryz.underlying23 hi0 hz0 hz1 hz2 rfl (by decide) _ 0 [] rfl (World.ownsRow_nil _ _ _ _) ⟨ga, oz, none⟩ (k - 6) (capa - 6) (crdCells (LS.drop 6)) rfl hcl ?c1 ?c2 ?c3 ?c4 ?c5 ?_))
      case c1 => exact drop_cells (unhideR HCd)
      case c2 => exact crd_one
      case c3 => unfold maxLen; omega
      case c4 => omega
      case c5 => exact Nat.le_refl _
      intro v7 w7 hown7 hgrow7 _
      have k7 : Below wr.heap.size wr w7 := (Below.refl _ _).grown hgrow7 (Nat.le_refl _) (fun g h => by cases h)
      have O7 : COwn w7 wr.heap.size v7 (LS.drop 6) := by
        unfold COwn
        rw [unhideR HLd]
        simpa using hown7
      obtain ⟨adv, capv, ev, hcv⟩ := O7.came (fun c hc => unhideR HSz c (List.mem_of_mem_drop hc))
      subst ev
      rw [unhideR HLd]
      have HCv := hideR hcv
      replace HPa := hideR ((unhideR HPa).below k7)
      have K7 := hideR (below_goB (unhideR HWr) (unhideR HSr) k7)
      have hfo := fileOf_any (ccap := capv) (unhideR HPa) (by rw [hpl]; omega) (unhideR HCv) (by rw [unhideR HLd]; omega)
      rw [unhideR HMp, unhideR HLd] at hfo
      have HRv3 := HRv2
      have HPl := hideR hpl
      clear hown7 hgrow7 k7 hcv HRv2 hpl HOr HZr HWr hcl
      generalize hFE : fileE (picOf l D Wn Hn) ((cardsOf l k).drop 6) = FE at *
      go_wp2_with fail
      refine hfo.mono ?_
      unfold FilePost
      rw [hFE]
      rintro e w8 ⟨v, rfl, hx0, hx1, k8⟩
      have K8 := hideR (below_goB (unhideR K7) (unhideR K7).size k8)
      replace HCv := hideR ((unhideR HCv).below k8)
      replace HPa := hideR ((unhideR HPa).below k8)
      have HB8 := hideR ((unhideR HBc).below (unhideR K8))
      clear hfo k8 K7
      by_cases f0 : FE = 0
      case neg =>
        have tf : decide (0 < FE) = true := decide_eq_true (by rw [← hFE] at f0 ⊢; exact fileE_pos f0)
        have HBad : HeldR (readV l = (8, pic0, [])) := hideR (by rw [unhideR HRv3, if_pos (.inl f0)])
        obtain rfl := hx1 f0
        clear f0 hx0 hx1 HRv3 hFE
        have HF := hideR (unhideR HNv _ (unhideR K8) 8 (unhideR HBad))
        go_wp2
        simp [bodyPost, results, Tryz.results14, go_sem]
        exact unhideR HF
      have tf : decide (0 < FE) = false := decide_eq_false (by omega)
      obtain ⟨ad2, cap2, rfl, hB2⟩ := (hx0 f0).bytes
      have x1 := conv_bytes (cap := cap2) hB2
      have x2 := conv_bytes (cap := cb) (unhideR HB8)
      obtain ⟨q2, hq2⟩ : ∃ q2, decide (fileV (picOf l D Wn Hn) ((cardsOf l k).drop 6) = l) = q2 := ⟨_, rfl⟩
      have hst : ((strB (fileV (picOf l D Wn Hn) ((cardsOf l k).drop 6))).toList == (strB l).toList) = q2 := by
        rw [← hq2, ByteArray.toList_eq, ByteArray.toList_eq, strB_list, strB_list]
        by_cases e : fileV (picOf l D Wn Hn) ((cardsOf l k).drop 6) = l
        · rw [decide_eq_true e, e]; simp
        · rw [decide_eq_false e]; exact beq_eq_false_iff_ne.2 e
      have hst2 : ((strB (fileV (picOf l D Wn Hn) ((cardsOf l k).drop 6))).toList != (strB l).toList) = !q2 := by
        unfold bne
        rw [hst]
      have HQ2 := hideR hq2
      have HF0 := hideR f0
      clear hx0 hx1 hB2 hq2 hFE
      have HGood : HeldR (q2 = true → PicPost l w (.returned (.tuple #[.pointer (some ⟨b20, 0, none⟩), .slice adv (k - 6) capv, .int .i64 0])) w8) := hideR (fun e => by
        have hv : readV l = (0, picOf l D Wn Hn, (cardsOf l k).drop 6) := by
          rw [unhideR HRv3, if_neg (fun q => ?_)]
          rcases q with q | q
          · exact q (unhideR HF0)
          · exact q (of_decide_eq_true ((unhideR HQ2).trans e))
        refine ⟨b20, some ⟨gz, 0, none⟩, adv, i, capv, LS.drop 6, ?_, ?_, ?_, unhideR HCv, unhideR HLow w8 (unhideR K8), Nat.le_trans (unhideR HLow wc (Below.refl _ _)).size (unhideR HGe), fun a0 q => (by cases q; exact Nat.le_trans (unhideR HLow wc (Below.refl _ _)).size (unhideR HGz))⟩
        · rw [hv, unhideR HLd]
        · rw [hv]; exact unhideR HPa
        · rw [hv]; exact unhideR HMp)
      have HBd : HeldR (q2 = false → readV l = (8, pic0, [])) := hideR (fun e => by
        rw [unhideR HRv3, if_pos (.inr (of_decide_eq_false ((unhideR HQ2).trans e)))])
      clear HRv3 f0
      generalize (fileV (picOf l D Wn Hn) ((cardsOf l k).drop 6)).length = nf at x1 ⊢
      generalize strB (fileV (picOf l D Wn Hn) ((cardsOf l k).drop 6)) = s1 at *
      generalize strB l = s2 at *
      obtain rfl := unhideR HF0
      cases q2
      case false =>
        have HBad := hideR (unhideR HBd rfl)
        clear HGood HBd HQ2
        have HF := hideR (unhideR HNv _ (unhideR K8) 8 (unhideR HBad))
        go_wp2
        simp [bodyPost, results, Tryz.results14, go_sem]
        exact unhideR HF
      case true =>
        have HF := hideR (unhideR HGood rfl)
        clear HGood HBd HQ2
        go_wp2
        simp [bodyPost, results, Tryz.results14, go_sem]
        exact unhideR HF
end Go.Proofs.YtncbmkflilcdgaiGreatDoor
