/-
  The program's In.
-/
import Derived.Test.YtkdmeclbnnjdgalDoorAtM7
import Derived.Test.YtkdmeclbnnjdgalDoorAtD5b
namespace Go.Proofs.YtkdmeclbnnjdgalDoor
open Go Go.RowKit

def nmAt (L : List En) (z : Int) : ByteArray := (L.getD z.toNat en0).nm
/-- the names of those of which p is so, in order. -/
theorem ixN {L : List En} {p : En → Bool} (F : Nat → List ByteArray) (h0 : F 0 = []) (hs : ∀ i, i < L.length → F (i + 1) = if p (L.getD i en0) then insV (F i) (L.getD i en0).nm else F i) : ∀ i, i ≤ L.length → F i = insB ((ixL L p i).map (nmAt L))
  | 0, _ => h0
  | i + 1, h => by
    rw [hs i (by omega), ixN F h0 hs i (by omega)]
    show _ = insB ((if p (L.getD i en0) then ixL L p i ++ [(i : Int)] else ixL L p i).map (nmAt L))
    split
    · rw [List.map_append, List.map_singleton, insB_app]
      unfold nmAt
      rw [Int.toNat_natCast]
    · rfl
theorem in_is {lv : Int} {L : List En} (hlv : 0 ≤ lv ∧ lv ≤ 12) (hd : ∀ e ∈ L, dirB e.d = true) (s : Sq) : (if vaB s then inV s lv L else []) = insB ((GOf lv L s).map (nmAt L)) := by
  have hmem : ∀ i, i < L.length → L.getD i en0 ∈ L := fun i hi => by
    rw [List.getD_eq_getElem?_getD, List.getElem?_eq_getElem hi]
    exact List.getElem_mem hi
  have none : (∀ i, i < L.length → cellB lv s (L.getD i en0) = false) → GOf lv L s = [] := by
    intro h
    have : ∀ z, z ∉ GOf lv L s := by
      intro z hz
      obtain ⟨k, _, h2, h3⟩ := ixL_mem.1 hz
      rw [h k h2] at h3
      cases h3
    exact List.eq_nil_iff_forall_not_mem.2 this
  cases hv : vaB s
  · rw [if_neg (by decide), none (fun i hi => ?_)]
    · rfl
    · cases hc : cellB lv s (L.getD i en0)
      · rfl
      · unfold cellB at hc
        simp only [Bool.and_eq_true, decide_eq_true_eq] at hc
        have := va_dir (hd _ (hmem i hi)) (l := s.l.toNat) (by omega)
        rw [sqEq_is hc.2, hv] at this
        cases this
  · rw [if_pos rfl]
    unfold inV
    split
    · rename_i hlt
      rw [none (fun i hi => ?_)]
      · rfl
      · unfold cellB
        rw [decide_eq_false (by omega), Bool.false_and]
    · rename_i hle
      have hva := of_decide_eq_true hv
      refine ixN (icV s L) rfl (fun i hi => ?_) L.length (Nat.le_refl _)
      show (if (sqE (L.getD i en0).d s.l == 0) && sqEq (sqA (L.getD i en0).d s.l) s then _ else _) = _
      have e0 : sqE (L.getD i en0).d s.l = 0 := by
        unfold sqE
        rw [hd _ (hmem i hi), if_neg (by decide), if_neg (by omega)]
      have e1 : cellB lv s (L.getD i en0) = sqEq (sqA (L.getD i en0).d s.l) s := by
        unfold cellB
        rw [decide_eq_true (by omega), Bool.true_and, sqA_of e0]
      rw [e0, e1]
      rfl
theorem IRow.at {w : World} {base : Nat} {v : Value} {zs : List Int} (h : IRow w base v zs) : ∃ ad cap, v = .slice ad zs.length cap ∧ ∀ k, k < zs.length → ∃ b, ad = some ⟨b, 0, none⟩ ∧ b < w.heap.size ∧ w.cell? ⟨b, k, none⟩ = some (.int .i64 (zs.getD k 0)) := by
  rcases h.2 with ⟨e, h0⟩ | ⟨g, cap, cur, e, hB, hh, hn, hc, hsz, ht⟩
  · exact ⟨none, 0, by rw [e, h0], fun k hk => absurd hk (by omega)⟩
  · refine ⟨_, cap, e, fun k hk => ⟨g, rfl, ltB hh, ?_⟩⟩
    have h1 : (zs.map (Value.int .i64))[k]? = some (.int .i64 (zs.getD k 0)) := by
      rw [List.getElem?_map, List.getElem?_eq_getElem hk, List.getD_eq_getElem?_getD, List.getElem?_eq_getElem hk]
      rfl
    rw [← ht, List.getElem?_take, if_pos (by omega), Array.getElem?_toList] at h1
    simp [World.cell?, hh, h1]
theorem nm_get (L : List En) {zs : List Int} {k : Nat} (hk : k < zs.length) : (zs.map (nmAt L)).getD k ByteArray.empty = (L.getD (zs.getD k 0).toNat en0).nm := by
  have e : zs.getD k 0 = zs[k] := by rw [List.getD_eq_getElem?_getD, List.getElem?_eq_getElem hk]; rfl
  rw [e, List.getD_eq_getElem?_getD, List.getElem?_map, List.getElem?_eq_getElem hk]
  rfl
def InPost (L : List En) (lv : Int) (s : Sq) (w : World) (r : Ending) (w' : World) : Prop := (∃ v, r = .returned v ∧ NmIs w' v (if vaB s then inV s lv L else [])) ∧ Below w.heap.size w w'
set_option maxRecDepth 1000000 in
set_option maxHeartbeats 6400000 in
theorem pin_any {w : World} {p : Nat} {lv : Int} {L : List En} {O : Nat → Prop} {sn : Int} (h : ARep w p lv L O sn) (hL : L.length ≤ 200) (s : Sq) (hs : SqOk s) :
    Calls Tryd.prog 26 #[.pointer (some ⟨p, 0, none⟩), s.val] w (InPost L lv s w) := by
  obtain ⟨sv, bn, bc, es, clock, hx, hO⟩ := h
  obtain ⟨v, hr, hv, hlk⟩ := hx.cl.look hs
  obtain ⟨i0, hi, hz0, hz1, hz2⟩ := info_parts infoS
  have hin := in_is hx.lvl hx.dir s
  have HP : HeldR (∀ v' w', NmIs w' v' (insB ((GOf lv L s).map (nmAt L))) → Below w.heap.size w w' → InPost L lv s w (.returned v') w') := hideR (fun v' w' h1 h2 => ⟨⟨v', rfl, by rw [hin]; exact h1⟩, h2⟩)
  obtain ⟨ad, cap, esv, _, hst⟩ := hx.st.at
  subst esv
  obtain ⟨adz, capz, ev, hzk⟩ := hr.at
  subst ev
  have hzb : ∀ k, k < (GOf lv L s).length → 0 ≤ (GOf lv L s).getD k 0 ∧ (GOf lv L s).getD k 0 < (L.length : Int) := by
    intro k hk
    have hm : (GOf lv L s).getD k 0 ∈ GOf lv L s := by
      rw [List.getD_eq_getElem?_getD, List.getElem?_eq_getElem hk]
      exact List.getElem_mem hk
    obtain ⟨i, e1, h2, _⟩ := ixL_mem.1 hm
    rw [e1]
    omega
  have hzl : (GOf lv L s).length ≤ L.length := ixL_len _ _ _
  generalize GOf lv L s = zs at *
  have HB0 := hideR (below_a w (.cells #[.int .i64 s.f, .int .i64 s.l, .int .i64 s.c, .int .i64 s.r] 58))
  have z0 := alloc_last w (.cells #[.int .i64 s.f, .int .i64 s.l, .int .i64 s.c, .int .i64 s.r] 58)
  have Hp := hideR hx.hp
  have Hcb := hideR hx.cl.hb
  have Hst := hideR hst
  have Hzk := hideR hzk
  obtain ⟨n, hn⟩ : ∃ n, L.length = n := ⟨_, rfl⟩
  obtain ⟨m, hm⟩ : ∃ m, zs.length = m := ⟨_, rfl⟩
  have Hn := hideR hn
  have Hm := hideR hm
  rw [hn] at Hp hzb hzl hL
  rw [hm] at hzb hzl hlk
  generalize InPost L lv s w = IP at *
  unfold Sq.val
  unfold Sq.val at hlk
  clear hx hO hr hv hin hst hzk hn hm
  go_enter Tryd.func26, Tryd.ntmps26
  go_upto_region 4 with fail
  generalize w.alloc (.cells #[.int .i64 s.f, .int .i64 s.l, .int .i64 s.c, .int .i64 s.r] 58) = u0 at *
  obtain ⟨K, hK⟩ : ∃ K, w.heap.size = K := ⟨_, rfl⟩
  have HK := hideR hK
  rw [hK] at z0 ⊢
  clear hK
  have c3 := (cells_at (keepB (unhideR Hp) (unhideR HB0)) 3 (by simp)).1
  have y0 := (cells_at z0 0 (by simp)).1
  have y1 := (cells_at z0 1 (by simp)).1
  have y2 := (cells_at z0 2 (by simp)).1
  have y3 := (cells_at z0 3 (by simp)).1
  have hl2 := hlk u0.drew (keepB (unhideR Hcb) (drewF (unhideR HB0)))
  go_region
  have HB5 := hideR (drewF (unhideR HB0))
  clear c3 y0 y1 y2 y3 hl2 hlk z0 HB0
  generalize u0.drew = v5 at *
  have H0 : HeldR (v5.ownsRow w.heap.size 9 1 (.slice none 0 0) 0 (((zs.map (nmAt L)).take 0).map Value.string)) := hideR (World.ownsRow_nil _ _ _ _)
  obtain ⟨NM, hNM⟩ : ∃ NM, zs.map (nmAt L) = NM := ⟨_, rfl⟩
  have HNl : HeldR (NM.length = m) := hideR (by rw [← hNM, List.length_map]; exact unhideR Hm)
  have HNg : HeldR (∀ k, k < m → NM.getD k ByteArray.empty = (L.getD (zs.getD k 0).toNat en0).nm) := hideR (fun k hk => by
    have hk2 : k < zs.length := by rw [unhideR Hm]; exact hk
    rw [← hNM]
    exact nm_get L hk2)
  rw [hNM] at H0 HP
  clear hNM
  go_wp2_with fail
  go_loopw [5, 17] (fun ov iv wl => ∃ k : Nat, k ≤ m ∧ iv = .int .i64 (k : Nat) ∧ HeldR (wl.ownsRow w.heap.size 9 1 ov k ((NM.take k).map Value.string)) ∧ HeldR (Below w.heap.size w wl)) (fun _ iv _ => m + 1 - (intOf iv).toNat)
  case atStart => exact ⟨0, by omega, rfl, H0, HB5⟩
  case round =>
    clear H0 HB5 v5
    obtain ⟨k, hk, rfl, HO, HB⟩ := hrel
    by_cases q : k < m
    case neg =>
      obtain rfl : k = m := by omega
      have ti : decide ((k : Int) < (k : Int)) = false := decide_eq_false (by omega)
      have tin : decide (k < k) = false := decide_eq_false (by omega)
      have hso := sortN_any (w := wr) (B := w.heap.size) (M := NM) (by
        have := unhideR HO
        rw [List.take_of_length_le (by rw [unhideR HNl]; exact Nat.le_refl _)] at this
        rw [unhideR HNl]
        exact this) (unhideR HB).size (by rw [unhideR HNl]; omega)
      clear HO HNg hzb
      go_wp2_with fail
      refine hso.mono ?_
      rintro r w9 ⟨rfl, ho, hb⟩
      have HR : HeldR (IP (.returned u5) w9) := hideR (unhideR HP _ _ (by
        have hl9 : (insB NM).length = NM.length := (insB_both NM).1.length_eq
        rw [← hl9] at ho
        obtain ⟨ad9, cap9, e9, hc9, _⟩ := own_str ho
        exact ⟨ad9, cap9, e9, hc9⟩) ((unhideR HB).trans hb))
      clear ho hb hso
      go_wp2
      exact unhideR HR
    have ti : decide ((k : Int) < (m : Int)) = true := decide_eq_true (by omega)
    have tin : decide (k < m) = true := decide_eq_true q
    have wi : IntKind.i64.wrap ((k : Int) + 1) = (k : Int) + 1 := iwrap (by omega) (by omega)
    have hkm : (k : Int) < (m : Int) := by omega
    obtain ⟨b, had, hbl, hce⟩ := unhideR Hzk k (by rw [unhideR Hm]; exact q)
    subst had
    have hce2 := (World.cell?_of_block (a := ⟨b, k, none⟩) ((unhideR HB).block b hbl)).trans hce
    have hzk := hzb k q
    have hnk := unhideR HNg k q
    have htk : NM.take (k + 1) = NM.take k ++ [NM.getD k ByteArray.empty] := by
      have hk3 : k < NM.length := by rw [unhideR HNl]; exact q
      rw [List.getD_eq_getElem?_getD, List.getElem?_eq_getElem hk3]
      exact (List.take_append_getElem hk3).symm
    rw [hnk] at htk
    obtain ⟨z, hz⟩ : ∃ z, zs.getD k 0 = z := ⟨_, rfl⟩
    rw [hz] at hce2 hzk htk hnk
    obtain ⟨i, rfl⟩ : ∃ i : Nat, z = i := ⟨z.toNat, by omega⟩
    rw [Int.toNat_natCast] at htk
    obtain ⟨b2, had2, _, hbl2, hSt⟩ := unhideR Hst i (by rw [unhideR Hn]; omega)
    subst had2
    have hc0 := (World.cell?_of_block (a := ⟨b2, i * 4, none⟩) ((unhideR HB).block b2 hbl2)).trans hSt.c0
    generalize (L.getD i en0).nm = x at *
    have c1 := (cells_at (keepB (unhideR Hp) (unhideR HB)) 1 (by simp)).1
    have hin : (i : Int) < (n : Int) := hzk.2
    have Htk := hideR htk
    clear htk hnk hce hSt hz HNg
    go_wp2_with (first
      | (at_builtin; refine wpList_append_own _ rfl _ _ 70 rfl w.heap.size 9 i0 (.string ByteArray.empty) 1 16 Tryd.underlying70 hi hz0 hz1 hz2 rfl (by decide) _ k _ rfl ((unhideR HO).alloc _) ⟨wr.heap.size, 0, none⟩ 1 1 [.string x] rfl rfl ?c1 ?c2 ?c3 ?c4 ?c5 ?_))
    case c1 => exact cell_oneS _ _ _
    case c2 => intro u hu; simp at hu; subst hu; rfl
    case c3 => unfold maxLen; omega
    case c4 => omega
    case c5 =>
      have := (unhideR HB).size
      simp
      omega
    intro v' w1 hown' hgrow _
    have HB1 := hideR (((unhideR HB).alloc (unhideR HB).size _).grown hgrow (by have := (unhideR HB).size; simp; omega) (fun k e => ((unhideR HO).lt k e).1))
    have HO1 : HeldR (w1.ownsRow w.heap.size 9 1 v' (k + 1) ((NM.take (k + 1)).map Value.string)) := hideR (by
      rw [unhideR Htk, List.map_append, List.map_take]
      exact hown')
    clear hown' hgrow HO HB hce2 hc0 c1 Htk
    go_wp2
    exact ⟨⟨k + 1, by omega, by go_num, HO1, HB1⟩, by simp [intOf]; omega⟩
theorem in_prog (a : Nat → Addr) : InProg a ARep where
  in_ := fun h hL s hs => pin_any h hL s hs
end Go.Proofs.YtkdmeclbnnjdgalDoor
