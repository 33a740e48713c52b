/-
  A log's bytes: the document's LogOf, by contract.
-/
import Derived.Test.YtfonpobdnhifganNgD1
import Derived.Test.YtfonpobdnhifganOwnTwo
namespace Go.Proofs.Ytfonpobdnhifgan
open Go Go.RowKit

/-- a result in memory. -/
structure RsAt (w : World) (b o : Nat) (r : Res) : Prop where
  c0 : w.cell? ⟨b, o, none⟩ = some (.int .i64 r.i)
  c1 : w.cell? ⟨b, o + 1, none⟩ = some (.int .i64 r.s)
  c2 : w.cell? ⟨b, o + 2, none⟩ = some (.int .i64 r.l)
theorem RsAt.below {w v : World} {b o B : Nat} {r : Res} (h : RsAt w b o r) (k : Below B w v) (hb : b < B) : RsAt v b o r := ⟨(k.cell hb).trans h.c0, (k.cell hb).trans h.c1, (k.cell hb).trans h.c2⟩
structure RsCame (w : World) (ad : Option Addr) (L : List Res) : Prop where
  at_ : ∀ k, k < L.length → ∃ b off, ad = some ⟨b, off, none⟩ ∧ b < w.heap.size ∧ RsAt w b (off + k * 3) (L.getD k res0)
theorem RsCame.below {w v : World} {ad : Option Addr} {L : List Res} (h : RsCame w ad L) (k : Below w.heap.size w v) : RsCame v ad L := ⟨fun j hj => by
  obtain ⟨b, off, e, hb, h1⟩ := h.at_ j hj
  exact ⟨b, off, e, Nat.lt_of_lt_of_le hb k.size, h1.below k hb⟩⟩
theorem wrap_u64 (n : Int) : IntKind.u64.wrap n = ((u64 n : Nat) : Int) := by
  simp only [IntKind.wrap, IntKind.bits, IntKind.signed]
  unfold u64
  simp
  omega
theorem BAt.grown {w w' : World} {ad : Option Addr} {l : Bs} {blk : Option Nat} (h : BAt w ad l) (hg : w.grownBy w' blk) (hn : ∀ a0, ad = some a0 → some a0.block ≠ blk) : BAt w' ad l := ⟨fun k hk => by
  obtain ⟨b, off, e, hb, hc⟩ := h.at_ k hk
  exact ⟨b, off, e, Nat.lt_of_lt_of_le hb hg.size, (World.cell?_of_block (a := ⟨b, off + k, none⟩) (hg.block b hb (hn _ e))).trans hc⟩⟩
theorem BAt.cells {w : World} {b off : Nat} {l : Bs} (h : BAt w (some ⟨b, off, none⟩) l) : ∀ j u, (byCells l)[j]? = some u → w.cell? ((⟨b, off, none⟩ : Addr).add j) = some u := by
  intro j u hu
  have hj : j < l.length := by
    have := (List.getElem?_eq_some_iff.1 hu).1
    unfold byCells at this
    simpa using this
  obtain ⟨b', off', e, _, hc⟩ := h.at_ j hj
  cases e
  rw [add_pl2, hc, ← hu]
  unfold byCells
  rw [List.getElem?_map, List.getElem?_eq_getElem hj, List.getD_eq_getElem?_getD, List.getElem?_eq_getElem hj]
  rfl
theorem byCells_one (l : Bs) : ∀ u ∈ byCells l, u.oneCell' = true := by
  intro u hu
  unfold byCells at hu
  obtain ⟨x, _, rfl⟩ := List.mem_map.1 hu
  rfl
theorem byCells_len (l : Bs) : (byCells l).length = l.length := by unfold byCells; simp
/-- a row of bytes that is owned: where it lies. -/
theorem BOwn.where_ {w : World} {B : Nat} {v : Value} {l : Bs} (h : BOwn w B v l) (hl : 0 < l.length) : ∃ g cap, v = .slice (some ⟨g, 0, none⟩) l.length cap ∧ BAt w (some ⟨g, 0, none⟩) l ∧ B ≤ g ∧ g < w.heap.size := by
  obtain ⟨ad, cap, e, hb⟩ := h.bytes
  rcases h.2 with ⟨h1, h2⟩ | ⟨g, cap', cur, e', hB, hg, _⟩
  · omega
  · rw [e] at e'
    simp only [Value.slice.injEq] at e'
    obtain ⟨rfl, _, rfl⟩ := e'
    exact ⟨g, cap, e, hb, hB, ltB hg⟩
theorem le4_zero : leB 4 0 = z4 := by decide
def LgPost (B : Nat) (w : World) (b : Bs) (e : Ending) (w' : World) : Prop := ∃ v', e = .returned v' ∧ BOwn w' B v' b ∧ Below B w w'
set_option maxRecDepth 100000 in
set_option maxHeartbeats 6400000 in
theorem logOf_any {w : World} {ad : Option Addr} {cap : Nat} {L : List Res} (hL : RsCame w ad L) (hl : L.length ≤ 4000) :
    Calls Try.prog 7 #[.slice ad L.length cap] w (LgPost w.heap.size w (logV L)) := by
  obtain ⟨i0, hi0, hz0, hz1, hz2⟩ := info_parts infoB
  have HL : HeldR (∀ u, Below w.heap.size w u → RsCame u ad L) := hideR (fun u q => hL.below q)
  obtain ⟨N, hN⟩ : ∃ N, L.length = N := ⟨_, rfl⟩
  have HN := hideR hN
  have HP : HeldR (∀ v' w', BOwn w' w.heap.size v' (logV (L.take N)) → Below w.heap.size w w' → LgPost w.heap.size w (logV L) (.returned v') w') := hideR (fun v' w' h1 h2 => ⟨v', rfl, by rw [← hN, List.take_length] at h1; exact h1, h2⟩)
  have HT : HeldR (∀ i, i < N → L.take (i + 1) = L.take i ++ [L.getD i res0]) := hideR (fun i hi => by rw [List.take_add_one, List.getElem?_eq_getElem (by omega), List.getD_eq_getElem?_getD, List.getElem?_eq_getElem (by omega)]; rfl)
  generalize LgPost w.heap.size w (logV L) = POST at *
  rw [hN] at hl ⊢
  have hb0 := bytes_any (w := w) (B := w.heap.size) (v := .slice none 0 0) (b := []) 0 4 (Nat.le_refl _) (World.ownsRow_nil _ _ _ _) (by decide) (by decide) (by decide)
  rw [List.nil_append, le4_zero] at hb0
  clear hL hN
  go_enter Try.func7, Try.ntmps7
  go_wp2_with fail
  refine hb0.mono ?_
  rintro e w1 ⟨v1, rfl, h1, k1⟩
  obtain ⟨g1, c1, rfl, hb1, _, _⟩ := h1.where_ (by decide)
  have HA1 := hideR hb1
  have HB1 := hideR k1
  have HO1 : HeldR (BOwn w1 w.heap.size (.slice none 0 0) (logV (L.take 0))) := hideR (World.ownsRow_nil _ _ _ _)
  clear h1 hb1 k1 hb0
  go_wp2_with fail
  go_loopw [3, 4, 5] (fun ov av iv wl => ∃ (i g c : Nat), i ≤ N ∧ iv = .int .i64 (i : Nat) ∧ av = .slice (some ⟨g, 0, none⟩) 4 c ∧ HeldR (BOwn wl w.heap.size ov (logV (L.take i))) ∧ HeldR (BAt wl (some ⟨g, 0, none⟩) (lastF z4 (L.take i))) ∧ HeldR (Below w.heap.size w wl)) (fun _ _ iv _ => N + 1 - (intOf iv).toNat)
  case atStart => exact ⟨0, g1, c1, by omega, rfl, rfl, HO1, HA1, HB1⟩
  case round =>
    clear HO1 HA1 HB1
    obtain ⟨i, g, c, hi, rfl, rfl, HO, HA, HB⟩ := hrel
    obtain ⟨ao, co, eo⟩ := (unhideR HO).slice
    subst eo
    obtain ⟨N9, hN9⟩ : ∃ N9, (logV (L.take i)).length = N9 := ⟨_, rfl⟩
    have hN9b : N9 ≤ 112000 := by rw [← hN9, logV_len, List.length_take]; omega
    have HN9 := hideR hN9
    rw [hN9]
    clear hN9
    by_cases q : i < N
    · have ti : decide ((i : Int) < (N : Int)) = true := decide_eq_true (by omega)
      have tin : decide (i < N) = true := decide_eq_true q
      have wi : IntKind.i64.wrap ((i : Int) + 1) = (i : Int) + 1 := iwrap (by omega) (by omega)
      have hii : (i : Int) < (N : Int) := by omega
      obtain ⟨bb, off, had, hbb, hE⟩ := (unhideR HL wr (unhideR HB)).at_ i (by rw [unhideR HN]; exact q)
      subst had
      have HX : HeldR (logV (L.take (i + 1)) = (logV (L.take i) ++ recB (L.getD i res0)) ++ chk (lastF z4 (L.take i)) (L.getD i res0) ∧ lastF z4 (L.take (i + 1)) = chk (lastF z4 (L.take i)) (L.getD i res0)) := hideR (by
        rw [unhideR HT i q, logV_snoc, lastF_snoc]
        exact ⟨by simp, rfl⟩)
      have HAl : HeldR ((lastF z4 (L.take i)).length = 4) := hideR (lastF_len _ _ rfl)
      obtain ⟨O2, hO2⟩ : ∃ O2, logV (L.take (i + 1)) = O2 := ⟨_, rfl⟩
      obtain ⟨A2, hA2⟩ : ∃ A2, lastF z4 (L.take (i + 1)) = A2 := ⟨_, rfl⟩
      rw [hO2, hA2] at HX
      have HO2 := hideR hO2
      have HA2 := hideR hA2
      clear hO2 hA2
      generalize logV (L.take i) = OUT at *
      generalize lastF z4 (L.take i) = A at *
      generalize L.getD i res0 = r at *
      have HE := hideR hE
      have x1 : IntKind.u64.wrap r.i = (u64 r.i : Nat) := wrap_u64 _
      have x2 : IntKind.u64.wrap r.s = (u64 r.s : Nat) := wrap_u64 _
      have x3 : IntKind.u64.wrap r.l = (u64 r.l : Nat) := wrap_u64 _
      have hb1 := bytes_any (w := wr) (B := wr.heap.size) (v := .slice none 0 0) (b := []) (u64 r.i) 8 (Nat.le_refl _) (World.ownsRow_nil _ _ _ _) (u64_lt _) (by decide) (by decide)
      have hb2 := fun (u : World) (v : Value) (k : wr.heap.size ≤ u.heap.size) (h : BOwn u wr.heap.size v (leB 8 (u64 r.i))) => bytes_any (u64 r.s) 8 k h (u64_lt _) (by decide) (by rw [leB_len]; decide)
      have hb3 := fun (u : World) (v : Value) (k : wr.heap.size ≤ u.heap.size) (h : BOwn u wr.heap.size v (leB 8 (u64 r.i) ++ leB 8 (u64 r.s))) => bytes_any (u64 r.l) 8 k h (u64_lt _) (by decide) (by rw [List.length_append, leB_len, leB_len]; decide)
      have HR : HeldR ((leB 8 (u64 r.i) ++ leB 8 (u64 r.s)) ++ leB 8 (u64 r.l) = recB r) := hideR (by unfold recB; simp)
      rw [unhideR HR] at hb3
      rw [List.nil_append] at hb1
      have HCk : HeldR (chk A r = leB 4 (sumB (sumB 0 A) (recB r))) := hideR rfl
      have hs1 : sumB 0 A < 4294967296 := sumB_lt _ _ (by decide)
      have hs2 : sumB (sumB 0 A) (recB r) < 4294967296 := sumB_lt _ _ hs1
      generalize leB 8 (u64 r.i) ++ leB 8 (u64 r.s) = B2 at *
      generalize leB 8 (u64 r.i) = B1 at *
      generalize u64 r.i = u1 at *
      generalize u64 r.s = u2 at *
      generalize u64 r.l = u3 at *
      have e0 := hE.c0
      go_wp2_with fail
      refine hb1.mono ?_
      rintro e w2 ⟨v2, rfl, h2, k2⟩
      have e1 := (hE.below k2 hbb).c1
      have k2s := k2.size
      clear hb1 e0
      go_wp2_with fail
      refine (hb2 _ _ k2s h2).mono ?_
      rintro e w3 ⟨v3, rfl, h3, k3⟩
      have e2 := (hE.below (k2.trans k3) hbb).c2
      have k3s := k3.size
      clear hb2 e1 h2
      go_wp2_with fail
      refine (hb3 _ _ (Nat.le_trans k2s k3s) h3).mono ?_
      rintro e w4 ⟨v4, rfl, h4, k4⟩
      have k14 := (k2.trans k3).trans k4
      obtain ⟨g4, c4, rfl, ha4, hg4, hg4b⟩ := h4.where_ (by rw [recB_len]; decide)
      have hA4 := (unhideR HA).below k14
      have HO4 := hideR (own_below2 (unhideR HO) k14)
      have HOlt : HeldR (∀ k, (Value.slice ao N9 co).ownBlock = some k → k < wr.heap.size) := hideR (fun k e => by
        have h0 := unhideR HO
        rw [unhideR HN9] at h0
        exact (h0.lt k e).2)
      have HB4 := hideR (below_go (unhideR HB) k14)
      have hsA := sumOf_any (cap := c) 0 hA4 (by decide) (by rw [unhideR HAl]; decide)
      rw [unhideR HAl] at hsA
      have hsB := sumOf_any (cap := c4) (sumB 0 A) ha4 hs1 (by rw [recB_len]; decide)
      rw [recB_len] at hsB ⊢
      have Ha4 := hideR ha4
      have HRl : HeldR ((recB r).length = 24) := hideR (recB_len r)
      have k14s := k14.size
      clear hb3 e2 h3 h4 k2 k3 k4 k2s k3s hE HE HB HO HA x1 x2 x3 hA4 ha4 HR HAl
      generalize sumB (sumB 0 A) (recB r) = s2 at *
      generalize sumB 0 A = s1 at *
      generalize recB r = RB at *
      go_wp2_with fail
      refine hsA.mono ?_
      rintro e w5 ⟨rfl, rfl⟩
      go_wp2_with fail
      refine hsB.mono ?_
      rintro e w6 ⟨rfl, rfl⟩
      have xs : IntKind.u64.wrap (s2 : Int) = (s2 : Nat) := uwrap (by omega) (by omega)
      have hb4 := bytes_any (w := w6) (B := w6.heap.size) (v := .slice none 0 0) (b := []) s2 4 (Nat.le_refl _) (World.ownsRow_nil _ _ _ _) (by omega) (by decide) (by decide)
      rw [List.nil_append, ← unhideR HCk] at hb4
      generalize chk A r = CK at *
      have HCl : HeldR (CK.length = 4) := hideR (by rw [unhideR HCk]; exact leB_len _ _)
      clear hsA hsB HCk
      go_wp2_with fail
      refine hb4.mono ?_
      rintro e w7 ⟨v7, rfl, h7, k7⟩
      obtain ⟨g7, c7, rfl, ha7, hg7, hg7b⟩ := h7.where_ (by rw [unhideR HCl]; decide)
      rw [unhideR HCl]
      have HO7 : HeldR (w7.ownsRow w.heap.size 5 1 (.slice ao N9 co) N9 (byCells OUT)) := hideR (by
        have := own_below2 (unhideR HO4) k7
        rw [unhideR HN9] at this
        exact this)
      have HB7 := hideR (below_go (unhideR HB4) k7)
      have Ha47 := hideR ((unhideR Ha4).below k7)
      have Ha7 := hideR ha7
      have hRB := byCells_len RB
      rw [unhideR HRl] at hRB
      have hCK := byCells_len CK
      rw [unhideR HCl] at hCK
      have hwB := (unhideR HB7).size
      have k7s := k7.size
      clear hb4 h7 k7 HO4 HB4 Ha4 ha7 hs1 hs2
      go_wp2_with (first
        | (at_builtin; refine wpList_append_two rfl _ _ 23 rfl w.heap.size 5 i0 (.int .u8 0) 1 1 Try.underlying23 hi0 hz0 hz1 hz2 rfl (by decide) _ N9 _ rfl (unhideR HO7) ⟨g4, 0, none⟩ 24 c4 (byCells RB) rfl ?d0 ?c1 ?c2 ?c3 ?c4 ?c5 (by decide) ?_))
      case d0 => rw [hRB]
      case c1 => exact (unhideR Ha47).cells
      case c2 => exact byCells_one RB
      case c3 => unfold maxLen; omega
      case c4 => omega
      case c5 => exact hwB
      intro v8 w8 hown hgrow hblk
      have HB8 := hideR ((unhideR HB7).grown hgrow hwB (fun k e => ((unhideR HO7).lt k e).1))
      have Ha78 := hideR ((unhideR Ha7).grown hgrow (fun a0 ha e => by
        cases ha
        have := unhideR HOlt _ e.symm
        simp only at this
        omega))
      have Hbk : HeldR (some g7 ≠ v8.ownBlock) := hideR (by
        intro e
        rcases hblk with h | h
        · rw [h] at e
          have := unhideR HOlt _ e.symm
          omega
        · rw [h] at e
          injection e with e
          omega)
      have HO8 := hideR hown
      have hwB8 := (unhideR HB8).size
      clear hown hgrow hblk HO7 HB7 Ha47 Ha7 HOlt
      go_wp2_with (first
        | (at_builtin; refine wpList_append_own _ rfl _ _ 23 rfl w.heap.size 5 i0 (.int .u8 0) 1 1 Try.underlying23 hi0 hz0 hz1 hz2 rfl (by decide) _ (N9 + 24) _ rfl (unhideR HO8) ⟨g7, 0, none⟩ 4 c7 (byCells CK) rfl ?d0 ?c1 ?c2 ?c3 ?c4 ?c5 ?_))
      case d0 => rw [hCK]
      case c1 => exact (unhideR Ha78).cells
      case c2 => exact byCells_one CK
      case c3 => unfold maxLen; omega
      case c4 => omega
      case c5 => exact hwB8
      intro v9 w9 hown hgrow _
      have HB9 := hideR ((unhideR HB8).grown hgrow hwB8 (fun k e => ((unhideR HO8).lt k e).1))
      have Ha9 : HeldR (BAt w9 (some ⟨g7, 0, none⟩) (lastF z4 (L.take (i + 1)))) := hideR (by
        rw [unhideR HA2, (unhideR HX).2]
        exact (unhideR Ha78).grown hgrow (fun a0 ha => by cases ha; exact unhideR Hbk))
      have HO9 : HeldR (BOwn w9 w.heap.size v9 (logV (L.take (i + 1)))) := hideR (by
        rw [unhideR HO2, (unhideR HX).1]
        unfold BOwn
        rw [List.length_append, List.length_append, unhideR HN9, unhideR HRl, unhideR HCl]
        unfold byCells
        rw [List.map_append, List.map_append, List.append_assoc]
        exact hown)
      clear hown hgrow HB8 HO8 Ha78 Hbk
      go_wp2
      exact ⟨⟨i + 1, g7, c7, by omega, by go_num, rfl, HO9, Ha9, HB9⟩, by simp [intOf]; omega⟩
    · obtain rfl : i = N := by omega
      have ti : decide ((i : Int) < (i : Int)) = false := decide_eq_false (by omega)
      have tin : decide (i < i) = false := decide_eq_false (by omega)
      have hfin := unhideR HP _ _ (unhideR HO) (unhideR HB)
      rw [unhideR HN9] at hfin
      have HFin := hideR hfin
      clear hfin HO HA HB HL
      go_wp2
      exact unhideR HFin
end Go.Proofs.Ytfonpobdnhifgan
