/-
  A log's bytes: the program's Bytes, by contract.
-/
import Derived.Test.YtfonpobdnhifganNgE5
namespace Go.Proofs.Ytfonpobdnhifgan
open Go Go.RowKit

def ByPost (L : List Res) (w : World) (e : Ending) (w' : World) : Prop := (∃ v, e = .returned v ∧ ByIs w' v (logV L)) ∧ Below w.heap.size w w'
theorem byIs_own {w : World} {B : Nat} {v : Value} {l : Bs} (h : BOwn w B v l) : ByIs w v l := by
  obtain ⟨ad, cap, e, hb⟩ := h.bytes
  refine ⟨ad, cap, e, hb, ?_, ?_⟩
  · rcases h.2 with ⟨h1, h2⟩ | ⟨g, cap', cur, e', _, _, hc, _⟩
    · rw [h1] at e
      simp only [Value.slice.injEq] at e
      omega
    · rw [e'] at e
      simp only [Value.slice.injEq] at e
      omega
  · rcases h.2 with ⟨h1, h2⟩ | ⟨g, cap', cur, e', _, _, hc, _⟩
    · rw [h1] at e
      simp only [Value.slice.injEq] at e
      exact .inl ⟨e.1.symm, h2, e.2.2.symm⟩
    · rw [e'] at e
      simp only [Value.slice.injEq] at e
      exact .inr ⟨g, 0, e.1.symm⟩
set_option maxRecDepth 100000 in
set_option maxHeartbeats 6400000 in
theorem pbytes_any {w : World} {p : Nat} {L : List Res} {O : Nat → Prop} (h : LRep w p L O) (hL : L.length ≤ 100) :
    Calls Try.prog 6 #[.pointer (some ⟨p, 0, none⟩)] w (ByPost L w) := by
  obtain ⟨i0, hi0, hz0, hz1, hz2⟩ := info_parts infoB
  obtain ⟨v, hx, _⟩ := h
  obtain ⟨ad, cap, ev⟩ := ownsRow_slice hx.st
  subst ev
  obtain ⟨w1, hmk, hb0, hbl⟩ := make_bytes (w := w) (m := L.length * 28) (by omega)
  have hcm := RsOwn.came (t := 28) (B := 0) hx.st
  obtain ⟨ad2, cap2, e2, hcm⟩ := hcm
  simp only [Value.slice.injEq] at e2
  obtain ⟨rfl, _, rfl⟩ := e2
  have HL : HeldR (∀ u, Below w.heap.size w u → RsCame u ad L) := hideR (fun u q => hcm.below q)
  have HPt : HeldR (∀ u, Below w.heap.size w u → u.heap[p]? = some (.cells #[.slice ad L.length cap] 40)) := hideR (fun u q => keepB hx.hp q)
  have HP : HeldR (∀ v' w', BOwn w' w.heap.size v' (logV (L.take L.length)) → Below w.heap.size w w' → ByPost L w (.returned v') w') := hideR (fun v' w' h1 h2 => by
    rw [List.take_length] at h1
    exact ⟨⟨v', rfl, byIs_own h1⟩, h2⟩)
  have HT : HeldR (∀ i, i < L.length → L.take (i + 1) = L.take i ++ [L.getD i res0]) := hideR (fun i hi => by rw [List.take_add_one, List.getElem?_eq_getElem (by omega), List.getD_eq_getElem?_getD, List.getElem?_eq_getElem (by omega)]; rfl)
  have HLl : HeldR (∀ i, i ≤ L.length → (logV (L.take i)).length = 28 * i) := hideR (fun i hi => by rw [logV_len, List.length_take]; omega)
  generalize ByPost L w = POST at *
  have c0 := (cells_at hx.hp 0 (by simp)).1
  obtain ⟨n, hn⟩ : ∃ n, L.length = n := ⟨_, rfl⟩
  have HN := hideR hn
  rw [hn] at hL hmk hb0 HPt HP HT HLl c0
  have wm : IntKind.i64.wrap ((n : Int) * 28) = (n : Int) * 28 := iwrap (by omega) (by omega)
  have en : (n : Int) * 28 = ((n * 28 : Nat) : Int) := by omega
  rw [← en] at hmk
  have c1 := (cells_at (unhideR HPt w1 hbl) 0 (by simp)).1
  have HO0 := hideR hb0
  have HB0 := hideR hbl
  clear hx hcm hb0 hbl hn en
  go_enter Try.func6, Try.ntmps6
  go_wp2_with fail
  clear hmk c0 c1
  go_loopw [3, 4, 20] (fun bv sv iv wl => ∃ (i s : Nat), i ≤ n ∧ s < 4294967296 ∧ iv = .int .i64 (i : Nat) ∧ sv = .int .u32 (s : Nat) ∧ HeldR (lastF z4 (L.take i) = leB 4 s) ∧ HeldR (BOwn wl w.heap.size bv (logV (L.take i))) ∧ HeldR (Below w.heap.size w wl)) (fun _ _ iv _ => n + 1 - (intOf iv).toNat)
  case atStart => exact ⟨0, 0, by omega, by decide, rfl, rfl, hideR (by rw [le4_zero]; rfl), HO0, HB0⟩
  case round =>
    clear HO0 HB0
    obtain ⟨i, s, hi, hs, rfl, rfl, HS, HO, HB⟩ := hrel
    by_cases q : i < n
    · have ti : decide ((i : Int) < (n : Int)) = true := decide_eq_true (by omega)
      have tin : decide (i < n) = true := decide_eq_true q
      have wi : IntKind.i64.wrap ((i : Int) + 1) = (i : Int) + 1 := iwrap (by omega) (by omega)
      have hii : (i : Int) < (n : Int) := by omega
      obtain ⟨b2, off, had, hb2, hr⟩ := (unhideR HL wr (unhideR HB)).at_ i (by rw [unhideR HN]; exact q)
      subst had
      have r0 := hr.c0
      have r1 := hr.c1
      have r2 := hr.c2
      have HT2 := hideR (unhideR HT i q)
      have hll := unhideR HLl i hi
      have Hll := hideR hll
      obtain ⟨r, hrr⟩ : ∃ r, L.getD i res0 = r := ⟨_, rfl⟩
      rw [hrr] at r0 r1 r2 HT2
      clear hr hrr
      have z6 := alloc_last wr (.cells #[.int .i64 r.i, .int .i64 r.s, .int .i64 r.l] 28)
      have x0 := (cells_at z6 0 (by simp)).1
      have x1 := (cells_at z6 1 (by simp)).1
      have x2 := (cells_at z6 2 (by simp)).1
      have hnu := pnums_any r (wr.alloc (.cells #[.int .i64 r.i, .int .i64 r.s, .int .i64 r.l] 28))
      unfold Res.val at hnu
      have HB1 := hideR ((unhideR HB).alloc (unhideR HB).size (.cells #[.int .i64 r.i, .int .i64 r.s, .int .i64 r.l] 28))
      have HO1 := hideR ((unhideR HO).below (below_a wr (.cells #[.int .i64 r.i, .int .i64 r.s, .int .i64 r.l] 28)))
      obtain ⟨ab, cb, eb⟩ := (unhideR HO).slice
      subst eb
      rw [hll]
      clear z6 HO HB hll
      go_wp2_with fail
      refine hnu.mono ?_
      rintro e1 u1 ⟨v1, rfl, h1, k1⟩
      obtain ⟨g1, c1, rfl, hb1, hg1, _⟩ := h1.where_ (by rw [recB_len]; decide)
      replace HB1 := hideR ((unhideR HB1).trans (k1.mono (unhideR HB1).size))
      replace HO1 := hideR ((unhideR HO1).below k1)
      have hsb := pbehind_any (cap := c1) s hb1 hs (by rw [recB_len]; decide)
      rw [recB_len] at hsb
      rw [recB_len]
      have HA := hideR hb1
      clear hnu x0 x1 x2 r0 r1 r2 h1 k1 hb1
      go_wp2_with fail
      refine hsb.mono ?_
      rintro e2 u2 ⟨rfl, k2⟩
      replace HB1 := hideR ((unhideR HB1).trans (k2.mono (unhideR HB1).size))
      replace HO1 := hideR ((unhideR HO1).below k2)
      replace HA := hideR ((unhideR HA).below k2)
      have hs2 := sumN_bd s (recB r)
      have HS2 : HeldR (lastF z4 (L.take (i + 1)) = leB 4 (sumN s (recB r)) ∧ logV (L.take (i + 1)) = (logV (L.take i) ++ recB r) ++ leB 4 (sumN s (recB r))) := hideR (by
        have e := unhideR HS
        rw [unhideR HT2, lastF_snoc, logV_snoc, e]
        unfold chk
        exact ⟨rfl, by rw [List.append_assoc]; rfl⟩)
      clear hsb k2
      generalize sumN s (recB r) = s2 at *
      have hw : IntKind.u64.wrap ((s2 : Nat) : Int) = (s2 : Int) := uwrap (by omega) (by omega)
      have HO2 := unhideR HO1
      unfold BOwn at HO2
      rw [unhideR Hll] at HO2
      go_wp2_with (first
        | (at_builtin; refine wpList_append_own _ rfl _ _ 23 rfl w.heap.size 5 i0 (.int .u8 0) 1 1 Try.underlying23 hi0 hz0 hz1 hz2 rfl (by decide) _ (28 * i) _ rfl HO2 ⟨g1, 0, none⟩ 24 c1 (byCells (recB r)) rfl (by rw [byCells_len, recB_len]) ?c1 (byCells_one _) ?c3 ?c4 ?c5 ?_))
      case c1 => exact (unhideR HA).cells
      case c3 => unfold maxLen; omega
      case c4 => omega
      case c5 => exact (unhideR HB1).size
      intro v3 w3 hown hgrow _
      replace HB1 := hideR ((unhideR HB1).grown hgrow (unhideR HB1).size (fun k e => (HO2.lt k e).1))
      have HO3 : HeldR (BOwn w3 w.heap.size v3 (logV (L.take i) ++ recB r)) := hideR (by
        unfold BOwn
        rw [List.length_append, unhideR Hll, recB_len]
        unfold byCells
        rw [List.map_append]
        exact hown)
      have hlo := plow_any s2 4 (unhideR HB1).size (unhideR HO3) (by omega) (by decide) (by rw [List.length_append, unhideR Hll, recB_len]; omega)
      have e4 : ((4 : Nat) : Int) = 4 := rfl
      rw [e4, ← (unhideR HS2).2] at hlo
      obtain ⟨a3, c3, e3⟩ := (unhideR HO3).slice
      rw [List.length_append, unhideR Hll, recB_len] at e3
      subst e3
      clear hown hgrow HO2 HO1 HA HO3 HS HT2
      go_wp2_with fail
      refine hlo.mono ?_
      rintro e5 u5 ⟨v5, rfl, h5, k5⟩
      replace HB1 := hideR ((unhideR HB1).trans k5)
      have HO5 := hideR h5
      have HS5 := hideR (unhideR HS2).1
      clear hlo h5 k5 HS2
      go_wp2
      exact ⟨⟨i + 1, s2, by omega, hs2, by go_num, rfl, HS5, HO5, HB1⟩, by simp [intOf]; omega⟩
    · obtain rfl : i = n := by omega
      have ti : decide ((i : Int) < (i : Int)) = false := decide_eq_false (by omega)
      have tin : decide (i < i) = false := decide_eq_false (by omega)
      go_wp2
      exact unhideR HP _ _ (unhideR HO) (unhideR HB)
end Go.Proofs.Ytfonpobdnhifgan
