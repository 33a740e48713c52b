/-
  A result out of its bytes; a sum behind another: the program's, by contract.
-/
import Derived.Test.YtfonpobdnhifganNgE2
import Derived.Shelf.Abstract
namespace Go.Proofs.Ytfonpobdnhifgan
open Go Go.RowKit

set_option maxRecDepth 100000 in
set_option maxHeartbeats 3200000 in
theorem pbehind_any {w : World} {ad : Option Addr} {cap : Nat} {b : Bs} (s : Nat) (h : BAt w ad b) (hs : s < 4294967296) (hb : b.length ≤ 1000000) :
    Calls Try.prog 13 #[.int .u32 (s : Nat), .slice ad b.length cap] w fun e w' => e = .returned (.int .u32 (sumN s b : Nat)) ∧ Below w.heap.size w w' := by
  have hl := plow_any (w := w) (B := w.heap.size) (v := .slice none 0 0) (b := []) s 4 (Nat.le_refl _) (World.ownsRow_nil _ _ _ _) (by omega) (by decide) (by decide)
  rw [List.nil_append] at hl
  have hw : IntKind.u64.wrap ((s : Nat) : Int) = (s : Int) := uwrap (by omega) (by omega)
  have H := hideR h
  have hl4 : ((4 : Nat) : Int) = 4 := rfl
  rw [hl4] at hl
  unfold sumN
  have hs1 : sumB 0 (leB 4 s) < 4294967296 := sumB_lt _ _ (by decide)
  generalize hx : sumB 0 (leB 4 s) = x at *
  clear h
  go_enter Try.func13, Try.ntmps13
  go_wp2_with fail
  refine hl.mono ?_
  rintro r1 u1 ⟨v1, rfl, h1, k1⟩
  obtain ⟨a1, c1, e1, hb1⟩ := h1.bytes
  subst e1
  have hm1 := psummed_any (cap := c1) 0 hb1 (by decide) (by rw [leB_len]; decide)
  rw [hx] at hm1
  have e0 : ((0 : Nat) : Int) = 0 := rfl
  rw [e0, leB_len] at hm1
  rw [leB_len]
  have hm2 := psummed_any (cap := cap) x ((unhideR H).below k1) hs1 hb
  have HK := hideR k1
  clear h1 k1 hl hb1 H hx
  go_wp2_with fail
  refine hm1.mono ?_
  rintro r2 u2 ⟨rfl, rfl⟩
  clear hm1
  go_wp2_with fail
  refine hm2.mono ?_
  rintro r3 u3 ⟨rfl, rfl⟩
  clear hm2
  go_wp2
  go_ret
  exact ⟨rfl, unhideR HK⟩
theorem i64_of {n : Nat} (h : n < 18446744073709551616) : IntKind.i64.wrap (n : Int) = i64 n := i64_wrap h
set_option maxRecDepth 100000 in
set_option maxHeartbeats 3200000 in
theorem presF_any {W : World} {g b off cap : Nat} {x : Bs} (hg : W.heap[g]? = some (.cells #[.slice (some ⟨b, off, none⟩) 24 cap] 23)) (hx : BAt W (some ⟨b, off, none⟩) x) (hl : x.length = 24) (hc : 24 ≤ cap) {i : Nat} (hi : i < 3) :
    Calls Try.prog 22 #[.int .i64 (i : Nat), .pointer (some ⟨g, 0, none⟩)] W fun e w' => e = .returned (.int .i64 (i64 (unLe ((x.drop (8 * i)).take 8)))) ∧ w' = W := by
  have g0 := (cells_at hg 0 (by simp)).1
  have hp := BAt.part hx (8 * i) 8
  have hpl : ((x.drop (8 * i)).take 8).length = 8 := by rw [List.length_take, List.length_drop]; omega
  have hf := fun c => pfrom_any (cap := c) hp (by omega)
  rw [hpl] at hf
  have hbd : unLe ((x.drop (8 * i)).take 8) < 18446744073709551616 := by
    have := unLe_lt ((x.drop (8 * i)).take 8)
    rw [hpl] at this
    exact Nat.lt_of_lt_of_le this (by decide)
  have hwr := i64_wrap hbd
  generalize unLe ((x.drop (8 * i)).take 8) = n at *
  clear hx hg hp hpl
  have w1 : IntKind.i64.wrap ((i : Int) * 8) = (i : Int) * 8 := iwrap (by omega) (by omega)
  have w2 : IntKind.i64.wrap ((i : Int) + 1) = (i : Int) + 1 := iwrap (by omega) (by omega)
  have w3 : IntKind.i64.wrap (((i : Int) + 1) * 8) = ((i : Int) + 1) * 8 := iwrap (by omega) (by omega)
  go_enter Try.func22, Try.ntmps22
  go_wp2_with fail
  rw [show (i + 1) * 8 - i * 8 = 8 by omega, Nat.mul_comm i 8]
  refine (hf _).mono ?_
  rintro r1 u1 ⟨rfl, rfl⟩
  clear hf
  go_wp2
  go_ret
  exact ⟨rfl, rfl⟩
theorem resAt_parts (x : Bs) : resAt x = ⟨i64 (unLe ((x.drop (8 * 0)).take 8)), i64 (unLe ((x.drop (8 * 1)).take 8)), i64 (unLe ((x.drop (8 * 2)).take 8))⟩ := by
  unfold resAt
  rw [Nat.mul_zero, List.drop_zero]
set_option maxRecDepth 100000 in
set_option maxHeartbeats 3200000 in
theorem pres_any {w : World} {b off cap : Nat} {x : Bs} (hx : BAt w (some ⟨b, off, none⟩) x) (hl : x.length = 24) (hc : 24 ≤ cap) :
    Calls Try.prog 19 #[.slice (some ⟨b, off, none⟩) 24 cap] w fun e w' => e = .returned (resAt x).val ∧ Below w.heap.size w w' := by
  have eg := enters_of Try.func22 (by kernel_rfl) rfl
  have z0 := alloc_last w (.cells #[.slice (some ⟨b, off, none⟩) 24 cap] 23)
  have HB := hideR (below_a w (.cells #[.slice (some ⟨b, off, none⟩) 24 cap] 23))
  have HF : HeldR (∀ u, Below (w.alloc (.cells #[.slice (some ⟨b, off, none⟩) 24 cap] 23)).heap.size (w.alloc (.cells #[.slice (some ⟨b, off, none⟩) 24 cap] 23)) u → ∀ i : Nat, i < 3 → Calls Try.prog 22 #[.int .i64 (i : Nat), .pointer (some ⟨w.heap.size, 0, none⟩)] u fun e w' => e = .returned (.int .i64 (i64 (unLe ((x.drop (8 * i)).take 8)))) ∧ w' = u) := hideR (fun u hu i hi =>
    presF_any (keepB z0 hu) (hx.below (below_go (unhideR HB) hu)) hl hc hi)
  have z2 := alloc_last (w.alloc (.cells #[.slice (some ⟨b, off, none⟩) 24 cap] 23)) (.cells #[.int .i64 0, .int .i64 0, .int .i64 0] 28)
  have hB2 := below_a (w.alloc (.cells #[.slice (some ⟨b, off, none⟩) 24 cap] 23)) (.cells #[.int .i64 0, .int .i64 0, .int .i64 0] 28)
  have HB3 := hideR (below_go (unhideR HB) hB2)
  have hc0 := unhideR HF _ hB2 0 (by decide)
  have hc1 := unhideR HF _ hB2 1 (by decide)
  have hc2 := unhideR HF _ hB2 2 (by decide)
  rw [World.size_alloc] at z2
  have e0 : ((0 : Nat) : Int) = 0 := rfl
  have e1 : ((1 : Nat) : Int) = 1 := rfl
  have e2 : ((2 : Nat) : Int) = 2 := rfl
  rw [e0] at hc0
  rw [e1] at hc1
  rw [e2] at hc2
  rw [resAt_parts]
  unfold Res.val
  generalize i64 (unLe ((x.drop (8 * 0)).take 8)) = n0 at *
  generalize i64 (unLe ((x.drop (8 * 1)).take 8)) = n1 at *
  generalize i64 (unLe ((x.drop (8 * 2)).take 8)) = n2 at *
  clear hB2 HF z0 hx e0 e1 e2
  go_enter Try.func19, Try.ntmps19
  go_wp2_with fail
  generalize (w.alloc (.cells #[.slice (some ⟨b, off, none⟩) 24 cap] 23)).alloc (.cells #[.int .i64 0, .int .i64 0, .int .i64 0] 28) = U at *
  refine hc0.mono ?_
  rintro r1 u1 ⟨rfl, rfl⟩
  clear hc0
  go_wp2_with fail
  refine hc1.mono ?_
  rintro r1 u2 ⟨rfl, rfl⟩
  clear hc1
  go_wp2_with fail
  refine hc2.mono ?_
  rintro r1 u3 ⟨rfl, rfl⟩
  clear hc2
  have a0 := (cells_at z2 0 (by simp)).1
  have f0 := (cells_at z2 0 (by simp)).2
  have a1 := (cells_at z2 1 (by simp)).1
  have f1 := (cells_at z2 1 (by simp)).2
  have a2 := (cells_at z2 2 (by simp)).1
  have f2 := (cells_at z2 2 (by simp)).2
  have Hz := hideR z2
  clear z2
  go_wp2
  have o : (((u3.setCell ⟨w.heap.size + 1, 0, none⟩ (.int .i64 n0)).setCell ⟨w.heap.size + 1, 1, none⟩ (.int .i64 n1)).setCell ⟨w.heap.size + 1, 2, none⟩ (.int .i64 n2)).heap[w.heap.size + 1]? = some (.cells #[.int .i64 n0, .int .i64 n1, .int .i64 n2] 28) := heap_setCell_same _ _ _ _ _ _ (heap_setCell_same _ _ _ _ _ _ (heap_setCell_same _ _ _ _ _ _ (unhideR Hz)))
  have o0 := (cells_at o 0 (by simp)).1
  have o1 := (cells_at o 1 (by simp)).1
  have o2 := (cells_at o 2 (by simp)).1
  simp [bodyPost, results, Try.results19, go_sem, o0, o1, o2]
  have hlt : w.heap.size ≤ w.heap.size + 1 := by omega
  exact (((unhideR HB3).setCell (p := ⟨w.heap.size + 1, 0, none⟩) hlt _).setCell (p := ⟨w.heap.size + 1, 1, none⟩) hlt _).setCell (p := ⟨w.heap.size + 1, 2, none⟩) hlt _
end Go.Proofs.Ytfonpobdnhifgan
