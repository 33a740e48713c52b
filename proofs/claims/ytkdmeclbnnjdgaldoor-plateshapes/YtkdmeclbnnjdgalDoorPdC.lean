/-
  Alike shapes: the program's, by contract.
-/
import Derived.Test.YtkdmeclbnnjdgalDoorPdB
import Derived.Test.YtkdmeclbnnjdgalDoorSenA
namespace Go.Proofs.YtkdmeclbnnjdgalDoor
open Go Go.RowKit

theorem within_int (m l M L k : Int) (w : World) (m0 : 0 ≤ m) (m1 : m ≤ 274877906944) (l0 : 0 ≤ l) (l1 : l ≤ 274877906944) (M0 : 0 ≤ M) (M1 : M ≤ 274877906944) (L0 : 0 ≤ L) (L1 : L ≤ 274877906944) (k0 : 0 ≤ k) (k1 : k ≤ 1000) :
    Calls Tryd.prog 67 #[.int .i64 m, .int .i64 l, .int .i64 M, .int .i64 L, .int .i64 k] w fun e w' => e = .returned (.bool (nearB m l M L k)) ∧ Below w.heap.size w w' := by
  obtain ⟨a, rfl⟩ := Int.eq_ofNat_of_zero_le m0
  obtain ⟨b, rfl⟩ := Int.eq_ofNat_of_zero_le l0
  obtain ⟨c, rfl⟩ := Int.eq_ofNat_of_zero_le M0
  obtain ⟨d, rfl⟩ := Int.eq_ofNat_of_zero_le L0
  obtain ⟨f, rfl⟩ := Int.eq_ofNat_of_zero_le k0
  exact within_any a b c d f w (by omega) (by omega) (by omega) (by omega) (by omega)
def tolB (k : Int) : Bool := decide (0 ≤ k ∧ k ≤ 1000)
set_option maxRecDepth 100000 in
theorem tol_any (k : Int) (w : World) : Calls Tryd.prog 39 #[.int .i64 k] w fun e w' => e = .returned (.bool (tolB k)) ∧ w' = w := by
  obtain ⟨R, hR⟩ : ∃ R, tolB k = R := ⟨_, rfl⟩
  rw [hR]
  unfold tolB at hR
  have HR := hideR hR
  clear hR
  go_enter Tryd.func39, Tryd.ntmps39
  go_wp2
  all_goals go_ret
  all_goals
    refine ⟨congrArg (fun b => Ending.returned (.bool b)) ?_, rfl⟩
    rw [← unhideR HR, Bool.eq_iff_iff]
    simp
    try omega
set_option maxRecDepth 100000 in
set_option maxHeartbeats 6400000 in
theorem pShape_any (s : Shp) (w : World) : Calls Tryd.prog 40 #[s.val] w fun e w' => e = .returned (.bool (shpB s)) ∧ Below w.heap.size w w' := by
  obtain ⟨sl, sm, ss, sh⟩ := s
  unfold shpB Shp.val
  simp only
  obtain ⟨R, hR⟩ : ∃ R, decide (1 ≤ ss ∧ ss ≤ sm ∧ sm ≤ sl ∧ sl ≤ 274877906944 ∧ -1 ≤ sh ∧ sh ≤ 1) = R := ⟨_, rfl⟩
  rw [hR]
  have HR := hideR hR
  have hz := alloc_last w (.cells #[.int .i64 sl, .int .i64 sm, .int .i64 ss, .int .i64 sh] 41)
  have x0 := (cells_at hz 0 (by simp)).1
  have x1 := (cells_at hz 1 (by simp)).1
  have x2 := (cells_at hz 2 (by simp)).1
  have x3 := (cells_at hz 3 (by simp)).1
  have hbw := below_a w (.cells #[.int .i64 sl, .int .i64 sm, .int .i64 ss, .int .i64 sh] 41)
  clear hR hz
  go_enter Tryd.func40, Tryd.ntmps40
  go_wp2
  all_goals go_ret
  all_goals
    refine ⟨congrArg (fun b => Ending.returned (.bool b)) ?_, by first | exact hbw | exact below_a w _⟩
    rw [← unhideR HR, Bool.eq_iff_iff]
    simp
    try omega
theorem shp_is {s : Shp} (h : shpB s = true) : 1 ≤ s.sh ∧ s.sh ≤ s.mi ∧ s.mi ≤ s.lo ∧ s.lo ≤ 274877906944 ∧ -1 ≤ s.ha ∧ s.ha ≤ 1 := of_decide_eq_true h
set_option maxRecDepth 100000 in
set_option maxHeartbeats 6400000 in
theorem alikeP_any (a b : Shp) (k : Int) (w : World) (ha : shpB a = true) (hb : shpB b = true) (k0 : 0 ≤ k) (k1 : k ≤ 1000) :
    Calls Tryd.prog 41 #[a.val, b.val, .int .i64 k] w fun e w' => e = .returned (.bool (alikeB a b k)) ∧ Below w.heap.size w w' := by
  have h1 := shp_is ha
  have h2 := shp_is hb
  clear ha hb
  obtain ⟨al, am, as_, ah⟩ := a
  obtain ⟨bl, bm, bs, bh⟩ := b
  unfold alikeB Shp.val
  simp only at *
  have c1 := fun u => within_int am al bm bl k u (by omega) (by omega) (by omega) (by omega) (by omega) (by omega) (by omega) (by omega) k0 k1
  have c2 := fun u => within_int as_ al bs bl k u (by omega) (by omega) (by omega) (by omega) (by omega) (by omega) (by omega) (by omega) k0 k1
  clear h1 h2 k0 k1
  generalize nearB am al bm bl k = N1 at *
  generalize nearB as_ al bs bl k = N2 at *
  have z1 := keepA (o' := .cells #[.int .i64 bl, .int .i64 bm, .int .i64 bs, .int .i64 bh] 41) (alloc_last w (.cells #[.int .i64 al, .int .i64 am, .int .i64 as_, .int .i64 ah] 41))
  have z2 : ((w.alloc (.cells #[.int .i64 al, .int .i64 am, .int .i64 as_, .int .i64 ah] 41)).alloc (.cells #[.int .i64 bl, .int .i64 bm, .int .i64 bs, .int .i64 bh] 41)).heap[w.heap.size + 1]? = some (.cells #[.int .i64 bl, .int .i64 bm, .int .i64 bs, .int .i64 bh] 41) := by
    have := alloc_last (w.alloc (.cells #[.int .i64 al, .int .i64 am, .int .i64 as_, .int .i64 ah] 41)) (.cells #[.int .i64 bl, .int .i64 bm, .int .i64 bs, .int .i64 bh] 41)
    simpa using this
  have hbw := below_go (below_a w (.cells #[.int .i64 al, .int .i64 am, .int .i64 as_, .int .i64 ah] 41)) (below_a (w.alloc (.cells #[.int .i64 al, .int .i64 am, .int .i64 as_, .int .i64 ah] 41)) (.cells #[.int .i64 bl, .int .i64 bm, .int .i64 bs, .int .i64 bh] 41))
  by_cases q : ah = bh
  · have t1 : (ah == bh) = true := by simp [q]
    rw [decide_eq_true q]
    clear q
    cases N1 with
    | false =>
      go_enter Tryd.func41, Tryd.ntmps41
      go_upto_region 1 with fail
      generalize (w.alloc (.cells #[.int .i64 al, .int .i64 am, .int .i64 as_, .int .i64 ah] 41)).alloc (.cells #[.int .i64 bl, .int .i64 bm, .int .i64 bs, .int .i64 bh] 41) = wa at *
      generalize w.heap.size = K at z1 z2 ⊢
      have x0 := (cells_at z1 0 (by simp)).1
      have x1 := (cells_at z1 1 (by simp)).1
      have x2 := (cells_at z1 2 (by simp)).1
      have x3 := (cells_at z1 3 (by simp)).1
      have y0 := (cells_at z2 0 (by simp)).1
      have y1 := (cells_at z2 1 (by simp)).1
      have y2 := (cells_at z2 2 (by simp)).1
      have y3 := (cells_at z2 3 (by simp)).1
      go_wp2_with fail
      refine (c1 _).mono ?_
      rintro e v1 ⟨rfl, k1⟩
      go_wp2
      go_ret
      exact ⟨rfl, below_go hbw k1⟩
    | true =>
      go_enter Tryd.func41, Tryd.ntmps41
      go_upto_region 1 with fail
      generalize (w.alloc (.cells #[.int .i64 al, .int .i64 am, .int .i64 as_, .int .i64 ah] 41)).alloc (.cells #[.int .i64 bl, .int .i64 bm, .int .i64 bs, .int .i64 bh] 41) = wa at *
      generalize w.heap.size = K at z1 z2 ⊢
      have x0 := (cells_at z1 0 (by simp)).1
      have x1 := (cells_at z1 1 (by simp)).1
      have x2 := (cells_at z1 2 (by simp)).1
      have x3 := (cells_at z1 3 (by simp)).1
      have y0 := (cells_at z2 0 (by simp)).1
      have y1 := (cells_at z2 1 (by simp)).1
      have y2 := (cells_at z2 2 (by simp)).1
      have y3 := (cells_at z2 3 (by simp)).1
      go_wp2_with fail
      refine (c1 _).mono ?_
      rintro e v1 ⟨rfl, k1⟩
      replace z1 := keepB z1 k1
      replace z2 := keepB z2 k1
      clear x0 x1 x2 x3 y0 y1 y2 y3
      have x0 := (cells_at z1 0 (by simp)).1
      have x1 := (cells_at z1 1 (by simp)).1
      have x2 := (cells_at z1 2 (by simp)).1
      have x3 := (cells_at z1 3 (by simp)).1
      have y0 := (cells_at z2 0 (by simp)).1
      have y1 := (cells_at z2 1 (by simp)).1
      have y2 := (cells_at z2 2 (by simp)).1
      have y3 := (cells_at z2 3 (by simp)).1
      go_wp2_with fail
      refine (c2 _).mono ?_
      rintro e v2 ⟨rfl, k2⟩
      have hB := below_go (below_go hbw k1) k2
      cases N2 with
      | false =>
        go_wp2
        go_ret
        exact ⟨rfl, hB⟩
      | true =>
        go_wp2
        go_ret
        exact ⟨rfl, hB⟩
  · have t1 : (ah == bh) = false := by simp [q]
    rw [decide_eq_false q]
    go_enter Tryd.func41, Tryd.ntmps41
    go_upto_region 1 with fail
    generalize (w.alloc (.cells #[.int .i64 al, .int .i64 am, .int .i64 as_, .int .i64 ah] 41)).alloc (.cells #[.int .i64 bl, .int .i64 bm, .int .i64 bs, .int .i64 bh] 41) = wa at *
    generalize w.heap.size = K at z1 z2 ⊢
    have x0 := (cells_at z1 0 (by simp)).1
    have x1 := (cells_at z1 1 (by simp)).1
    have x2 := (cells_at z1 2 (by simp)).1
    have x3 := (cells_at z1 3 (by simp)).1
    have y0 := (cells_at z2 0 (by simp)).1
    have y1 := (cells_at z2 1 (by simp)).1
    have y2 := (cells_at z2 2 (by simp)).1
    have y3 := (cells_at z2 3 (by simp)).1
    go_wp2
    go_ret
    exact ⟨rfl, hbw⟩
theorem drewBl {B : Nat} {w u : World} (h : Below B w u) : Below B w u.drew := ⟨h.os, h.tape, h.output, h.size, h.block⟩
def okAl (a b : Shp) (k : Int) : Bool := tolB k && (shpB a && shpB b)
def AlPost (g : Nat → Addr) (a b : Shp) (k : Int) (w : World) (e : Ending) (w' : World) : Prop := (e = .returned (.tuple #[.bool (okAl a b k && alikeB a b k), if okAl a b k then .nilIface else .iface 207 (.pointer (some (g 4)))])) ∧ Below w.heap.size w w'
set_option maxRecDepth 100000 in
set_option maxHeartbeats 6400000 in
theorem alike_ok {g : Nat → Addr} {w : World} (hS : Sents w g) (a b : Shp) (k : Int) :
    Calls Tryd.prog 15 #[a.val, b.val, .int .i64 k] w (AlPost g a b k w) := by
  have c0 := fun u => tol_any k u
  have c1 := fun u => pShape_any a u
  have c2 := fun u => pShape_any b u
  have c3 := fun u (q1 : shpB a = true) (q2 : shpB b = true) (q3 : tolB k = true) => alikeP_any a b k u q1 q2 (of_decide_eq_true q3).1 (of_decide_eq_true q3).2
  unfold AlPost okAl
  obtain ⟨T, hT⟩ : ∃ T, tolB k = T := ⟨_, rfl⟩
  obtain ⟨X, hX⟩ : ∃ T, shpB a = T := ⟨_, rfl⟩
  obtain ⟨Y, hY⟩ : ∃ T, shpB b = T := ⟨_, rfl⟩
  obtain ⟨Z, hZ⟩ : ∃ T, alikeB a b k = T := ⟨_, rfl⟩
  rw [hT] at c0
  rw [hX] at c1
  rw [hY] at c2
  rw [hT, hX, hY, hZ]
  rw [hZ] at c3
  have hg := hS.g4
  have hGb : 0 < w.heap.size := by have := hS.big; omega
  obtain ⟨al, am, as_, ah⟩ := a
  obtain ⟨bl, bm, bs, bh⟩ := b
  unfold Shp.val at *
  simp only at *
  have z1 := keepA (o' := .cells #[.int .i64 bl, .int .i64 bm, .int .i64 bs, .int .i64 bh] 41) (alloc_last w (.cells #[.int .i64 al, .int .i64 am, .int .i64 as_, .int .i64 ah] 41))
  have z2 : ((w.alloc (.cells #[.int .i64 al, .int .i64 am, .int .i64 as_, .int .i64 ah] 41)).alloc (.cells #[.int .i64 bl, .int .i64 bm, .int .i64 bs, .int .i64 bh] 41)).heap[w.heap.size + 1]? = some (.cells #[.int .i64 bl, .int .i64 bm, .int .i64 bs, .int .i64 bh] 41) := by
    have := alloc_last (w.alloc (.cells #[.int .i64 al, .int .i64 am, .int .i64 as_, .int .i64 ah] 41)) (.cells #[.int .i64 bl, .int .i64 bm, .int .i64 bs, .int .i64 bh] 41)
    simpa using this
  have hbw := below_go (below_a w (.cells #[.int .i64 al, .int .i64 am, .int .i64 as_, .int .i64 ah] 41)) (below_a (w.alloc (.cells #[.int .i64 al, .int .i64 am, .int .i64 as_, .int .i64 ah] 41)) (.cells #[.int .i64 bl, .int .i64 bm, .int .i64 bs, .int .i64 bh] 41))
  cases T with
  | false =>
    go_enter Tryd.func15, Tryd.ntmps15
    go_upto_region 1 with fail
    generalize (w.alloc (.cells #[.int .i64 al, .int .i64 am, .int .i64 as_, .int .i64 ah] 41)).alloc (.cells #[.int .i64 bl, .int .i64 bm, .int .i64 bs, .int .i64 bh] 41) = wa at *
    generalize w.heap.size = K at z1 z2 ⊢
    have x0 := (cells_at z1 0 (by simp)).1
    have x1 := (cells_at z1 1 (by simp)).1
    have x2 := (cells_at z1 2 (by simp)).1
    have x3 := (cells_at z1 3 (by simp)).1
    have y0 := (cells_at z2 0 (by simp)).1
    have y1 := (cells_at z2 1 (by simp)).1
    have y2 := (cells_at z2 2 (by simp)).1
    have y3 := (cells_at z2 3 (by simp)).1
    go_wp2_with fail
    refine (c0 _).mono ?_
    rintro e v1 ⟨rfl, rfl⟩
    have hg2 := (hbw.cell (p := ⟨0, 0, none⟩) hGb).trans hg
    go_wp2_with fail
    go_region
    go_wp2
    go_ret2
    exact ⟨rfl, drewBl hbw⟩
  | true =>
    cases X with
    | false =>
      go_enter Tryd.func15, Tryd.ntmps15
      go_upto_region 1 with fail
      generalize (w.alloc (.cells #[.int .i64 al, .int .i64 am, .int .i64 as_, .int .i64 ah] 41)).alloc (.cells #[.int .i64 bl, .int .i64 bm, .int .i64 bs, .int .i64 bh] 41) = wa at *
      generalize w.heap.size = K at z1 z2 ⊢
      have x0 := (cells_at z1 0 (by simp)).1
      have x1 := (cells_at z1 1 (by simp)).1
      have x2 := (cells_at z1 2 (by simp)).1
      have x3 := (cells_at z1 3 (by simp)).1
      have y0 := (cells_at z2 0 (by simp)).1
      have y1 := (cells_at z2 1 (by simp)).1
      have y2 := (cells_at z2 2 (by simp)).1
      have y3 := (cells_at z2 3 (by simp)).1
      go_wp2_with fail
      refine (c0 _).mono ?_
      rintro e v1 ⟨rfl, rfl⟩
      go_wp2_with fail
      refine (c1 _).mono ?_
      rintro e v2 ⟨rfl, k2⟩
      have hB := below_go hbw k2
      have hg2 := (hB.cell (p := ⟨0, 0, none⟩) hGb).trans hg
      go_wp2_with fail
      go_region
      go_wp2
      go_ret2
      exact ⟨rfl, drewBl hB⟩
    | true =>
      cases Y with
      | false =>
        go_enter Tryd.func15, Tryd.ntmps15
        go_upto_region 1 with fail
        generalize (w.alloc (.cells #[.int .i64 al, .int .i64 am, .int .i64 as_, .int .i64 ah] 41)).alloc (.cells #[.int .i64 bl, .int .i64 bm, .int .i64 bs, .int .i64 bh] 41) = wa at *
        generalize w.heap.size = K at z1 z2 ⊢
        have x0 := (cells_at z1 0 (by simp)).1
        have x1 := (cells_at z1 1 (by simp)).1
        have x2 := (cells_at z1 2 (by simp)).1
        have x3 := (cells_at z1 3 (by simp)).1
        have y0 := (cells_at z2 0 (by simp)).1
        have y1 := (cells_at z2 1 (by simp)).1
        have y2 := (cells_at z2 2 (by simp)).1
        have y3 := (cells_at z2 3 (by simp)).1
        go_wp2_with fail
        refine (c0 _).mono ?_
        rintro e v1 ⟨rfl, rfl⟩
        go_wp2_with fail
        refine (c1 _).mono ?_
        rintro e v2 ⟨rfl, k2⟩
        replace z1 := keepB z1 k2
        replace z2 := keepB z2 k2
        clear x0 x1 x2 x3 y0 y1 y2 y3
        have x0 := (cells_at z1 0 (by simp)).1
        have x1 := (cells_at z1 1 (by simp)).1
        have x2 := (cells_at z1 2 (by simp)).1
        have x3 := (cells_at z1 3 (by simp)).1
        have y0 := (cells_at z2 0 (by simp)).1
        have y1 := (cells_at z2 1 (by simp)).1
        have y2 := (cells_at z2 2 (by simp)).1
        have y3 := (cells_at z2 3 (by simp)).1
        go_wp2_with fail
        refine (c2 _).mono ?_
        rintro e v3 ⟨rfl, k3⟩
        have hB := below_go (below_go hbw k2) k3
        have hg2 := (hB.cell (p := ⟨0, 0, none⟩) hGb).trans hg
        go_wp2_with fail
        go_region
        go_wp2
        go_ret2
        exact ⟨rfl, drewBl hB⟩
      | true =>
        replace c3 := fun u => c3 u hX hY hT
        go_enter Tryd.func15, Tryd.ntmps15
        go_upto_region 1 with fail
        generalize (w.alloc (.cells #[.int .i64 al, .int .i64 am, .int .i64 as_, .int .i64 ah] 41)).alloc (.cells #[.int .i64 bl, .int .i64 bm, .int .i64 bs, .int .i64 bh] 41) = wa at *
        generalize w.heap.size = K at z1 z2 ⊢
        have x0 := (cells_at z1 0 (by simp)).1
        have x1 := (cells_at z1 1 (by simp)).1
        have x2 := (cells_at z1 2 (by simp)).1
        have x3 := (cells_at z1 3 (by simp)).1
        have y0 := (cells_at z2 0 (by simp)).1
        have y1 := (cells_at z2 1 (by simp)).1
        have y2 := (cells_at z2 2 (by simp)).1
        have y3 := (cells_at z2 3 (by simp)).1
        go_wp2_with fail
        refine (c0 _).mono ?_
        rintro e v1 ⟨rfl, rfl⟩
        go_wp2_with fail
        refine (c1 _).mono ?_
        rintro e v2 ⟨rfl, k2⟩
        replace z1 := keepB z1 k2
        replace z2 := keepB z2 k2
        clear x0 x1 x2 x3 y0 y1 y2 y3
        have x0 := (cells_at z1 0 (by simp)).1
        have x1 := (cells_at z1 1 (by simp)).1
        have x2 := (cells_at z1 2 (by simp)).1
        have x3 := (cells_at z1 3 (by simp)).1
        have y0 := (cells_at z2 0 (by simp)).1
        have y1 := (cells_at z2 1 (by simp)).1
        have y2 := (cells_at z2 2 (by simp)).1
        have y3 := (cells_at z2 3 (by simp)).1
        go_wp2_with fail
        refine (c2 _).mono ?_
        rintro e v3 ⟨rfl, k3⟩
        replace z1 := keepB z1 k3
        replace z2 := keepB z2 k3
        clear x0 x1 x2 x3 y0 y1 y2 y3
        have x0 := (cells_at z1 0 (by simp)).1
        have x1 := (cells_at z1 1 (by simp)).1
        have x2 := (cells_at z1 2 (by simp)).1
        have x3 := (cells_at z1 3 (by simp)).1
        have y0 := (cells_at z2 0 (by simp)).1
        have y1 := (cells_at z2 1 (by simp)).1
        have y2 := (cells_at z2 2 (by simp)).1
        have y3 := (cells_at z2 3 (by simp)).1
        go_wp2_with fail
        refine (c3 _).mono ?_
        rintro e v4 ⟨rfl, k4⟩
        have hB := below_go (below_go (below_go hbw k2) k3) k4
        go_wp2
        go_ret2
        exact ⟨rfl, hB⟩
end Go.Proofs.YtkdmeclbnnjdgalDoor
