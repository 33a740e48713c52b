/-
  The program's chain, by its contract.
-/
import Derived.Test.YtbobnmaeiohnnadChain0
import Derived.Test.YtbobnmaeiohnnadSpin4
namespace Go.Proofs.Ytbobnmaeiohnnad
open Go Go.RowKit

theorem keepB {w v : World} {b : Nat} {o : Obj} (h : w.heap[b]? = some o) (k : Below w.heap.size w v) : v.heap[b]? = some o := (k.block _ (Array.getElem?_eq_some_iff.1 h).1).trans h
theorem keepA {w : World} {b : Nat} {o o' : Obj} (h : w.heap[b]? = some o) : (w.alloc o').heap[b]? = some o := (alloc_block (Array.getElem?_eq_some_iff.1 h).1).trans h
theorem ltB {w : World} {b : Nat} {o : Obj} (h : w.heap[b]? = some o) : b < w.heap.size := (Array.getElem?_eq_some_iff.1 h).1
theorem set4 {w : World} {b : Nat} {y0 y1 y2 y3 x0 x1 x2 x3 : Value} {t : TypeId} (h : w.heap[b]? = some (.cells #[y0, y1, y2, y3] t (0, 0))) :
    ((((w.setCell ⟨b, 0, none⟩ x0).setCell ⟨b, 1, none⟩ x1).setCell ⟨b, 2, none⟩ x2).setCell ⟨b, 3, none⟩ x3).heap[b]? = some (.cells #[x0, x1, x2, x3] t (0, 0)) := by
  rw [heap_setCell_same _ _ _ _ _ _ (heap_setCell_same _ _ _ _ _ _ (heap_setCell_same _ _ _ _ _ _ (heap_setCell_same _ _ _ _ _ _ h)))]
  simp
theorem set4_other {w : World} {b c : Nat} {x0 x1 x2 x3 : Value} (h : c ≠ b) : ((((w.setCell ⟨b, 0, none⟩ x0).setCell ⟨b, 1, none⟩ x1).setCell ⟨b, 2, none⟩ x2).setCell ⟨b, 3, none⟩ x3).heap[c]? = w.heap[c]? := by
  rw [heap_setCell_other _ _ _ _ h, heap_setCell_other _ _ _ _ h, heap_setCell_other _ _ _ _ h, heap_setCell_other _ _ _ _ h]
theorem retQ_is (a b c d : Nat) (t : Bool) : retQ ⟨a, b, c, d⟩ t = .returned (.tuple #[.agg #[.float .f64 a, .float .f64 b, .float .f64 c, .float .f64 d], .bool t]) := rfl
set_option maxHeartbeats 8000000 in
theorem chain_any (b off cap : Nat) (L : List Q4) (w : World) (hr : QRow w b off L) (hb : b < w.heap.size) (hl : L.length ≤ 200) :
    Calls Try.prog 35 #[.slice (some ⟨b, off, none⟩) L.length cap] w fun e w' => ChainIs L e ∧ Below w.heap.size w w' := by
  have hsf := run_store_float Try.prog
  go_enter Try.func35, Try.ntmps35
  go_wp2_with fail
  refine (none_any _).mono ?_
  rintro e w1 ⟨rfl, k1⟩
  have R0 := k1.block w.heap.size (by simp)
  have RR := hideR (R0.trans (alloc_last w _))
  have lw := k1.size
  have lw1 : w.heap.size + 1 ≤ w1.heap.size := by simpa using lw
  have HW := hideR (below_go ((Below.refl w.heap.size w).alloc (Nat.le_refl _) _) k1)
  clear k1 R0 lw
  go_wp2
  go_loopw [15] (fun kv wl => ∃ (k : Nat) (q : Q4), k ≤ L.length ∧ kv = .int .i64 (k : Nat) ∧ HeldR (Ch L k q) ∧ HeldR (wl.heap[w1.heap.size]? = some (.cells #[.float .f64 q.a, .float .f64 q.b, .float .f64 q.c, .float .f64 q.d] 33 (0, 0))) ∧ HeldR (wl.heap[w.heap.size]? = some (.cells #[.float .f64 0, .float .f64 0, .float .f64 0, .float .f64 0] 33 (0, 0))) ∧ HeldR (Below w.heap.size w wl)) (fun kv _ => L.length - (intOf kv).toNat)
  case atStart =>
    exact ⟨0, oneQ, by omega, rfl, Ch.zero, alloc_last w1 _, keepA (unhideR RR), (unhideR HW).alloc (unhideR HW).size _⟩
  case round =>
    obtain ⟨k, q, hk, rfl, HC, HA, HR, HB⟩ := hrel
    by_cases hlt : k < L.length
    · have hq := hr.below (unhideR HB) hb
      have c0 := hq.ca k hlt
      have c1 := hq.cb k hlt
      have c2 := hq.cc k hlt
      have c3 := hq.cd k hlt
      have hxx : L.getD k oneQ = L.getD k oneQ := rfl
      obtain ⟨x, hx⟩ : ∃ x, x = L.getD k oneQ := ⟨_, rfl⟩
      rw [← hx] at c0 c1 c2 c3
      have HX := hideR hx
      clear hx hxx hq
      obtain ⟨⟨e0, e1, e2, e3⟩, _⟩ := four_at (unhideR HA)
      have la := ltB (unhideR HA)
      go_wp2_with fail
      refine (times_any _ _ _ _ _ _ _ _ _).mono ?_
      rintro e w2 ⟨p0, p1, p2, p3, rfl, t0, t1, t2, t3, k2⟩
      have HT := hideR (TimesIs.mk (x := x) (q := q) (t := ⟨p0, p1, p2, p3⟩) t0 t1 t2 t3)
      replace HA := hideR (keepB (keepA (unhideR HA)) k2)
      replace HR := hideR (keepB (keepA (unhideR HR)) k2)
      replace HB := hideR (below_go ((unhideR HB).alloc (unhideR HB).size _) k2)
      clear t0 t1 t2 t3 k2 c0 c1 c2 c3 e0 e1 e2 e3 la
      go_wp2_with fail
      refine (unit_any _ _ _ _ _).mono ?_
      rintro e w3 ⟨hu, k3⟩
      obtain ⟨⟨s0, s1, s2, s3⟩, bb, rfl, hU⟩ := unitQ_form (t := ⟨p0, p1, p2, p3⟩) hu
      rw [retQ_is]
      have HU := hideR hU
      replace HA := hideR (keepB (unhideR HA) k3)
      replace HR := hideR (keepB (unhideR HR) k3)
      replace HB := hideR (below_go (unhideR HB) k3)
      clear hu hU k3
      obtain ⟨⟨e0, e1, e2, e3⟩, f0, f1, f2, f3⟩ := four_at (unhideR HA)
      have hne : w.heap.size ≠ w1.heap.size := by omega
      have hlw : w.heap.size ≤ w1.heap.size := by omega
      cases bb
      case false =>
        go_wp2_with fail
        refine (none_any _).mono ?_
        rintro e w4 ⟨rfl, k4⟩
        have R4 := keepB ((set4_other hne).trans (unhideR HR)) k4
        have B4 := hideR (below_go (below_four (unhideR HB) hlw _ _ _ _) k4)
        obtain ⟨⟨d0, d1, d2, d3⟩, g0, g1, g2, g3⟩ := four_at R4
        clear R4 k4 e0 e1 e2 e3 f0 f1 f2 f3
        go_wp2
        simp [bodyPost, results, Try.results35, go_sem, d0, d1, d2, d3]
        exact ⟨.inr ⟨k, q, _, _, unhideR HC, hlt, unhideR HX ▸ unhideR HT, unhideR HU, rfl⟩, below_four (unhideR B4) (Nat.le_refl _) _ _ _ _⟩
      case true =>
        go_wp2
        exact ⟨⟨k + 1, ⟨s0, s1, s2, s3⟩, by omega, by go_num, Ch.succ (unhideR HC) hlt (unhideR HX ▸ unhideR HT) (unhideR HU), set4 (unhideR HA), (set4_other hne).trans (unhideR HR), below_four (unhideR HB) hlw _ _ _ _⟩, by simp [intOf]; omega⟩
    · obtain rfl : k = L.length := by omega
      obtain ⟨⟨e0, e1, e2, e3⟩, _⟩ := four_at (unhideR HA)
      obtain ⟨⟨d0, d1, d2, d3⟩, g0, g1, g2, g3⟩ := four_at (unhideR HR)
      go_wp2
      simp [bodyPost, results, Try.results35, go_sem, d0, d1, d2, d3]
      exact ⟨.inl ⟨q, unhideR HC, rfl⟩, below_four (unhideR HB) (Nat.le_refl _) _ _ _ _⟩
set_option maxHeartbeats 8000000 in
theorem chain_nil (w : World) : Calls Try.prog 35 #[.slice none 0 0] w fun e w' => ChainIs [] e ∧ Below w.heap.size w w' := by
  have hsf := run_store_float Try.prog
  go_enter Try.func35, Try.ntmps35
  go_wp2_with fail
  refine (none_any _).mono ?_
  rintro e w1 ⟨rfl, k1⟩
  have RR := hideR ((k1.block w.heap.size (by simp)).trans (alloc_last w _))
  have lw1 : w.heap.size + 1 ≤ w1.heap.size := by simpa using k1.size
  have HW := hideR (below_go ((Below.refl w.heap.size w).alloc (Nat.le_refl _) _) k1)
  clear k1
  go_wp2
  go_loopw [15] (fun kv wl => kv = .int .i64 0 ∧ HeldR (wl.heap[w1.heap.size]? = some (.cells #[.float .f64 4607182418800017408, .float .f64 0, .float .f64 0, .float .f64 0] 33 (0, 0))) ∧ HeldR (wl.heap[w.heap.size]? = some (.cells #[.float .f64 0, .float .f64 0, .float .f64 0, .float .f64 0] 33 (0, 0))) ∧ HeldR (Below w.heap.size w wl)) (fun _ _ => 0)
  case atStart =>
    exact ⟨rfl, alloc_last w1 _, keepA (unhideR RR), (unhideR HW).alloc (unhideR HW).size _⟩
  case round =>
    obtain ⟨rfl, HA, HR, HB⟩ := hrel
    obtain ⟨⟨e0, e1, e2, e3⟩, _⟩ := four_at (unhideR HA)
    obtain ⟨⟨d0, d1, d2, d3⟩, g0, g1, g2, g3⟩ := four_at (unhideR HR)
    go_wp2
    simp [bodyPost, results, Try.results35, go_sem, d0, d1, d2, d3]
    exact ⟨.inl ⟨oneQ, Ch.zero, rfl⟩, below_four (unhideR HB) (Nat.le_refl _) _ _ _ _⟩
end Go.Proofs.Ytbobnmaeiohnnad
