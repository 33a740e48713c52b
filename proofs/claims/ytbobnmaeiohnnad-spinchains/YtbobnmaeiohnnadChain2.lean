/-
  The document's chain, by its contract.
-/
import Derived.Test.YtbobnmaeiohnnadChain1
import Derived.Deep.RegionWith
namespace Go.Proofs.Ytbobnmaeiohnnad
open Go Go.RowKit

set_option maxHeartbeats 16000000 in
theorem chainOf_any (b off cap : Nat) (L : List Q4) (w : World) (hr : QRow w b off L) (hb : b < w.heap.size) (hl : L.length ≤ 200) :
    Calls Try.prog 36 #[.slice (some ⟨b, off, none⟩) L.length cap] w fun e w' => ChainIs L e ∧ Below w.heap.size w w' := by
  have hsf := run_store_float Try.prog
  go_enter Try.func36, Try.ntmps36
  go_wp2
  go_loopw [5] (fun kv wl => ∃ (k : Nat) (q : Q4), k ≤ L.length ∧ kv = .int .i64 (k : Nat) ∧ HeldR (Ch L k q) ∧ HeldR (wl.heap[w.heap.size + 1]? = some (.cells #[.float .f64 q.a, .float .f64 q.b, .float .f64 q.c, .float .f64 q.d] 30 (0, 0))) ∧ HeldR (wl.heap[w.heap.size]? = some (.cells #[.float .f64 0, .float .f64 0, .float .f64 0, .float .f64 0] 30 (0, 0))) ∧ HeldR (Below w.heap.size w wl)) (fun kv _ => L.length - (intOf kv).toNat)
  case atStart =>
    exact ⟨0, oneQ, by omega, rfl, Ch.zero, (two_blocks (Below.refl _ _)).2.1, (two_blocks (Below.refl _ _)).1, below_al2 w _ _⟩
  case round =>
    obtain ⟨k, q, hk, rfl, HC, HA, HR, HB⟩ := hrel
    by_cases hlt : k < L.length
    · have hq := hr.below (unhideR HB) hb
      have c0 := hq.ca k hlt
      have c1 := hq.cb k hlt
      have c2 := hq.cc k hlt
      have c3 := hq.cd k hlt
      obtain ⟨x, hx⟩ : ∃ x, x = L.getD k oneQ := ⟨_, rfl⟩
      rw [← hx] at c0 c1 c2 c3
      have HX := hideR hx
      clear hx hq
      obtain ⟨⟨e0, e1, e2, e3⟩, _⟩ := four_at (unhideR HA)
      have la := ltB (unhideR HA)
      have lb : b < wr.heap.size := by omega
      go_wp2_with fail
      have hA : (wr.drewN 1).heap[w.heap.size + 1]? = some (.cells #[.float .f64 q.a, .float .f64 q.b, .float .f64 q.c, .float .f64 q.d] 30 (0, 0)) := unhideR HA
      have HA1 := hideR hA
      have hR : (wr.drewN 1).heap[w.heap.size]? = some (.cells #[.float .f64 0, .float .f64 0, .float .f64 0, .float .f64 0] 30 (0, 0)) := unhideR HR
      have HR1 := hideR hR
      have HB1 := hideR (below_drewN (unhideR HB) 1)
      clear hA hR HA HR HB
      go_region_with (first
        | (go_at_call 18; refine (timesOf_any _ _ _ _ _ _ _ _ _).mono ?_; rintro e w2 ⟨p0, p1, p2, p3, rfl, t0, t1, t2, t3, k2⟩; have HT := hideR (TimesIs.mk (x := x) (q := q) (t := ⟨p0, p1, p2, p3⟩) t0 t1 t2 t3); clear t0 t1 t2 t3; have z2 : wr.heap.size ≤ w2.heap.size := by (have := k2.size; simp at this; omega)
           first
             | (have HA2 := hideR (keepB (keepA (unhideR HA1)) k2); have HR2 := hideR (keepB (keepA (unhideR HR1)) k2); have HB2 := hideR (below_go ((unhideR HB1).alloc (unhideR HB1).size _) k2); have N2 : HeldR (w2.heap[wr.heap.size]? = some (.cells #[.float .f64 0, .float .f64 0, .float .f64 0, .float .f64 0] 30)) := hideR (keepB (alloc_last (wr.drewN 1) _) k2); clear k2)
             | (have HA2 := hideR (keepB (unhideR HA1) k2); have HR2 := hideR (keepB (unhideR HR1) k2); have HB2 := hideR (below_go (unhideR HB1) k2); clear k2))
        | (go_at_call 24; refine (unitOf_any _ _ _ _ _).mono ?_; rintro e w3 ⟨hu, k3⟩; obtain ⟨⟨s0, s1, s2, s3⟩, bb, rfl, hU⟩ := unitQ_form (t := ⟨p0, p1, p2, p3⟩) hu; rw [retQ_is]; have HU := hideR hU; clear hu hU; have z3 : w2.heap.size ≤ w3.heap.size := Nat.le_trans (by first | exact Nat.le_refl _ | simp) k3.size
           first
             | (have HA3 := hideR (keepB (keepA (unhideR HA2)) k3); have HR3 := hideR (keepB (keepA (unhideR HR2)) k3); have HB3 := hideR (below_go ((unhideR HB2).alloc (unhideR HB2).size _) k3); have N3 := hideR (keepB (alloc_last w2 _) k3); obtain ⟨⟨n0, n1, n2, n3⟩, m0, m1, m2, m3⟩ := four_at (unhideR N3); clear k3)
             | (have HA3 := hideR (keepB (unhideR HA2) k3); have HR3 := hideR (keepB (unhideR HR2) k3); have HB3 := hideR (below_go (unhideR HB2) k3); have N3 := hideR (keepB (unhideR N2) k3); obtain ⟨⟨n0, n1, n2, n3⟩, m0, m1, m2, m3⟩ := four_at (unhideR N3); clear k3)
             | (have HA3 := hideR (keepB (unhideR HA2) k3); have HR3 := hideR (keepB (unhideR HR2) k3); have HB3 := hideR (below_go (unhideR HB2) k3); clear k3)))
      all_goals
        first
          | (have NB : (((((w3).setCell ⟨wr.heap.size, 0, none⟩ (.float .f64 s0)).setCell ⟨wr.heap.size, 1, none⟩ (.float .f64 s1)).setCell ⟨wr.heap.size, 2, none⟩ (.float .f64 s2)).setCell ⟨wr.heap.size, 3, none⟩ (.float .f64 s3)).heap[wr.heap.size]? = some (.cells #[.float .f64 s0, .float .f64 s1, .float .f64 s2, .float .f64 s3] 30 (0, 0)) := set4 (unhideR N3)
             have A4 : (((((w3).setCell ⟨wr.heap.size, 0, none⟩ (.float .f64 s0)).setCell ⟨wr.heap.size, 1, none⟩ (.float .f64 s1)).setCell ⟨wr.heap.size, 2, none⟩ (.float .f64 s2)).setCell ⟨wr.heap.size, 3, none⟩ (.float .f64 s3)).heap[w.heap.size + 1]? = _ := (set4_other (by omega)).trans (unhideR HA3)
             have R4 : (((((w3).setCell ⟨wr.heap.size, 0, none⟩ (.float .f64 s0)).setCell ⟨wr.heap.size, 1, none⟩ (.float .f64 s1)).setCell ⟨wr.heap.size, 2, none⟩ (.float .f64 s2)).setCell ⟨wr.heap.size, 3, none⟩ (.float .f64 s3)).heap[w.heap.size]? = _ := (set4_other (by omega)).trans (unhideR HR3)
             have B4 : Below w.heap.size w (((((w3).setCell ⟨wr.heap.size, 0, none⟩ (.float .f64 s0)).setCell ⟨wr.heap.size, 1, none⟩ (.float .f64 s1)).setCell ⟨wr.heap.size, 2, none⟩ (.float .f64 s2)).setCell ⟨wr.heap.size, 3, none⟩ (.float .f64 s3)) := below_four (unhideR HB3) (by omega) _ _ _ _
             generalize ((((w3).setCell ⟨wr.heap.size, 0, none⟩ (.float .f64 s0)).setCell ⟨wr.heap.size, 1, none⟩ (.float .f64 s1)).setCell ⟨wr.heap.size, 2, none⟩ (.float .f64 s2)).setCell ⟨wr.heap.size, 3, none⟩ (.float .f64 s3) = W at NB A4 R4 B4 ⊢)
          | (have NB : (((((w3).setCell ⟨w2.heap.size, 0, none⟩ (.float .f64 s0)).setCell ⟨w2.heap.size, 1, none⟩ (.float .f64 s1)).setCell ⟨w2.heap.size, 2, none⟩ (.float .f64 s2)).setCell ⟨w2.heap.size, 3, none⟩ (.float .f64 s3)).heap[w2.heap.size]? = some (.cells #[.float .f64 s0, .float .f64 s1, .float .f64 s2, .float .f64 s3] 30 (0, 0)) := set4 (unhideR N3)
             have A4 : (((((w3).setCell ⟨w2.heap.size, 0, none⟩ (.float .f64 s0)).setCell ⟨w2.heap.size, 1, none⟩ (.float .f64 s1)).setCell ⟨w2.heap.size, 2, none⟩ (.float .f64 s2)).setCell ⟨w2.heap.size, 3, none⟩ (.float .f64 s3)).heap[w.heap.size + 1]? = _ := (set4_other (by omega)).trans (unhideR HA3)
             have R4 : (((((w3).setCell ⟨w2.heap.size, 0, none⟩ (.float .f64 s0)).setCell ⟨w2.heap.size, 1, none⟩ (.float .f64 s1)).setCell ⟨w2.heap.size, 2, none⟩ (.float .f64 s2)).setCell ⟨w2.heap.size, 3, none⟩ (.float .f64 s3)).heap[w.heap.size]? = _ := (set4_other (by omega)).trans (unhideR HR3)
             have B4 : Below w.heap.size w (((((w3).setCell ⟨w2.heap.size, 0, none⟩ (.float .f64 s0)).setCell ⟨w2.heap.size, 1, none⟩ (.float .f64 s1)).setCell ⟨w2.heap.size, 2, none⟩ (.float .f64 s2)).setCell ⟨w2.heap.size, 3, none⟩ (.float .f64 s3)) := below_four (unhideR HB3) (by omega) _ _ _ _
             generalize ((((w3).setCell ⟨w2.heap.size, 0, none⟩ (.float .f64 s0)).setCell ⟨w2.heap.size, 1, none⟩ (.float .f64 s1)).setCell ⟨w2.heap.size, 2, none⟩ (.float .f64 s2)).setCell ⟨w2.heap.size, 3, none⟩ (.float .f64 s3) = W at NB A4 R4 B4 ⊢)
          | (have NB : (w3.alloc (.cells #[.float .f64 s0, .float .f64 s1, .float .f64 s2, .float .f64 s3] 30)).heap[w3.heap.size]? = some (.cells #[.float .f64 s0, .float .f64 s1, .float .f64 s2, .float .f64 s3] 30 (0, 0)) := alloc_last w3 _
             have A4 : (w3.alloc (.cells #[.float .f64 s0, .float .f64 s1, .float .f64 s2, .float .f64 s3] 30)).heap[w.heap.size + 1]? = _ := keepA (unhideR HA3)
             have R4 : (w3.alloc (.cells #[.float .f64 s0, .float .f64 s1, .float .f64 s2, .float .f64 s3] 30)).heap[w.heap.size]? = _ := keepA (unhideR HR3)
             have B4 : Below w.heap.size w (w3.alloc (.cells #[.float .f64 s0, .float .f64 s1, .float .f64 s2, .float .f64 s3] 30)) := (unhideR HB3).alloc (unhideR HB3).size _
             generalize w3.alloc (.cells #[.float .f64 s0, .float .f64 s1, .float .f64 s2, .float .f64 s3] 30) = W at NB A4 R4 B4 ⊢)
        have hch := Ch.succ (q' := ⟨s0, s1, s2, s3⟩) (unhideR HC) hlt (unhideR HX ▸ unhideR HT)
        have HCC := hideR hch
        have HAA := hideR A4
        have HRR := hideR R4
        have HBB := hideR B4
        obtain ⟨⟨y0, y1, y2, y3⟩, _⟩ := four_at NB
        obtain ⟨⟨a0, a1, a2, a3⟩, j0, j1, j2, j3⟩ := four_at A4
        obtain ⟨⟨r0, r1, r2, r3⟩, i0, i1, i2, i3⟩ := four_at R4
        clear NB A4 R4 B4 hch
        try clear n0 n1 n2 n3 m0 m1 m2 m3
        clear c0 c1 c2 c3 e0 e1 e2 e3
        cases bb
        case false =>
          go_wp2
          simp [bodyPost, results, Try.results36, go_sem, r0, r1, r2, r3]
          exact ⟨.inr ⟨k, q, _, _, unhideR HC, hlt, unhideR HX ▸ unhideR HT, unhideR HU, rfl⟩, below_four (unhideR HBB) (Nat.le_refl _) _ _ _ _⟩
        case true =>
          go_wp2
          exact ⟨⟨k + 1, ⟨s0, s1, s2, s3⟩, by omega, by go_num, unhideR HCC (unhideR HU), set4 (unhideR HAA), (set4_other (by omega)).trans (unhideR HRR), below_four (unhideR HBB) (by omega) _ _ _ _⟩, by simp [intOf]; omega⟩
    · obtain rfl : k = L.length := by omega
      obtain ⟨⟨e0, e1, e2, e3⟩, _⟩ := four_at (unhideR HA)
      obtain ⟨⟨d0, d1, d2, d3⟩, g0, g1, g2, g3⟩ := four_at (unhideR HR)
      go_wp2
      simp [bodyPost, results, Try.results36, go_sem, d0, d1, d2, d3]
      exact ⟨.inl ⟨q, unhideR HC, rfl⟩, below_four (unhideR HB) (Nat.le_refl _) _ _ _ _⟩
set_option maxHeartbeats 8000000 in
theorem chainOf_nil (w : World) : Calls Try.prog 36 #[.slice none 0 0] w fun e w' => ChainIs [] e ∧ Below w.heap.size w w' := by
  have hsf := run_store_float Try.prog
  go_enter Try.func36, Try.ntmps36
  go_wp2
  go_loopw [5] (fun kv wl => kv = .int .i64 0 ∧ HeldR (wl.heap[w.heap.size + 1]? = some (.cells #[.float .f64 4607182418800017408, .float .f64 0, .float .f64 0, .float .f64 0] 30 (0, 0))) ∧ HeldR (wl.heap[w.heap.size]? = some (.cells #[.float .f64 0, .float .f64 0, .float .f64 0, .float .f64 0] 30 (0, 0))) ∧ HeldR (Below w.heap.size w wl)) (fun _ _ => 0)
  case atStart =>
    exact ⟨rfl, (two_blocks (Below.refl _ _)).2.1, (two_blocks (Below.refl _ _)).1, below_al2 w _ _⟩
  case round =>
    obtain ⟨rfl, HA, HR, HB⟩ := hrel
    obtain ⟨⟨e0, e1, e2, e3⟩, _⟩ := four_at (unhideR HA)
    obtain ⟨⟨d0, d1, d2, d3⟩, g0, g1, g2, g3⟩ := four_at (unhideR HR)
    go_wp2
    simp [bodyPost, results, Try.results36, go_sem, d0, d1, d2, d3]
    exact ⟨.inl ⟨oneQ, Ch.zero, rfl⟩, below_four (unhideR HB) (Nat.le_refl _) _ _ _ _⟩
end Go.Proofs.Ytbobnmaeiohnnad
