/-
  The search for the nearest, kept. The nearest star's number: the program's, by contract. The program's Nearest; all that cones ask for.
-/
import Derived.Test.YtfonpobdnhifgamGreatDoorAtT7
namespace Go.Proofs.YtfonpobdnhifgamGreatDoor
open Go Go.RowKit

/-- what the search for the nearest keeps. -/
structure NeInv (W0 : World) (p : Nat) (K : List En) (d : Dr) (f : Int) (W : World) : Prop where
  a : W.heap[W0.heap.size]? = some (.cells #[.pointer (some ⟨p, 0, none⟩)] 28)
  fb : W.heap[W0.heap.size + 2]? = some (.cells #[.int .i64 f] 3)
  b : ∃ bst : Co, W.heap[W0.heap.size + 3]? = some (.cells #[.int .i64 bst.sg, .int .u64 (ohV bst), .int .u64 (olV bst), .int .i64 bst.un] 76) ∧ (0 ≤ f → bst = cTo K d f.toNat)
  r : f < (K.length : Int)
  s : W0.heap.size + 4 < W.heap.size
theorem NeInv.stab {W0 : World} {p : Nat} {K : List En} {d : Dr} {f : Int} {W W' : World} (h : NeInv W0 p K d f W) (o : Oth (· = W0.heap.size + 4) W W') : NeInv W0 p K d f W' := by
  obtain ⟨bst, h1, h2⟩ := h.b
  exact ⟨o.heap h.a (by omega), o.heap h.fb (by omega), ⟨bst, o.heap h1 (by omega), h2⟩, h.r, Nat.lt_of_lt_of_le h.s o.size⟩
theorem entersN1 : ∀ args w, (callFunc 66 args).run Tryz.prog w = .ok (.enter 66 args) w := enters_of Tryz.func66 (by kernel_rfl) rfl
theorem entersN2 : ∀ args w, (callFunc 67 args).run Tryz.prog w = .ok (.enter 67 args) w := enters_of Tryz.func67 (by kernel_rfl) rfl
theorem sea_near {W0 : World} {p : Nat} {lv : Int} {K : List En} {ad : Option Addr} {cap bn bc : Nat} {es : Array MapEntry} {clock : Nat} {sn : Int} (h : RO W0 p lv K ad cap bn bc es clock sn) (hKl : K.length ≤ 4000) {d : Dr} (hd : dirB d = true) :
    SeaOk W0 p (W0.heap.size + 4) K d 66 67 #[.pointer (some ⟨W0.heap.size + 2, 0, none⟩), .pointer (some ⟨W0.heap.size + 3, 0, none⟩)] #[.pointer (some ⟨W0.heap.size + 2, 0, none⟩), .pointer (some ⟨W0.heap.size + 3, 0, none⟩), .pointer (some ⟨W0.heap.size, 0, none⟩)] (enN K d) (tkN K d) (NeInv W0 p K d) (fun _ => 0) where
  szk := fun _ _ => by omega
  egE := entersN1
  egT := entersN2
  stab := fun hI o => hI.stab o
  enough := fun {f W} c hI hc _ => by
    obtain ⟨bst, h1, h2⟩ := hI.b
    have hsm : 0 ≤ f → bst.Sm := fun q => by
      rw [h2 q]
      exact (coTo_gd hd (getD_dir h.dir (by have := hI.r; omega))).sm
    have e : (decide (f < 0) || decide (0 ≤ coCmp c bst)) = enN K d f c := by
      unfold enN
      by_cases q : f < 0
      · rw [decide_eq_true q, Bool.true_or, Bool.true_or]
      · rw [h2 (by omega), decide_eq_true (show f.toNat < K.length by have := hI.r; omega), Bool.true_and]
    rw [← e]
    exact pnenough_any hI.fb h1 hsm c hc.sm
  take := fun {f W lk} i hI _ hi _ hB hs => by
    obtain ⟨bst, h1, h2⟩ := hI.b
    have hf := hI.r
    have hsm : 0 ≤ f → bst.Sm := fun q => by
      rw [h2 q]
      exact (coTo_gd hd (getD_dir h.dir (by omega))).sm
    obtain ⟨b2, had2, hbl2, hSt⟩ := h.st i hi
    subst had2
    have hp := (hB.block p (ltB h.hp)).trans h.hp
    have hx := (World.cell?_of_block (a := ⟨b2, i * 4, none⟩) (hB.block b2 hbl2)).trans hSt.c0
    have hy : 0 ≤ f → W.cell? ⟨b2, f.toNat * 4, none⟩ = some (.string (K.getD f.toNat en0).nm) := fun q => by
      obtain ⟨b3, e3, hbl3, hS3⟩ := h.st f.toNat (by omega)
      cases e3
      exact (World.cell?_of_block (a := ⟨b2, f.toNat * 4, none⟩) (hB.block b2 hbl2)).trans hS3.c0
    have hch : chB f (coCmp (coTo d (K.getD i en0).d) bst) (K.getD i en0).nm (K.getD f.toNat en0).nm = chB f (coCmp (cTo K d i) (cTo K d f.toNat)) (K.getD i en0).nm (K.getD f.toNat en0).nm := by
      by_cases q : f < 0
      · unfold chB
        rw [decide_eq_true q, Bool.true_or, Bool.true_or]
      · rw [h2 (by omega)]
        rfl
    refine (pntake_any hp hI.fb h1 hI.a (by omega) hsm _ (coTo_gd hd (getD_dir h.dir hi)).sm hi hKl hf hx (Nat.lt_of_lt_of_le hbl2 hB.size) hy).mono ?_
    rintro r w' ⟨rfl, k1, k2, k3⟩
    rw [hch] at k1 k2
    have hne : ∀ k, k = W0.heap.size + 2 ∨ k = W0.heap.size + 3 → W0.heap.size ≤ k := fun k q => by omega
    refine ⟨rfl, ⟨k3.heap hI.a (by omega), ?_, ?_, ?_, Nat.lt_of_lt_of_le hI.s k3.size⟩, k3.below hne hB (Nat.le_refl _), k3.heap hs (by omega), fun k cs q => k3.heap q (fun z => ?_)⟩
    · exact k1
    · refine ⟨_, k2, fun q => ?_⟩
      unfold tkN at q ⊢
      split
      · rw [Int.toNat_natCast]; rfl
      · rename_i z
        rw [if_neg z] at q
        exact h2 q
    · unfold tkN
      split <;> omega
    · rcases z with rfl | rfl
      · have := hI.fb.symm.trans q
        simp at this
      · have := h1.symm.trans q
        simp at this
end Go.Proofs.YtfonpobdnhifgamGreatDoor
namespace Go.Proofs.YtfonpobdnhifgamGreatDoor
open Go Go.RowKit

def NrPost (lv : Int) (K : List En) (d : Dr) (w : World) (r : Ending) (w' : World) : Prop := (∃ (y lk : Int), r = .returned (.tuple #[.int .i64 y, .int .i64 lk]) ∧ Cv lv K d (enN K d) (tkN K d) (facL 6) (-1) y) ∧ Below w.heap.size w w'
set_option maxRecDepth 1000000 in
set_option maxHeartbeats 6400000 in
theorem pnearest_all {w : World} {p : Nat} {lv : Int} {K : List En} {ad : Option Addr} {cap bn bc : Nat} {es : Array MapEntry} {clock : Nat} {sn : Int} (h : RO w p lv K ad cap bn bc es clock sn) (hKl : K.length ≤ 200) {d : Dr} (hd : dirB d = true) :
    Calls Tryz.prog 34 #[.pointer (some ⟨p, 0, none⟩), d.val] w (NrPost lv K d w) := by
  have H := sea_near h (by omega) hd
  have hl := h.lvl
  obtain ⟨r, hr⟩ : ∃ r : Nat, (0 : Nat) + (r : Int) = lv := ⟨lv.toNat, by omega⟩
  have hth := fun {bq capq : Nat} {W : World} h1 h2 h3 => pthru_any h hd H (mo_near hd h.dir) (show w.heap.size ≤ w.heap.size + 4 by omega) hKl r 0 hr (bq := bq) (capq := capq) (C := facL 6) (W := W) (Wb := W) (x := (-1 : Int)) fac_v (fac_nodup 6) (by rw [facL_len]; omega) h1 h2 h3 (by rw [Nat.zero_add]; exact capN_12 (by omega))
  simp only [facL_len 6] at hth
  have hfa := fun u => pfaces_any u
  have HP : HeldR (∀ y lk w', Cv lv K d (enN K d) (tkN K d) (facL 6) (-1) y → Below w.heap.size w w' → NrPost lv K d w (.returned (.tuple #[.int .i64 y, .int .i64 lk])) w') := hideR (fun y lk w' h2 h3 => ⟨⟨y, lk, rfl, h2⟩, h3⟩)
  generalize NrPost lv K d w = WP at *
  unfold Dr.val
  have Hth : HeldR (∀ (bq capq : Nat) (W : World), bq < W.heap.size → (∀ k, k < 6 → QAt W bq (k * 4) ((facL 6).getD k sq0)) → SeaSt w p (w.heap.size + 4) d 66 67 #[.pointer (some ⟨w.heap.size + 2, 0, none⟩), .pointer (some ⟨w.heap.size + 3, 0, none⟩)] #[.pointer (some ⟨w.heap.size + 2, 0, none⟩), .pointer (some ⟨w.heap.size + 3, 0, none⟩), .pointer (some ⟨w.heap.size, 0, none⟩)] (NeInv w p K d) W (-1) W → Calls Tryz.prog 57 #[.pointer (some ⟨w.heap.size + 4, 0, none⟩), .slice (some ⟨bq, 0, none⟩) 6 capq] W (ThPost w p (w.heap.size + 4) lv K d 66 67 #[.pointer (some ⟨w.heap.size + 2, 0, none⟩), .pointer (some ⟨w.heap.size + 3, 0, none⟩)] #[.pointer (some ⟨w.heap.size + 2, 0, none⟩), .pointer (some ⟨w.heap.size + 3, 0, none⟩), .pointer (some ⟨w.heap.size, 0, none⟩)] (enN K d) (tkN K d) (NeInv w p K d) (fun _ => 0) (capN r) W (facL 6) (-1))) := hideR (fun bq capq W h1 h2 h3 => hth h1 h2 h3)
  have hn1 := fun (u : World) (a : Addr) => run_store Tryz.prog u a .nilFunc .plain rfl
  have hn2 := fun (u : World) (a : Addr) (f : Fn) (x y : Array Value) => run_store Tryz.prog u a (.func f x y) .plain rfl
  have hK0 : -1 < (K.length : Int) := by omega
  clear hth H h hl hr
  have HS0 : HeldR (∀ u1, Below (((((w.alloc (.cells #[.pointer (some ⟨p, 0, none⟩)] 28)).alloc (.cells #[.int .i64 d.x, .int .i64 d.y, .int .i64 d.z] 24)).alloc (.cells #[.int .i64 (-1)] 3)).alloc (.cells #[.int .i64 0, .int .u64 0, .int .u64 0, .int .i64 0] 76)).alloc (.cells #[.pointer (some ⟨p, 0, none⟩), .int .i64 d.x, .int .i64 d.y, .int .i64 d.z, .func (.func 66) #[] #[.pointer (some ⟨w.heap.size + 1 + 1, 0, none⟩), .pointer (some ⟨w.heap.size + 1 + 1 + 1, 0, none⟩)], .func (.func 67) #[] #[.pointer (some ⟨w.heap.size + 1 + 1, 0, none⟩), .pointer (some ⟨w.heap.size + 1 + 1 + 1, 0, none⟩), .pointer (some ⟨w.heap.size, 0, none⟩)], .int .i64 0] 111)).heap.size (((((w.alloc (.cells #[.pointer (some ⟨p, 0, none⟩)] 28)).alloc (.cells #[.int .i64 d.x, .int .i64 d.y, .int .i64 d.z] 24)).alloc (.cells #[.int .i64 (-1)] 3)).alloc (.cells #[.int .i64 0, .int .u64 0, .int .u64 0, .int .i64 0] 76)).alloc (.cells #[.pointer (some ⟨p, 0, none⟩), .int .i64 d.x, .int .i64 d.y, .int .i64 d.z, .func (.func 66) #[] #[.pointer (some ⟨w.heap.size + 1 + 1, 0, none⟩), .pointer (some ⟨w.heap.size + 1 + 1 + 1, 0, none⟩)], .func (.func 67) #[] #[.pointer (some ⟨w.heap.size + 1 + 1, 0, none⟩), .pointer (some ⟨w.heap.size + 1 + 1 + 1, 0, none⟩), .pointer (some ⟨w.heap.size, 0, none⟩)], .int .i64 0] 111)) u1 → SeaSt w p (w.heap.size + 4) d 66 67 #[.pointer (some ⟨w.heap.size + 2, 0, none⟩), .pointer (some ⟨w.heap.size + 3, 0, none⟩)] #[.pointer (some ⟨w.heap.size + 2, 0, none⟩), .pointer (some ⟨w.heap.size + 3, 0, none⟩), .pointer (some ⟨w.heap.size, 0, none⟩)] (NeInv w p K d) u1 (-1) u1) := hideR (fun u1 k1 => by
    obtain ⟨z1, z2, z3, z4, z5, hb⟩ := five_alloc w (.cells #[.pointer (some ⟨p, 0, none⟩)] 28) (.cells #[.int .i64 d.x, .int .i64 d.y, .int .i64 d.z] 24) (.cells #[.int .i64 (-1)] 3) (.cells #[.int .i64 0, .int .u64 0, .int .u64 0, .int .i64 0] 76) (.cells #[.pointer (some ⟨p, 0, none⟩), .int .i64 d.x, .int .i64 d.y, .int .i64 d.z, .func (.func 66) #[] #[.pointer (some ⟨w.heap.size + 1 + 1, 0, none⟩), .pointer (some ⟨w.heap.size + 1 + 1 + 1, 0, none⟩)], .func (.func 67) #[] #[.pointer (some ⟨w.heap.size + 1 + 1, 0, none⟩), .pointer (some ⟨w.heap.size + 1 + 1 + 1, 0, none⟩), .pointer (some ⟨w.heap.size, 0, none⟩)], .int .i64 0] 111)
    have hsz : w.heap.size + 4 < u1.heap.size := Nat.lt_of_lt_of_le (ltB z5) k1.size
    exact ⟨⟨keepB z1 k1, keepB z3 k1, ⟨⟨0, 0, 0⟩, keepB z4 k1, fun q => absurd q (by omega)⟩, hK0, hsz⟩, hb.trans (k1.mono hb.size), ⟨0, keepB z5 k1⟩, KeepP.refl _⟩)
  go_enter Tryz.func34, Tryz.ntmps34
  go_upto_region 6 with fail
  clear hn1 hn2
  generalize (((((w.alloc (.cells #[.pointer (some ⟨p, 0, none⟩)] 28)).alloc (.cells #[.int .i64 d.x, .int .i64 d.y, .int .i64 d.z] 24)).alloc (.cells #[.int .i64 (-1)] 3)).alloc (.cells #[.int .i64 0, .int .u64 0, .int .u64 0, .int .i64 0] 76)).alloc (.cells #[.pointer (some ⟨p, 0, none⟩), .int .i64 d.x, .int .i64 d.y, .int .i64 d.z, .func (.func 66) #[] #[.pointer (some ⟨w.heap.size + 1 + 1, 0, none⟩), .pointer (some ⟨w.heap.size + 1 + 1 + 1, 0, none⟩)], .func (.func 67) #[] #[.pointer (some ⟨w.heap.size + 1 + 1, 0, none⟩), .pointer (some ⟨w.heap.size + 1 + 1 + 1, 0, none⟩), .pointer (some ⟨w.heap.size, 0, none⟩)], .int .i64 0] 111)) = u0 at *
  obtain ⟨N, hN⟩ : ∃ N, w.heap.size = N := ⟨_, rfl⟩
  have HNw := hideR hN
  rw [hN] at Hth HS0 HP ⊢
  clear hN
  go_wp2_with fail
  refine (hfa _).mono ?_
  rintro r0 u1 ⟨⟨vq, rfl, hqr⟩, k1⟩
  obtain ⟨adq, cq, eq, _, hqa⟩ := hqr.at
  rw [facL_len 6] at eq hqa
  obtain ⟨b9, hb9, _, hlt9, _⟩ := hqa 0 (by omega)
  subst hb9
  have hcr := unhideR Hth b9 cq u1 hlt9 (fun j hj => by
    obtain ⟨b', e', _, _, h'⟩ := hqa j hj
    cases e'
    exact h') (unhideR HS0 u1 k1)
  subst eq
  clear hqr k1 hqa Hth HS0 hfa
  go_wp2_with fail
  refine hcr.mono ?_
  rintro r1 u2 ⟨rfl, y, hS, hCv, _⟩
  obtain ⟨lk2, hsb⟩ := hS.sb
  have h1 := hS.inv.fb
  have HY : HeldR (∀ v, Below u2.heap.size u2 v → v.heap[N + 4]? = some (.cells #[.pointer (some ⟨p, 0, none⟩), .int .i64 d.x, .int .i64 d.y, .int .i64 d.z, .func (.func 66) #[] #[.pointer (some ⟨N + 2, 0, none⟩), .pointer (some ⟨N + 3, 0, none⟩)], .func (.func 67) #[] #[.pointer (some ⟨N + 2, 0, none⟩), .pointer (some ⟨N + 3, 0, none⟩), .pointer (some ⟨N, 0, none⟩)], .int .i64 lk2] 111) ∧ v.heap[N + 2]? = some (.cells #[.int .i64 y] 3)) := hideR (fun v hv => ⟨keepB hsb hv, by have := keepB h1 hv; rwa [unhideR HNw] at this⟩)
  have HE : HeldR (∀ v, Below u2.heap.size u2 v → WP (.returned (.tuple #[.int .i64 y, .int .i64 lk2])) (v.setCell ⟨N + 2, 0, none⟩ (.int .i64 y))) := hideR (fun v hv => by
    have hlow := hS.low.trans (hv.mono hS.low.size)
    rw [unhideR HNw] at hlow
    exact unhideR HP y lk2 _ hCv (hlow.setCell (p := ⟨N + 2, 0, none⟩) (by show N ≤ N + 2; omega) _))
  clear hcr hS hCv hsb h1 HP
  clear HNw
  go_upto_region 7 with fail
  have y9 := (unhideR HY u2 (Below.refl _ _)).2
  have y8 := (unhideR HY u2 (Below.refl _ _)).1
  have d0 := (cells_at y9 0 (by simp)).1
  have f0 := (cells_at y9 0 (by simp)).2
  have d1 := (cells_at y8 6 (by simp)).1
  have HQ := hideR (unhideR HE u2.drew (drewF (Below.refl _ _)))
  have o : (u2.setCell ⟨N + 1 + 1, 0, none⟩ (.int .i64 y)).heap[N + 1 + 1]? = some (.cells #[.int .i64 y] 3) := heap_setCell_same _ _ _ _ _ _ y9
  have o0 := (cells_at o 0 (by simp)).1
  clear HE HY y9 y8 o
  go_region
  go_wp2
  simp [bodyPost, results, Tryz.results34, go_sem, o0]
  exact unhideR HQ
end Go.Proofs.YtfonpobdnhifgamGreatDoor
namespace Go.Proofs.YtfonpobdnhifgamGreatDoor
open Go Go.RowKit

def NrstPost (d : Dr) (w : World) (p : Nat) (lv : Int) (L : List En) (O : Nat → Prop) (r : Ending) (w' : World) : Prop := ∃ O' sn', r = .returned (.tuple #[.string (nnV d L), .bool (decide (0 ≤ nbV d L L.length)), .nilIface]) ∧ ARep w' p lv L O' sn' ∧ (∀ k, O' k → O k ∨ w.heap.size ≤ k) ∧ Oth O w w'
theorem near_nil {d : Dr} {w w' : World} {p : Nat} {lv : Int} {L : List En} {O : Nat → Prop} {sn : Int} (h : ARep w p lv L O sn) (hL : L.length = 0) (g : Below w.heap.size w w') : NrstPost d w p lv L O (.returned (.tuple #[.string ByteArray.empty, .bool false, .nilIface])) w' := by
  have e1 : nbV d L L.length = -1 := by rw [hL]; rfl
  refine ⟨O, sn, ?_, arep_keep h (fun j hj => g.block j (arep_low h j hj)), fun k hk => .inl hk, ⟨g.os, g.tape, g.output, g.size, fun k hk _ => g.block k hk⟩⟩
  unfold nnV
  rw [e1, if_neg (by decide)]
  rfl
theorem near_ok {d : Dr} {w v5 u7 : World} {p : Nat} {lv : Int} {L : List En} {O : Nat → Prop} {sn sn' : Int} {y : Int} (h : ARep w p lv L O sn) (h0 : 0 < L.length) (g5 : Below w.heap.size w v5) (h7 : ARep u7 p lv L O sn') (o7 : Oth (· = p) v5 u7) (hC : Cv lv L d (enN L d) (tkN L d) (facL 6) (-1) y) : NrstPost d w p lv L O (.returned (.tuple #[.string (L.getD y.toNat en0).nm, .bool true, .nilIface])) u7 := by
  have hA := h
  obtain ⟨sv, bn, bc, es, clock, hx, hO⟩ := h
  obtain ⟨h1, h2⟩ := nn_is hx.lvl.1 hx.dir h0 hC
  refine ⟨O, sn', by rw [h2, decide_eq_true h1], h7, fun k hk => .inl hk, ⟨o7.os.trans g5.os, o7.tape.trans g5.tape, o7.output.trans g5.output, Nat.le_trans g5.size o7.size, fun k hk hn => ?_⟩⟩
  exact (o7.block k (Nat.lt_of_lt_of_le hk g5.size) (fun ep => hn (by rw [ep]; exact rep_p hA))).trans (g5.block k hk)
set_option maxRecDepth 1000000 in
set_option maxHeartbeats 6400000 in
theorem pNear_any {w : World} {p : Nat} {lv : Int} {K : List En} {O : Nat → Prop} {sn : Int} (h : ARep w p lv K O sn) (hKl : K.length ≤ 200) (d : Dr) (hd : dirB d = true) :
    Calls Tryz.prog 15 #[.pointer (some ⟨p, 0, none⟩), d.val] w (NrstPost d w p lv K O) := by
  have hdi := fun u => pdir_any d u
  rw [hd] at hdi
  have HA : HeldR (∀ u, Below w.heap.size w u → ARep u p lv K O sn) := hideR (fun u g => arep_keep h (fun j hj => g.block j (arep_low h j hj)))
  have H0 : HeldR (K.length = 0 → ∀ w', Below w.heap.size w w' → NrstPost d w p lv K O (.returned (.tuple #[.string ByteArray.empty, .bool false, .nilIface])) w') := hideR (fun hL w' g => near_nil h hL g)
  have HOk : HeldR (0 < K.length → ∀ v5 u7 sn' y, Below w.heap.size w v5 → ARep u7 p lv K O sn' → Oth (· = p) v5 u7 → Cv lv K d (enN K d) (tkN K d) (facL 6) (-1) y → NrstPost d w p lv K O (.returned (.tuple #[.string (K.getD y.toNat en0).nm, .bool true, .nilIface])) u7) := hideR (fun h0 v5 u7 sn' y g1 g2 g3 g4 => near_ok h h0 g1 g2 g3 g4)
  have HRg : HeldR (0 < K.length → ∀ y, Cv lv K d (enN K d) (tkN K d) (facL 6) (-1) y → 0 ≤ y ∧ y < (K.length : Int)) := hideR (fun h0 y hC => by
    obtain ⟨sv, bn, bc, es, clock, hx, hO⟩ := h
    obtain ⟨h1, h2, _⟩ := near_is hx.lvl.1 hx.dir h0 hC
    exact ⟨h1, h2⟩)
  generalize NrstPost d w p lv K O = CP at *
  have z0 := alloc_last w (.cells #[.int .i64 d.x, .int .i64 d.y, .int .i64 d.z] 24)
  have HB := hideR (below_a w (.cells #[.int .i64 d.x, .int .i64 d.y, .int .i64 d.z] 24))
  unfold Dr.val at hdi ⊢
  have x0 := (cells_at z0 0 (by simp)).1
  have x1 := (cells_at z0 1 (by simp)).1
  have x2 := (cells_at z0 2 (by simp)).1
  have Hz := hideR z0
  clear z0
  have hsi := fun u (g : Below w.heap.size w u) => psize2_any (unhideR HA u g)
  have HD := hideR hd
  clear hd h
  obtain ⟨m, hm⟩ : ∃ m, K.length = m := ⟨_, rfl⟩
  have Hm := hideR hm
  rw [hm] at hsi
  go_enter Tryz.func15, Tryz.ntmps15
  go_wp2_with fail
  refine (hdi _).mono ?_
  rintro r u1 ⟨rfl, k1⟩
  replace HB := hideR (below_go (unhideR HB) k1)
  replace Hz := hideR (keepB (unhideR Hz) k1)
  clear hdi k1 x0 x1 x2
  go_wp2_with fail
  refine (hsi _ (unhideR HB)).mono ?_
  rintro r u2 ⟨rfl, rfl⟩
  clear hsi
  by_cases h0 : m = 0
  · subst h0
    have HQ := hideR (unhideR H0 (unhideR Hm) _ (unhideR HB))
    clear H0 HOk HA Hz HRg
    go_wp2
    simp [bodyPost, results, Tryz.results15, go_sem]
    exact unhideR HQ
  have tb : ((m : Int) == 0) = false := beq_eq_false_iff_ne.2 (by omega)
  have tbn : (m == 0) = false := beq_eq_false_iff_ne.2 h0
  have x0 := (cells_at (unhideR Hz) 0 (by simp)).1
  have x1 := (cells_at (unhideR Hz) 1 (by simp)).1
  have x2 := (cells_at (unhideR Hz) 2 (by simp)).1
  have hA5 := unhideR HA u2 (unhideR HB)
  obtain ⟨sv, bn, bc, es, clock, hx5, hO5⟩ := hA5
  obtain ⟨ad, cap, esv, hro⟩ := hx5.ro
  have hne := pnearest_all hro hKl (unhideR HD)
  unfold Dr.val at hne
  have HA5 : HeldR (ARep u2 p lv K O sn) := hideR ⟨sv, bn, bc, es, clock, hx5, hO5⟩
  clear hx5 hO5 hro esv H0
  go_wp2_with fail
  refine hne.mono ?_
  rintro r u6 ⟨⟨y, lk, rfl, hCv⟩, b6⟩
  have HCv := hideR hCv
  have HB6 := hideR b6
  have hy := unhideR HRg (by have := unhideR Hm; omega) y hCv
  have HA6 : HeldR (ARep u6 p lv K O sn) := hideR (arep_keep (unhideR HA5) (fun j hj => b6.block j (arep_low (unhideR HA5) j hj)))
  clear hCv b6 hne x0 x1 x2 Hz
  obtain ⟨sv6, bn6, bc6, es6, clock6, hx6, hO6⟩ := unhideR HA6
  have c4 := (cells_at hx6.hp 4 (by simp)).1
  have f4 := (cells_at hx6.hp 4 (by simp)).2
  have HA7 : HeldR (ARep (u6.setCell ⟨p, 4, none⟩ (.int .i64 (wrap64 (sn + lk)))) p lv K O (wrap64 (sn + lk))) := hideR (rep_seen (unhideR HA6) _)
  have HO7 : HeldR (Oth (· = p) u2 (u6.setCell ⟨p, 4, none⟩ (.int .i64 (wrap64 (sn + lk))))) := hideR (by
    have b := unhideR HB6
    exact ⟨b.os, b.tape, b.output, by show _ ≤ (u6.heap.modify _ _).size; rw [Array.size_modify]; exact b.size, fun k hk hn => (Below.heap_setCell _ _ _ _ hn).trans (b.block k hk)⟩)
  clear hx6 hO6 HA6 HB6 HA5 HA
  obtain ⟨yn, rfl⟩ : ∃ yn : Nat, y = yn := ⟨y.toNat, by omega⟩
  go_upto_region 7 with fail
  clear c4 f4
  generalize u6.setCell ⟨p, 4, none⟩ (.int .i64 (wrap64 (sn + lk))) = u7 at *
  have HQ := hideR (unhideR HOk (by have := unhideR Hm; omega) u2 u7 _ _ (unhideR HB) (unhideR HA7) (unhideR HO7) (unhideR HCv))
  rw [Int.toNat_natCast] at HQ
  obtain ⟨sv7, bn7, bc7, es7, clock7, hx7, hO7⟩ := unhideR HA7
  obtain ⟨ad7, cap7, esv7, hro7⟩ := hx7.ro
  subst esv7
  have hyl : yn < K.length := by have := hy.2; omega
  obtain ⟨b2, had2, hbl2, hSt⟩ := hro7.st yn hyl
  subst had2
  have p1 := (cells_at hx7.hp 1 (by simp)).1
  have s0 := hSt.c0
  have hyi : (yn : Int) < (K.length : Int) := by omega
  rw [hm] at p1 hyi
  clear hx7 hO7 hro7 hSt HOk HA7 HO7 HCv HRg hbl2 hyl hy
  generalize (K.getD yn en0).nm = nmv at *
  go_wp2
  simp [bodyPost, results, Tryz.results15, go_sem]
  exact unhideR HQ
theorem cn_prog (a : Nat → Addr) : CnProg a ARep where
  cone := fun h hS hl d num den => pcone_any h hS hl d num den
  nearest := fun h hl d hd => pNear_any h hl d hd
end Go.Proofs.YtfonpobdnhifgamGreatDoor
