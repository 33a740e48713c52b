/-
  The pixels of a spot's box: the program's, by contract.
-/
import Derived.Test.YtmgnobeaacjdjajGreatDoorDZ1
import Derived.Test.YtmgnobeaacjdjajGreatDoorSpRA
import Derived.Test.YtmgnobeaacjdjajGreatDoorDTB
import Derived.Test.YtmgnobeaacjdjajGreatDoorDWA
import Derived.Test.YtmgnobeaacjdjajGreatDoorFarC
namespace Go.Proofs.YtmgnobeaacjdjajGreatDoor
open Go Go.RowKit

theorem infoPx : (Tryz.prog.info? 61).map (fun i => (i.zero, i.size, i.bytes)) = some (some Pxzv, 2, 16) := by kernel_rfl
theorem two_new {w : World} {g : Nat} {x y : Int} {ty : TypeId} (h : w.heap[g]? = some (.cells #[.int .i64 x, .int .i64 y] ty)) : ∀ k u, (valPx ⟨x, y⟩)[k]? = some u → w.cell? ((⟨g, 0, none⟩ : Addr).add k) = some u := by
  intro k u hu
  have hk : k < 2 := (List.getElem?_eq_some_iff.1 hu).1
  have := (cells_at h k (by simpa using hk)).1
  rw [add_pl2, Nat.zero_add, this]
  rcases (show k = 0 ∨ k = 1 by omega) with rfl | rfl
  · exact hu
  · exact hu
theorem csP_range {D : List Px} (h : ∀ x ∈ D, 0 ≤ x.cnt ∧ x.cnt ≤ 65535) : 0 ≤ csP D ∧ csP D ≤ 65535 * (D.length : Int) := by
  induction D with
  | nil => exact ⟨Int.le_refl _, by simp [csP]⟩
  | cons a D ih =>
    have h1 := ih (fun x hx => h x (List.mem_cons_of_mem _ hx))
    have h2 := h a List.mem_cons_self
    simp only [csP, List.length_cons]
    omega
/-- a spot's box that lies in a picture. -/
structure BoxIn (p : Pic) (s : Sta) (W H L T R O : Nat) : Prop where
  pw : p.wide = (W : Nat)
  ph : p.high = (H : Nat)
  pl : p.L.length = H * W
  w2 : W ≤ 256
  h2 : H ≤ 256
  each : ∀ k, 0 ≤ p.L.getD k 0 ∧ p.L.getD k 0 ≤ 65535
  le : s.le = (L : Nat)
  tp : s.tp = (T : Nat)
  ri : s.ri = (R : Nat)
  lo : s.lo = (O : Nat)
  lr : L ≤ R
  rw_ : R < W
  to_ : T ≤ O
  oh : O < H
  fx : farB s.x = false
  fy : farB s.y = false
theorem box_in_of {p : Pic} {s : Sta} (hok : PicOk p) (hb : hasB p s = true) (fx : farB s.x = false) (fy : farB s.y = false) : ∃ W H L T R O, BoxIn p s W H L T R O := by
  unfold hasB liesB at hb
  simp only [Bool.and_eq_true, decide_eq_true_eq] at hb
  obtain ⟨⟨a1, a2, a3⟩, b1, b2, b3⟩ := hb
  have w1 := hok.w1
  have w2 := hok.w2
  have h1 := hok.h1
  have h2 := hok.h2
  refine ⟨p.wide.toNat, p.high.toNat, s.le.toNat, s.tp.toNat, s.ri.toNat, s.lo.toNat, by omega, by omega, ?_, by omega, by omega, fun k => ?_, by omega, by omega, by omega, by omega, by omega, by omega, by omega, by omega, fx, fy⟩
  · have := hok.len
    have e : p.wide * p.high = ((p.high.toNat * p.wide.toNat : Nat) : Int) := by rw [Int.natCast_mul, Int.toNat_of_nonneg (by omega), Int.toNat_of_nonneg (by omega), Int.mul_comm]
    omega
  · by_cases q : k < p.L.length
    · exact hok.each k q
    · rw [List.getD_eq_getElem?_getD, List.getElem?_eq_none (by omega)]; exact ⟨by decide, by decide⟩
section
variable {p : Pic} {s : Sta} {W H L T R O : Nat}
theorem BoxIn.nw (h : BoxIn p s W H L T R O) : nW s = R - L + 1 := by unfold nW; have := h.le; have := h.ri; have := h.lr; omega
theorem BoxIn.nh (h : BoxIn p s W H L T R O) : nH s = O - T + 1 := by unfold nH; have := h.tp; have := h.lo; have := h.to_; omega
theorem BoxIn.cnt (h : BoxIn p s W H L T R O) (u v : Nat) : cntV p s u v = p.L.getD ((T + v) * W + (L + u)) 0 := by
  unfold cntV
  rw [h.le, h.tp, h.pw]
  rfl
theorem BoxIn.d (h : BoxIn p s W H L T R O) (u v : Nat) : dV s u v = (1024 * ((L + u : Nat) : Int) + 512 - s.x) * (1024 * ((L + u : Nat) : Int) + 512 - s.x) + (1024 * ((T + v : Nat) : Int) + 512 - s.y) * (1024 * ((T + v : Nat) : Int) + 512 - s.y) := by
  unfold dV distV
  rw [h.le, h.tp, Int.natCast_add, Int.natCast_add]
theorem BoxIn.few (h : BoxIn p s W H L T R O) (v u : Nat) (hv : v ≤ nH s) (hu : u ≤ nW s) : (boxP p s v ++ rwP p s v u).length ≤ 70000 := by
  rw [List.length_append, boxP_len, row_len]
  have := h.nw
  have := h.nh
  have := h.rw_
  have := h.oh
  have := h.w2
  have := h.h2
  have h1 : v * nW s ≤ 256 * 256 := Nat.mul_le_mul (by omega) (by omega)
  omega
theorem BoxIn.sum (h : BoxIn p s W H L T R O) (v u : Nat) (hv : v ≤ nH s) (hu : u ≤ nW s) : 0 ≤ csP (boxP p s v ++ rwP p s v u) ∧ csP (boxP p s v ++ rwP p s v u) ≤ 4700000000 := by
  have h1 := h.few v u hv hu
  have h2 := csP_range (D := boxP p s v ++ rwP p s v u) (fun x hx => by
    rcases List.mem_append.1 hx with hx | hx
    · obtain ⟨a, b, _, _, e⟩ := box_mem hx
      rw [e]; exact h.each _
    · obtain ⟨a, _, e⟩ := row_mem hx
      rw [e]; exact h.each _)
  omega
theorem BoxIn.ix (h : BoxIn p s W H L T R O) {u v : Nat} (hv : v < nH s) (hu : u < nW s) : (T + v) * W + (L + u) < H * W := by
  have := h.lr
  have := h.to_
  have := h.nw
  have := h.nh
  have := h.rw_
  have := h.oh
  have h1 := Nat.mul_le_mul_right W (show T + v + 1 ≤ H by omega)
  rw [Nat.add_mul, Nat.one_mul] at h1
  omega
end
theorem own_base {w : World} {A B n s : Nat} {e : TypeId} {v : Value} {xs : List Value} (h : w.ownsRow B e s v n xs) (hb : A ≤ B) : w.ownsRow A e s v n xs := by
  rcases h with ⟨h1, h | ⟨g, cap, cur, h2, h3, h4⟩⟩
  · exact ⟨h1, .inl h⟩
  · exact ⟨h1, .inr ⟨g, cap, cur, h2, Nat.le_trans hb h3, h4⟩⟩
def BxPost (p : Pic) (s : Sta) (w : World) (e : Ending) (w' : World) : Prop := ∃ u, e = .returned (.tuple #[u, .int .i64 (csP (boxP p s (nH s)))]) ∧ w'.ownsRow w.heap.size 61 2 u (boxP p s (nH s)).length (flatPx (boxP p s (nH s))) ∧ Below w.heap.size w w'
set_option maxRecDepth 100000 in
set_option maxHeartbeats 3200000 in
theorem boxPixels_any {w : World} {v : Value} {p : Pic} {s : Sta} {W H L T R O : Nat} (hv : PicC w v p) (hI : BoxIn p s W H L T R O) : Calls Tryz.prog 18 #[v, sxV s] w (BxPost p s w) := by
  obtain ⟨i0, hi0, hz0, hz1, hz2⟩ := info_parts infoPx
  obtain ⟨ad, cap, rfl, hc, hl, hcc, hcb⟩ := hv
  have HI := hideR hI
  have eS : sxV s = .agg #[.int .i64 (L : Nat), .int .i64 (T : Nat), .int .i64 (R : Nat), .int .i64 (O : Nat), .int .i64 s.px, .int .i64 s.li, .int .i64 s.x, .int .i64 s.y, .int .i64 s.lt] := by unfold sxV; rw [hI.le, hI.tp, hI.ri, hI.lo]
  rw [eS, hI.pw, hI.ph, hI.pl]
  have hg0 := keepA (o' := .cells #[.int .i64 (L : Nat), .int .i64 (T : Nat), .int .i64 (R : Nat), .int .i64 (O : Nat), .int .i64 s.px, .int .i64 s.li, .int .i64 s.x, .int .i64 s.y, .int .i64 s.lt] 36) (alloc_last w (.cells #[.int .i64 (W : Nat), .int .i64 (H : Nat), .slice ad (H * W) cap] 31))
  have hg1 : ((w.alloc (.cells #[.int .i64 (W : Nat), .int .i64 (H : Nat), .slice ad (H * W) cap] 31)).alloc (.cells #[.int .i64 (L : Nat), .int .i64 (T : Nat), .int .i64 (R : Nat), .int .i64 (O : Nat), .int .i64 s.px, .int .i64 s.li, .int .i64 s.x, .int .i64 s.y, .int .i64 s.lt] 36)).heap[w.heap.size + 1]? = some (.cells #[.int .i64 (L : Nat), .int .i64 (T : Nat), .int .i64 (R : Nat), .int .i64 (O : Nat), .int .i64 s.px, .int .i64 s.li, .int .i64 s.x, .int .i64 s.y, .int .i64 s.lt] 36) := by
    have := alloc_last (w.alloc (.cells #[.int .i64 (W : Nat), .int .i64 (H : Nat), .slice ad (H * W) cap] 31)) (.cells #[.int .i64 (L : Nat), .int .i64 (T : Nat), .int .i64 (R : Nat), .int .i64 (O : Nat), .int .i64 s.px, .int .i64 s.li, .int .i64 s.x, .int .i64 s.y, .int .i64 s.lt] 36)
    simpa using this
  have HW := hideR (below_two w (.cells #[.int .i64 (W : Nat), .int .i64 (H : Nat), .slice ad (H * W) cap] 31) (.cells #[.int .i64 (L : Nat), .int .i64 (T : Nat), .int .i64 (R : Nat), .int .i64 (O : Nat), .int .i64 s.px, .int .i64 s.li, .int .i64 s.x, .int .i64 s.y, .int .i64 s.lt] 36))
  have HG0 := hideR hg0
  have HG1 := hideR hg1
  have HRow0 := hideR (hc.below (unhideR HW))
  have f1 := of_decide_eq_false hI.fx
  have f2 := of_decide_eq_false hI.fy
  have hnw := hI.nw
  have hnh := hI.nh
  have hlr := hI.lr
  have hrw := hI.rw_
  have hto := hI.to_
  have hoh := hI.oh
  have hw2 := hI.w2
  have hh2 := hI.h2
  have hpl := hI.pl
  have hWH : 0 < H * W := Nat.mul_pos (by omega) (by omega)
  obtain ⟨bl, ol, rfl, hbl, _⟩ := hc.at_ 0 (by rw [hpl]; exact hWH)
  obtain ⟨N, hN⟩ : ∃ N, H * W = N := ⟨_, rfl⟩
  have HN := hideR hN
  have HPL := hideR hpl
  have hNb : N ≤ 65536 := by rw [← hN]; exact Nat.mul_le_mul hh2 hw2
  rw [hN] at hg0 HG0 HG1 HW HRow0 ⊢
  clear hg0 hg1 hc hI hl hcc hcb hpl hN eS hWH
  go_enter Tryz.func18, Tryz.ntmps18
  go_upto_region 3 with fail
  obtain ⟨K, hK⟩ : ∃ K, w.heap.size = K := ⟨_, rfl⟩
  have HK := hideR hK
  rw [hK] at HG0 HG1 ⊢
  generalize (w.alloc (.cells #[.int .i64 (W : Nat), .int .i64 (H : Nat), .slice (some ⟨bl, ol, none⟩) N cap] 31)).alloc (.cells #[.int .i64 (L : Nat), .int .i64 (T : Nat), .int .i64 (R : Nat), .int .i64 (O : Nat), .int .i64 s.px, .int .i64 s.li, .int .i64 s.x, .int .i64 s.y, .int .i64 s.lt] 36) = W1 at *
  have HSp : HeldR (∀ u, Below W1.heap.size W1 u → u.cell? ⟨K + 1, 0, none⟩ = some (.int .i64 (L : Nat)) ∧ u.cell? ⟨K + 1, 1, none⟩ = some (.int .i64 (T : Nat)) ∧ u.cell? ⟨K + 1, 2, none⟩ = some (.int .i64 (R : Nat)) ∧ u.cell? ⟨K + 1, 3, none⟩ = some (.int .i64 (O : Nat)) ∧ u.cell? ⟨K + 1, 6, none⟩ = some (.int .i64 s.x) ∧ u.cell? ⟨K + 1, 7, none⟩ = some (.int .i64 s.y) ∧ u.cell? ⟨K + 1, 8, none⟩ = some (.int .i64 s.lt)) := hideR (fun u k => by
    have q := nine_at9 (x := ⟨(L : Nat), (T : Nat), (R : Nat), (O : Nat), s.px, s.li, s.x, s.y, s.lt⟩) (keepB (unhideR HG1) k)
    exact ⟨q.c0, q.c1, q.c2, q.c3, q.c6, q.c7, q.c8⟩)
  have HRow : HeldR (∀ u, Below W1.heap.size W1 u → ∀ k, k < N → u.cell? ⟨bl, ol + k, none⟩ = some (.int .i64 (p.L.getD k 0))) := hideR (fun u k j hj => by
    obtain ⟨b9, o9, e9, _, x9⟩ := ((unhideR HRow0).below k).at_ j (by rw [unhideR HPL, unhideR HN]; exact hj)
    injection e9 with e9
    injection e9 with e1 e2
    subst e1
    subst e2
    exact x9)
  obtain ⟨d0, d1, d2, d3, d6, d7, d8⟩ := unhideR HSp W1 (Below.refl _ _)
  have hKs : K + 1 < W1.heap.size := ltB (unhideR HG1)
  clear hK HRow0 hbl
  go_wp2
  clear d0 d1 d2 d3 d6 d7 d8
  go_loopw [6, 7, 8] (fun lv av yv wl => ∃ v : Nat, v ≤ nH s ∧ yv = .int .i64 ((T + v : Nat) : Int) ∧ av = .int .i64 (csP (boxP p s v)) ∧ HeldR (wl.ownsRow W1.heap.size 61 2 lv (boxP p s v).length (flatPx (boxP p s v))) ∧ HeldR (Below W1.heap.size W1 wl)) (fun _ _ yv _ => 1000 - (intOf yv).toNat)
  case atStart => exact ⟨0, by omega, by simp, rfl, World.ownsRow_nil _ _ _ _, hideR (Below.refl _ _)⟩
  case round =>
    obtain ⟨v, hv, rfl, rfl, HO, HB⟩ := hrel
    obtain ⟨d0, d1, d2, d3, d6, d7, d8⟩ := unhideR HSp wr (unhideR HB)
    by_cases hvl : v < nH s
    · have tv : decide (((T + v : Nat) : Int) ≤ (O : Nat)) = true := decide_eq_true (by omega)
      have tv2 : decide (T + v ≤ O) = true := decide_eq_true (by omega)
      have wy : IntKind.i64.wrap (((T + v : Nat) : Int) + 1) = ((T + (v + 1) : Nat) : Int) := by rw [show ((T + v : Nat) : Int) + 1 = ((T + (v + 1) : Nat) : Int) by omega]; exact iwrap (by omega) (by omega)
      obtain ⟨y, hy⟩ : ∃ y, T + v = y := ⟨_, rfl⟩
      have HY := hideR hy
      have HA0 : HeldR (wr.ownsRow W1.heap.size 61 2 u6 (boxP p s v ++ rwP p s v 0).length (flatPx (boxP p s v ++ rwP p s v 0))) := hideR (by
        rw [show rwP p s v 0 = [] from rfl, List.append_nil]; exact unhideR HO)
      have e0 : csP (boxP p s v) = csP (boxP p s v ++ rwP p s v 0) := by rw [show rwP p s v 0 = [] from rfl, List.append_nil]
      have HB0 := HB
      rw [hy] at tv tv2 wy ⊢
      rw [e0]
      clear e0 HO
      have hyb : y ≤ 255 := by omega
      have tvn : v ≤ nH s := hv
      go_wp2
      clear d0 d1 d2 d3 d6 d7 d8 HB
      go_loopw [6, 7, 9] (fun lv av xv wl => ∃ u : Nat, u ≤ nW s ∧ xv = .int .i64 ((L + u : Nat) : Int) ∧ av = .int .i64 (csP (boxP p s v ++ rwP p s v u)) ∧ HeldR (wl.ownsRow W1.heap.size 61 2 lv (boxP p s v ++ rwP p s v u).length (flatPx (boxP p s v ++ rwP p s v u))) ∧ HeldR (Below W1.heap.size W1 wl)) (fun _ _ xv _ => 1000 - (intOf xv).toNat)
      case atStart => exact ⟨0, by omega, by simp, rfl, HA0, HB0⟩
      case round =>
        obtain ⟨u, hu, rfl, rfl, HO, HB⟩ := hrel
        obtain ⟨d0, d1, d2, d3, d6, d7, d8⟩ := unhideR HSp wr (unhideR HB)
        obtain ⟨c0, c1, c2⟩ := pic_three (keepB (unhideR HG0) (unhideR HB))
        by_cases hul : u < nW s
        · have tx : decide (((L + u : Nat) : Int) ≤ (R : Nat)) = true := decide_eq_true (by omega)
          have tx2 : decide (L + u ≤ R) = true := decide_eq_true (by omega)
          have wx : IntKind.i64.wrap (((L + u : Nat) : Int) + 1) = ((L + (u + 1) : Nat) : Int) := by rw [show ((L + u : Nat) : Int) + 1 = ((L + (u + 1) : Nat) : Int) by omega]; exact iwrap (by omega) (by omega)
          have hix := (unhideR HI).ix hvl hul
          have hcv := (unhideR HI).cnt u v
          have hdv := (unhideR HI).d u v
          have hsum := (unhideR HI).sum v u tvn hu
          have hfew := (unhideR HI).few v u tvn hu
          have hec := (unhideR HI).each ((T + v) * W + (L + u))
          rw [unhideR HY] at hix hcv hdv hec
          obtain ⟨x, hx⟩ : ∃ x, L + u = x := ⟨_, rfl⟩
          have HXe := hideR hx
          rw [hx] at tx tx2 wx hix hcv hdv hec ⊢
          have hxb : x ≤ 255 := by omega
          obtain ⟨m, hm⟩ : ∃ m, y * W = m := ⟨_, rfl⟩
          rw [hm] at hix hcv hec
          obtain ⟨ix, hixe⟩ : ∃ ix, m + x = ix := ⟨_, rfl⟩
          rw [hixe] at hix hcv hec
          rw [unhideR HN] at hix
          have xc := unhideR HRow wr (unhideR HB) ix hix
          obtain ⟨c, hce⟩ : ∃ c, p.L.getD ix 0 = c := ⟨_, rfl⟩
          rw [hce] at xc hcv hec
          have wm : IntKind.i64.wrap ((y : Int) * (W : Int)) = (m : Int) := by rw [← Int.natCast_mul, hm]; exact iwrap (by omega) (by omega)
          have wix : IntKind.i64.wrap ((m : Int) + (x : Int)) = (ix : Int) := by rw [show (m : Int) + (x : Int) = (ix : Int) by omega]; exact iwrap (by omega) (by omega)
          have jx : (ix : Int) < (N : Int) := by omega
          have hfar := fun u => starFar_any s (x : Nat) (y : Nat) (by omega) (by omega) (by omega) (by omega) (unhideR HI).fx (unhideR HI).fy u
          obtain ⟨far, hfe⟩ : ∃ far, distV s (x : Nat) (y : Nat) = far := ⟨_, rfl⟩
          replace hdv : dV s u v = far := hdv.trans hfe
          rw [hfe] at hfar
          have HNx : HeldR (boxP p s v ++ rwP p s v (u + 1) = (boxP p s v ++ rwP p s v u) ++ [⟨far, c⟩]) := hideR (by
            show boxP p s v ++ (rwP p s v u ++ [⟨dV s u v, cntV p s u v⟩]) = _
            rw [hdv, hcv, List.append_assoc])
          generalize boxP p s v ++ rwP p s v u = M at *
          obtain ⟨ca, hca⟩ : ∃ ca, csP M = ca := ⟨_, rfl⟩
          have HC1 : HeldR (csP (boxP p s v ++ rwP p s v (u + 1)) = ca + c) := hideR (by
            rw [unhideR HNx, csP_app, hca]
            simp [csP])
          rw [hca] at hsum ⊢
          have wca : IntKind.i64.wrap (ca + c) = ca + c := iwrap (by omega) (by omega)
          clear hm hixe hce hfe hdv hcv hix hx hca
          go_wp2_with fail
          refine (hfar _).mono ?_
          rintro e w3 ⟨rfl, kd⟩
          have HO3 := hideR (own_below2 (unhideR HO) kd)
          have HB3 := hideR (below_go (unhideR HB) kd)
          clear kd HO HB d0 d1 d2 d3 d6 d7 d8 c0 c1 c2 hfar xc
          have lk := (unhideR HB3).size
          obtain ⟨nm, hnm⟩ : ∃ nm, M.length = nm := ⟨_, rfl⟩
          rw [hnm] at HO3 hfew
          go_wp2_with (first
            | (at_builtin; refine wpList_append_own _ rfl _ _ 56 rfl W1.heap.size 61 i0 Pxzv 2 16 Tryz.underlying56 hi0 hz0 hz1 hz2 rfl (by decide) _ nm (flatPx M) rfl (own_below2 (unhideR HO3) (below_a _ _)) ⟨w3.heap.size, 0, none⟩ 1 1 (valPx ⟨far, c⟩) rfl rfl ?c1 ?c2 ?c3 ?c4 ?c5 ?_))
          case c1 => exact two_new (alloc_last w3 _)
          case c2 =>
            intro u hu
            exact flatPx_one [⟨far, c⟩] u (by simpa [flatPx] using hu)
          case c3 => unfold maxLen; omega
          case c4 => omega
          case c5 => simp; omega
          intro v4 w4 hown2 hgrow2 _
          have HB4 := hideR ((below_go (unhideR HB3) (below_a w3 _)).grown hgrow2 (by simp; omega) (fun g h => own_at2 (unhideR HO3) g h))
          have HO4 : HeldR (w4.ownsRow W1.heap.size 61 2 v4 (boxP p s v ++ rwP p s v (u + 1)).length (flatPx (boxP p s v ++ rwP p s v (u + 1)))) := hideR (by
            rw [unhideR HNx, flatPx_append, List.length_append, hnm]
            rw [show flatPx [⟨far, c⟩] = valPx ⟨far, c⟩ from List.append_nil _]
            exact hown2)
          clear hown2 hgrow2 HO3 HB3 HNx
          go_wp2
          exact ⟨⟨u + 1, by omega, by first | rfl | go_num, by rw [unhideR HC1], HO4, HB4⟩, by have := unhideR HXe; simp [intOf]; omega⟩
        · obtain rfl : u = nW s := by omega
          have tx : decide (((L + nW s : Nat) : Int) ≤ (R : Nat)) = false := decide_eq_false (by omega)
          have tx2 : decide (L + nW s ≤ R) = false := decide_eq_false (by omega)
          have HO5 : HeldR (wr.ownsRow W1.heap.size 61 2 u6 (boxP p s (v + 1)).length (flatPx (boxP p s (v + 1)))) := HO
          have e5 : csP (boxP p s v ++ rwP p s v (nW s)) = csP (boxP p s (v + 1)) := rfl
          rw [e5]
          obtain ⟨ca, hca⟩ : ∃ ca, csP (boxP p s (v + 1)) = ca := ⟨_, rfl⟩
          have HCa := hideR hca
          rw [hca]
          clear hca e5 HO
          go_wp2
          exact ⟨⟨v + 1, by omega, by first | rfl | go_num, by rw [unhideR HCa], HO5, HB⟩, by have := unhideR HY; simp [intOf]; omega⟩
    · obtain rfl : v = nH s := by omega
      have tv : decide (((T + nH s : Nat) : Int) ≤ (O : Nat)) = false := decide_eq_false (by omega)
      have tv2 : decide (T + nH s ≤ O) = false := decide_eq_false (by omega)
      have HF : HeldR (BxPost p s w (.returned (.tuple #[u6, .int .i64 (csP (boxP p s (nH s)))])) wr) := hideR ⟨_, rfl, own_base (unhideR HO) (unhideR HW).size, below_go (unhideR HW) (unhideR HB)⟩
      generalize csP (boxP p s (nH s)) = ca at *
      clear HO
      go_wp2
      go_ret2
      exact unhideR HF
end Go.Proofs.YtmgnobeaacjdjajGreatDoor
