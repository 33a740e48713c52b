/-
  The document's light of a star, by contract.
-/
import Derived.Test.YtmgnobeaacjdjajDoorLtR
import Derived.Test.YtmgnobeaacjdjajDoorSpRA
import Derived.Test.YtmgnobeaacjdjajDoorFrMed
import Derived.Test.YtmgnobeaacjdjajDoorPureA
import Derived.Test.YtmgnobeaacjdjajDoorSpKA
import Derived.Deep.CutRange
namespace Go.Proofs.YtmgnobeaacjdjajDoor
open Go Go.RowKit

def RoPost (p : Pic) (s : Sta) (i o : Int) (w : World) (e : Ending) (w' : World) : Prop := e = .returned (.tuple #[.int .i64 (roundV p s i o).1, .int .i64 (roundV p s i o).2.1, .int .i64 (roundV p s i o).2.2, .int .i64 (roundE p s i o)]) ∧ Below w.heap.size w w'
theorem ro_none {p : Pic} {s : Sta} {i o E : Int} {w w' : World} (h : roundE p s i o = E) (h0 : E ≠ 0) (k : Below w.heap.size w w') : RoPost p s i o w (.returned (.tuple #[.int .i64 0, .int .i64 0, .int .i64 0, .int .i64 E])) w' := by
  unfold RoPost roundV
  rw [h, if_pos h0]
  exact ⟨rfl, k⟩
theorem results_tmp4 {fn : Func} {t u v x : Tmp} (h : fn.results = #[.tmp t, .tmp u, .tmp v, .tmp x]) (tmps : Array Value) (P : Program) (w : World) :
    (results fn tmps).run P w = .ok (.tuple #[tmps.getD t undef, tmps.getD u undef, tmps.getD v undef, tmps.getD x undef]) w := by
  simp [results, h]
theorem not_badRd {s : Sta} {i o : Int} (h : ¬ badRd s i o) : 1 ≤ i ∧ i < o ∧ o ≤ 1048576 ∧ farB s.x = false ∧ farB s.y = false := by
  unfold badRd at h
  refine ⟨by omega, by omega, by omega, ?_, ?_⟩
  · cases e : farB s.x with
    | false => rfl
    | true => exact absurd (.inr (.inr (.inr (.inl e)))) h
  · cases e : farB s.y with
    | false => rfl
    | true => exact absurd (.inr (.inr (.inr (.inr e)))) h
set_option maxRecDepth 100000 in
set_option maxHeartbeats 6400000 in
theorem roundOf_any {w : World} {b o cap : Nat} {ad : Option Addr} {p : Pic} (h : PicAt w b o ad cap p) (hl : p.L.length * 8 ≤ 140737488355328) (s : Sta) (i0' o0' : Int) :
    Calls Tryd.prog 11 #[.pointer (some ⟨b, o, none⟩), .agg #[.int .i64 s.x, .int .i64 s.y, .int .i64 s.lt], .int .i64 i0', .int .i64 o0'] w (RoPost p s i0' o0' w) := by
  obtain ⟨i0, hi0, hz0, hz1, hz2⟩ := info_parts infoI
  have hb := below_a w (.cells #[.int .i64 s.x, .int .i64 s.y, .int .i64 s.lt] 35)
  have hpe := pictureError_any (h.below hb) hl
  have HP : HeldR (∀ u, Below w.heap.size w u → PicAt u b o ad cap p) := hideR (fun u k => h.below k)
  have hrg := picE_range p
  have HG := hideR (alloc_last w (.cells #[.int .i64 s.x, .int .i64 s.y, .int .i64 s.lt] 35))
  have HB0 := hideR hb
  clear h hb
  by_cases e0 : picE p = 0
  case neg =>
    have hE : roundE p s i0' o0' = picE p := by unfold roundE; rw [if_pos e0]
    have HF : HeldR (∀ u, Below w.heap.size w u → RoPost p s i0' o0' w (.returned (.tuple #[.int .i64 0, .int .i64 0, .int .i64 0, .int .i64 (picE p)])) u) := hideR (fun u k => ro_none hE e0 k)
    have hp0 : 0 < picE p := by omega
    generalize picE p = E at *
    clear hE hrg
    go_enter Tryd.func11, Tryd.ntmps11
    go_wp2_with fail
    refine hpe.mono ?_
    rintro e w1 ⟨rfl, k1⟩
    have HF2 := hideR (unhideR HF w1 (below_go (unhideR HB0) k1))
    clear HF hpe k1
    go_wp2
    (try simp only [Exit.inBlock, Exit.then])
    refine bodyPost_ret (results_tmp4 rfl _ _ _) rfl ?_
    exact unhideR HF2
  case pos =>
  have hok := pic_ok e0
  have HBad : HeldR (badRd s i0' o0' → ∀ u, Below w.heap.size w u → RoPost p s i0' o0' w (.returned (.tuple #[.int .i64 0, .int .i64 0, .int .i64 0, .int .i64 5])) u) := hideR (fun q u k => ro_none (by unfold roundE; rw [if_neg (by simpa using e0), if_pos q]) (by decide) k)
  have HFin : HeldR (¬ badRd s i0' o0' → ∀ u, Below w.heap.size w u → RoPost p s i0' o0' w (.returned (.tuple #[.int .i64 (rdL p.L s p.wide.toNat (i0' * i0') (o0' * o0') (p.high.toNat * p.wide.toNat)), .int .i64 (rdG p.L s p.wide.toNat (i0' * i0') (o0' * o0') (p.high.toNat * p.wide.toNat)), .int .i64 (inN s p.wide.toNat (i0' * i0') (p.high.toNat * p.wide.toNat) : Nat), .int .i64 0])) u) := hideR (fun q u k => by
    have e : roundE p s i0' o0' = 0 := by unfold roundE; rw [if_neg (by simpa using e0), if_neg q]
    unfold RoPost roundV
    rw [e, if_neg (by simp)]
    exact ⟨rfl, k⟩)
  rw [e0] at hpe
  have w1' := hok.w1
  have w2' := hok.w2
  have h1' := hok.h1
  have h2' := hok.h2
  have hpx := hok.len
  have HEa : HeldR (∀ k, 0 ≤ p.L.getD k 0 ∧ p.L.getD k 0 ≤ 65535) := hideR (fun k => by
    by_cases q : k < p.L.length
    · exact hok.each k q
    · rw [List.getD_eq_getElem?_getD, List.getElem?_eq_none (by omega)]; exact ⟨by decide, by decide⟩)
  clear hrg e0 hok
  go_enter Tryd.func11, Tryd.ntmps11
  go_wp2_with fail
  refine hpe.mono ?_
  rintro e w2 ⟨rfl, k2⟩
  have HB2 := hideR (below_go (unhideR HB0) k2)
  have HG2 := hideR (keepB (unhideR HG) k2)
  obtain ⟨KS, hKS⟩ : ∃ KS, w.heap.size = KS := ⟨_, rfl⟩
  rw [hKS] at HG2 ⊢
  obtain ⟨y0, y1⟩ := three_star (unhideR HG2)
  have hf1 := far_any s.x w2
  have hf2 := far_any s.y w2
  clear hpe k2 HG HB0
  go_wp2_with fail
  refine hf1.mono ?_
  rintro e w2 ⟨rfl, rfl⟩
  go_wp2_with fail
  refine hf2.mono ?_
  rintro e w2 ⟨rfl, rfl⟩
  clear hf1 hf2
  by_cases b1 : i0' < 1
  · have t1 : decide (i0' < 1) = true := decide_eq_true b1
    have HR := hideR (unhideR HBad (.inl b1) w2 (unhideR HB2))
    go_wp2
    (try simp only [Exit.inBlock, Exit.then])
    refine bodyPost_ret (results_tmp4 rfl _ _ _) rfl ?_
    exact unhideR HR
  have t1 : decide (i0' < 1) = false := decide_eq_false b1
  by_cases b2 : o0' ≤ i0'
  · have t2 : decide (o0' ≤ i0') = true := decide_eq_true b2
    have HR := hideR (unhideR HBad (.inr (.inl b2)) w2 (unhideR HB2))
    go_wp2
    (try simp only [Exit.inBlock, Exit.then])
    refine bodyPost_ret (results_tmp4 rfl _ _ _) rfl ?_
    exact unhideR HR
  have t2 : decide (o0' ≤ i0') = false := decide_eq_false b2
  by_cases b3 : 1048576 < o0'
  · have t3 : decide (1048576 < o0') = true := decide_eq_true b3
    have HR := hideR (unhideR HBad (.inr (.inr (.inl b3))) w2 (unhideR HB2))
    go_wp2
    (try simp only [Exit.inBlock, Exit.then])
    refine bodyPost_ret (results_tmp4 rfl _ _ _) rfl ?_
    exact unhideR HR
  have t3 : decide (1048576 < o0') = false := decide_eq_false b3
  cases b4 : farB s.x with
  | true =>
    have HR := hideR (unhideR HBad (.inr (.inr (.inr (.inl b4)))) w2 (unhideR HB2))
    go_wp2
    (try simp only [Exit.inBlock, Exit.then])
    refine bodyPost_ret (results_tmp4 rfl _ _ _) rfl ?_
    exact unhideR HR
  | false =>
  cases b5 : farB s.y with
  | true =>
    have HR := hideR (unhideR HBad (.inr (.inr (.inr (.inr b5)))) w2 (unhideR HB2))
    go_wp2
    (try simp only [Exit.inBlock, Exit.then])
    refine bodyPost_ret (results_tmp4 rfl _ _ _) rfl ?_
    exact unhideR HR
  | false =>
  have nb : ¬ badRd s i0' o0' := fun q => by
    rcases q with q | q | q | q | q
    · exact b1 q
    · exact b2 q
    · exact b3 q
    · rw [show farB s.x = true from q] at b4; cases b4
    · rw [show farB s.y = true from q] at b5; cases b5
  have HFn := hideR (unhideR HFin nb)
  have b6 : 1 ≤ i0' := by omega
  have b7 : i0' < o0' := by omega
  have b8 : o0' ≤ 1048576 := by omega
  clear HBad HFin nb b1 b2 b3
  obtain ⟨Wi, Hi, Lp⟩ := p
  simp only at *
  obtain ⟨W, rfl⟩ : ∃ W : Nat, Wi = (W : Nat) := ⟨Wi.toNat, by omega⟩
  obtain ⟨H, rfl⟩ : ∃ H : Nat, Hi = (H : Nat) := ⟨Hi.toNat, by omega⟩
  have hLn : Lp.length = H * W := by
    rw [← Int.natCast_mul] at hpx
    have := Int.ofNat.inj hpx
    rw [this, Nat.mul_comm]
  have sqA := sq_in (a := i0') (by omega) (by omega)
  have sqB := sq_in (a := o0') (by omega) (by omega)
  obtain ⟨A, hA⟩ : ∃ A, i0' * i0' = A := ⟨_, rfl⟩
  obtain ⟨B, hB⟩ : ∃ B, o0' * o0' = B := ⟨_, rfl⟩
  have wA : IntKind.i64.wrap (i0' * i0') = A := by rw [hA]; rw [hA] at sqA; exact iwrap (by omega) (by omega)
  have wB : IntKind.i64.wrap (o0' * o0') = B := by rw [hB]; rw [hB] at sqB; exact iwrap (by omega) (by omega)
  rw [hA, hB] at HFn
  rw [Int.toNat_natCast, Int.toNat_natCast] at HFn
  have hn0 : 0 < H * W := Nat.mul_pos (by omega) (by omega)
  obtain ⟨bl, ol, rfl, hbl, _⟩ := (unhideR HP w2 (unhideR HB2)).row.at_ 0 (by rw [hLn]; exact hn0)
  have HRow : HeldR (∀ u, Below w2.heap.size w2 u → ∀ k, k < H * W → u.cell? ⟨bl, ol + k, none⟩ = some (.int .i64 (Lp.getD k 0))) := hideR (fun u k j hj => by
    obtain ⟨b9, o9, e9, _, x9⟩ := ((unhideR HP w2 (unhideR HB2)).below k).row.at_ j (by rw [hLn]; exact hj)
    injection e9 with e9
    injection e9 with e1 e2
    subst e1
    subst e2
    exact x9)
  have HC0 : HeldR (∀ u, Below w2.heap.size w2 u → u.cell? ⟨b, o, none⟩ = some (.int .i64 (W : Nat)) ∧ u.cell? ⟨b, o + 1, none⟩ = some (.int .i64 (H : Nat)) ∧ u.cell? ⟨b, o + 2, none⟩ = some (.slice (some ⟨bl, ol, none⟩) (H * W) cap)) := hideR (fun u k => by
    have q := (unhideR HP w2 (unhideR HB2)).below k
    have q2 := q.c2
    rw [show (Pic.mk (W : Nat) (H : Nat) Lp).L.length = H * W from hLn] at q2
    exact ⟨q.c0, q.c1, q2⟩)
  have HSt : HeldR (∀ u, Below w2.heap.size w2 u → u.heap[KS]? = some (.cells #[.int .i64 s.x, .int .i64 s.y, .int .i64 s.lt] 35)) := hideR (fun u k => keepB (unhideR HG2) k)
  have HMd : HeldR (∀ u v (W9 : World), u < W → v < H → Calls Tryd.prog 31 #[.int .i64 (u : Nat), .int .i64 (v : Nat), .agg #[.int .i64 s.x, .int .i64 s.y, .int .i64 s.lt]] W9 fun e w' => e = .returned (.int .i64 (distV s (u : Nat) (v : Nat))) ∧ Below W9.heap.size W9 w') := hideR (fun u v W9 h1 h2 => middle_any s (u : Nat) (v : Nat) W9 (by omega) (by omega) (by omega) (by omega) b4 b5)
  have hnb : H * W ≤ 65536 := Nat.mul_le_mul (show H ≤ 256 by omega) (show W ≤ 256 by omega)
  obtain ⟨N, hN⟩ : ∃ N, H * W = N := ⟨_, rfl⟩
  have HN := hideR hN
  rw [hN] at HC0 HRow hn0 hnb HFn
  have hW1 : 1 ≤ W := by omega
  have hW2 : W ≤ 256 := by omega
  have hH2 : H ≤ 256 := by omega
  obtain ⟨c0, c1, c2⟩ := unhideR HC0 w2 (Below.refl _ _)
  clear hpx hLn w1' w2' h1' h2' hA hB sqA sqB hN hKS HP hbl HG2
  go_wp2
  clear c0 c1 c2
  go_loopw [15, 16, 17, 18] (fun lv iv nv yv wl => ∃ v : Nat, v ≤ H ∧ yv = .int .i64 (v : Nat) ∧ iv = .int .i64 (inL Lp s W A (v * W)) ∧ nv = .int .i64 (inN s W A (v * W) : Nat) ∧ HeldR (IOwn wl w2.heap.size lv (ringL Lp s W A B (v * W))) ∧ HeldR (Below w2.heap.size w2 wl)) (fun _ _ _ yv _ => 1000 - (intOf yv).toNat)
  case atStart => exact ⟨0, by omega, rfl, by rw [Nat.zero_mul]; rfl, by rw [Nat.zero_mul]; rfl, by rw [Nat.zero_mul]; exact inil _ _, hideR (Below.refl _ _)⟩
  case round =>
    obtain ⟨v, hv, rfl, rfl, rfl, HO, HB⟩ := hrel
    obtain ⟨c0, c1, c2⟩ := unhideR HC0 wr (unhideR HB)
    by_cases hvl : v < H
    · have tv : decide (v < H) = true := decide_eq_true hvl
      have jv : (v : Int) < (H : Int) := by omega
      have wy : IntKind.i64.wrap ((v : Int) + 1) = ((v + 1 : Nat) : Int) := by rw [show (v : Int) + 1 = ((v + 1 : Nat) : Int) by omega]; exact iwrap (by omega) (by omega)
      have HO0 := HO
      have HB0 := HB
      obtain ⟨VW, hVW⟩ : ∃ VW, v * W = VW := ⟨_, rfl⟩
      have hVN : VW + W ≤ N := by
        have := Nat.mul_le_mul_right W (show v + 1 ≤ H by omega)
        rw [Nat.add_mul, Nat.one_mul, hVW, unhideR HN] at this
        exact this
      have HVW := hideR hVW
      rw [hVW] at HO0 ⊢
      clear HO hVW
      go_wp2
      clear c0 c1 c2 HB
      go_loopw [15, 16, 17, 19] (fun lv iv nv xv wl => ∃ u : Nat, u ≤ W ∧ xv = .int .i64 (u : Nat) ∧ iv = .int .i64 (inL Lp s W A (VW + u)) ∧ nv = .int .i64 (inN s W A (VW + u) : Nat) ∧ HeldR (IOwn wl w2.heap.size lv (ringL Lp s W A B (VW + u))) ∧ HeldR (Below w2.heap.size w2 wl)) (fun _ _ _ xv _ => 1000 - (intOf xv).toNat)
      case atStart => exact ⟨0, by omega, rfl, by rw [Nat.add_zero], by rw [Nat.add_zero], HO0, HB0⟩
      case round =>
        obtain ⟨u, hu, rfl, rfl, rfl, HO, HB⟩ := hrel
        obtain ⟨c0, c1, c2⟩ := unhideR HC0 wr (unhideR HB)
        by_cases hul : u < W
        · have tu : decide (u < W) = true := decide_eq_true hul
          have ju : (u : Int) < (W : Int) := by omega
          have wx : IntKind.i64.wrap ((u : Int) + 1) = ((u + 1 : Nat) : Int) := by rw [show (u : Int) + 1 = ((u + 1 : Nat) : Int) by omega]; exact iwrap (by omega) (by omega)
          obtain ⟨ix, hix⟩ : ∃ ix, VW + u = ix := ⟨_, rfl⟩
          have hixN : ix < N := by omega
          have HIX := hideR hix
          have hpd : pxD s W ix = distV s (u : Nat) (v : Nat) := by
            have hd := row_div (W := W) (y := v) (x := u) hul
            rw [unhideR HVW, hix] at hd
            unfold pxD
            rw [hd.1, hd.2]
          obtain ⟨r, hr⟩ : ∃ r, distV s (u : Nat) (v : Nat) = r := ⟨_, rfl⟩
          have hmd := unhideR HMd u v wr hul hvl
          rw [hr] at hpd hmd
          obtain ⟨c, hc⟩ : ∃ c, Lp.getD ix 0 = c := ⟨_, rfl⟩
          have hcb := unhideR HEa ix
          rw [hc] at hcb
          have n1 : inL Lp s W A (VW + (u + 1)) = inL Lp s W A ix + if r ≤ A then c else 0 := by
            rw [show VW + (u + 1) = ix + 1 by omega]
            show inL Lp s W A ix + _ = _
            rw [hpd, hc]
          have n2 : inN s W A (VW + (u + 1)) = inN s W A ix + if r ≤ A then 1 else 0 := by
            rw [show VW + (u + 1) = ix + 1 by omega]
            show inN s W A ix + _ = _
            rw [hpd]
          have n3 : ringL Lp s W A B (VW + (u + 1)) = ringL Lp s W A B ix ++ if ¬ r ≤ A ∧ r ≤ B then [c] else [] := by
            rw [show VW + (u + 1) = ix + 1 by omega]
            show ringL Lp s W A B ix ++ _ = _
            rw [hpd, hc]
          have hlr := inL_range (unhideR HEa) s W A ix
          have hnr := inN_le s W A ix
          have hrl := ring_len Lp s W A B ix
          have N1 := hideR n1
          have N2 := hideR n2
          have N3 := hideR n3
          rw [hix] at HO ⊢
          obtain ⟨lt, hlt⟩ : ∃ lt, inL Lp s W A ix = lt := ⟨_, rfl⟩
          obtain ⟨nn, hnn⟩ : ∃ nn, inN s W A ix = nn := ⟨_, rfl⟩
          rw [hlt] at hlr N1 ⊢
          rw [hnn] at hnr N2 ⊢
          generalize ringL Lp s W A B ix = G at *
          obtain ⟨al, cl, rfl⟩ := (unhideR HO).slice
          obtain ⟨nl, hnl⟩ : ∃ nl, G.length = nl := ⟨_, rfl⟩
          have HNl := hideR hnl
          rw [hnl] at HO hrl ⊢
          obtain ⟨s0, s1, s2⟩ := pic_three (unhideR HSt wr (unhideR HB))
          have HCe := hideR hc
          clear hix hpd hr hc n1 n2 n3 hlt hnn hnl
          go_wp2_with fail
          refine hmd.mono ?_
          rintro e w3 ⟨rfl, k3⟩
          replace HO := hideR ((unhideR HO).below k3)
          replace HB := hideR (below_go (unhideR HB) k3)
          clear hmd k3 s0 s1 s2 c0 c1 c2
          obtain ⟨c0, c1, c2⟩ := unhideR HC0 w3 (unhideR HB)
          have HC : HeldR (∀ u, Below w3.heap.size w3 u → u.cell? ⟨b, o, none⟩ = some (.int .i64 (W : Nat)) ∧ u.cell? ⟨b, o + 1, none⟩ = some (.int .i64 (H : Nat)) ∧ u.cell? ⟨b, o + 2, none⟩ = some (.slice (some ⟨bl, ol, none⟩) N cap)) := hideR (fun u k => unhideR HC0 u (below_go (unhideR HB) k))
          have xc := unhideR HRow w3 (unhideR HB) ix hixN
          have wvw : IntKind.i64.wrap ((v : Int) * (W : Int)) = (VW : Int) := by rw [← Int.natCast_mul, unhideR HVW]; exact iwrap (by omega) (by omega)
          have wix : IntKind.i64.wrap ((VW : Int) + (u : Int)) = (ix : Int) := by have := unhideR HIX; rw [show (VW : Int) + (u : Int) = (ix : Int) by omega]; exact iwrap (by omega) (by omega)
          have jx : (ix : Int) < (N : Int) := by omega
          rw [unhideR HCe] at xc
          have wl : IntKind.i64.wrap (lt + c) = lt + c := iwrap (by omega) (by omega)
          have wn : IntKind.i64.wrap ((nn : Int) + 1) = ((nn + 1 : Nat) : Int) := by rw [show (nn : Int) + 1 = ((nn + 1 : Nat) : Int) by omega]; exact iwrap (by omega) (by omega)
          by_cases a1 : r ≤ A
          · have ta : decide (r ≤ A) = true := decide_eq_true a1
            have N1' := hideR (unhideR N1)
            have N2' := hideR (unhideR N2)
            have N3' := hideR (unhideR N3)
            rw [if_pos a1] at N1' N2'
            rw [if_neg (show ¬ (A < r ∧ r ≤ B) by omega), List.append_nil] at N3'
            clear N1 N2 N3 a1
            go_wp2
            go_quiet (fail)
            have kd := drawn_below w3 nq
            have HO3 := hideR ((unhideR HO).below kd)
            have HB3 := hideR (below_go (unhideR HB) kd)
            clear kd HO HB xc c0 c1 c2 HC
            generalize w3.drewN nq = w4 at *
            go_wp2
            exact ⟨⟨u + 1, by omega, rfl, by rw [unhideR N1'], by rw [unhideR N2', Int.natCast_add]; rfl, by rw [unhideR N3']; exact HO3, HB3⟩, by simp [intOf]; omega⟩
          have ta : decide (r ≤ A) = false := decide_eq_false a1
          by_cases a2 : r ≤ B
          · have tb : decide (r ≤ B) = true := decide_eq_true a2
            have N1' := hideR (unhideR N1)
            have N2' := hideR (unhideR N2)
            have N3' := hideR (unhideR N3)
            rw [if_neg a1] at N1' N2'
            rw [if_pos (show A < r ∧ r ≤ B by omega)] at N3'
            clear N1 N2 N3 a1 a2
            go_wp2_with fail
            refine wp_region_made 1 #[true, true, true, true, true, true, true, true, true, true, true, true, true, true, true, true, false, false] [.lets (· = .slice al nl cl),
              .lets (· = .pointer (some ⟨b, o, none⟩)),
              .lets (· = .pointer (some ⟨b, o, none⟩)),
              .lets (· = .pointer (some ⟨b, o + 2, none⟩)),
              .lets (· = .slice (some ⟨bl, ol, none⟩) N cap),
              .lets (· = .int .i64 (v : Nat)),
              .lets (· = .pointer (some ⟨b, o, none⟩)),
              .lets (· = .pointer (some ⟨b, o, none⟩)),
              .lets (· = .pointer (some ⟨b, o, none⟩)),
              .lets (· = .int .i64 (W : Nat)),
              .lets (· = .int .i64 (VW : Nat)),
              .lets (· = .int .i64 (u : Nat)),
              .lets (· = .int .i64 (ix : Nat)),
              .lets (· = .pointer (some ⟨bl, ol + ix, none⟩)),
              .lets (· = .int .i64 c),
              .made SlOne (OneI c)] [15] [] (by kernel_rfl) (by kernel_rfl) rfl ?kinds (by kernel_rfl) (by kernel_rfl) (by kernel_rfl) ?_
            case kinds =>
              constructor
              · intro i h
                rcases i with _ | _ | _ | _ | _ | _ | _ | _ | _ | _ | _ | _ | _ | _ | _ | _ | i <;> simp [Kx.isMade] at h ⊢
              · intro i h
                rcases i with _ | _ | _ | _ | _ | _ | _ | _ | _ | _ | _ | _ | _ | _ | _ | _ | i <;> simp [Kx.isUse] at h
            refine lexX_step (fun K hK => ⟨by kernel_rfl, ⟨_, rfl⟩, fun v hv => ?_, fun v hv => ?_⟩)
            · go_simp
              exact mUpon_b
            subst hv
            go_simp
            refine hK _ ?_
            clear hK K
            refine lexX_step (fun K hK => ⟨by kernel_rfl, ⟨_, rfl⟩, fun v hv => ?_, fun v hv => ?_⟩)
            · go_simp
              exact mUpon_b
            subst hv
            go_simp
            refine hK _ ?_
            clear hK K
            refine lexX_step (fun K hK => ⟨by kernel_rfl, ⟨_, rfl⟩, fun v hv => ?_, fun v hv => ?_⟩)
            · go_simp
              exact mUpon_b
            subst hv
            go_simp
            refine hK _ ?_
            clear hK K
            refine lexX_step (fun K hK => ⟨by kernel_rfl, ⟨_, rfl⟩, fun v hv => ?_, fun v hv => ?_⟩)
            · go_simp
              exact mUpon_b
            subst hv
            go_simp
            refine hK _ ?_
            clear hK K
            refine lexX_step (fun K hK => ⟨by kernel_rfl, ⟨_, rfl⟩, fun v hv => ?_, fun v hv => ?_⟩)
            · obtain ⟨q0, q1, q2⟩ := unhideR HC v hv
              go_simp
              exact mUpon_b
            subst hv
            go_simp
            refine hK _ ?_
            clear hK K
            refine lexX_step (fun K hK => ⟨by kernel_rfl, ⟨_, rfl⟩, fun v hv => ?_, fun v hv => ?_⟩)
            · go_simp
              exact mUpon_b
            subst hv
            go_simp
            refine hK _ ?_
            clear hK K
            refine lexX_step (fun K hK => ⟨by kernel_rfl, ⟨_, rfl⟩, fun v hv => ?_, fun v hv => ?_⟩)
            · go_simp
              exact mUpon_b
            subst hv
            go_simp
            refine hK _ ?_
            clear hK K
            refine lexX_step (fun K hK => ⟨by kernel_rfl, ⟨_, rfl⟩, fun v hv => ?_, fun v hv => ?_⟩)
            · go_simp
              exact mUpon_b
            subst hv
            go_simp
            refine hK _ ?_
            clear hK K
            refine lexX_step (fun K hK => ⟨by kernel_rfl, ⟨_, rfl⟩, fun v hv => ?_, fun v hv => ?_⟩)
            · go_simp
              exact mUpon_b
            subst hv
            go_simp
            refine hK _ ?_
            clear hK K
            refine lexX_step (fun K hK => ⟨by kernel_rfl, ⟨_, rfl⟩, fun v hv => ?_, fun v hv => ?_⟩)
            · obtain ⟨q0, q1, q2⟩ := unhideR HC v hv
              go_simp
              exact mUpon_b
            subst hv
            go_simp
            refine hK _ ?_
            clear hK K
            refine lexX_step (fun K hK => ⟨by kernel_rfl, ⟨_, rfl⟩, fun v hv => ?_, fun v hv => ?_⟩)
            · go_simp
              exact mUpon_b
            subst hv
            go_simp
            refine hK _ ?_
            clear hK K
            refine lexX_step (fun K hK => ⟨by kernel_rfl, ⟨_, rfl⟩, fun v hv => ?_, fun v hv => ?_⟩)
            · go_simp
              exact mUpon_b
            subst hv
            go_simp
            refine hK _ ?_
            clear hK K
            refine lexX_step (fun K hK => ⟨by kernel_rfl, ⟨_, rfl⟩, fun v hv => ?_, fun v hv => ?_⟩)
            · go_simp
              exact mUpon_b
            subst hv
            go_simp
            refine hK _ ?_
            clear hK K
            refine lexX_step (fun K hK => ⟨by kernel_rfl, ⟨_, rfl⟩, fun v hv => ?_, fun v hv => ?_⟩)
            · go_simp
              exact mUpon_b
            subst hv
            go_simp
            refine hK _ ?_
            clear hK K
            refine lexX_step (fun K hK => ⟨by kernel_rfl, ⟨_, rfl⟩, fun v hv => ?_, fun v hv => ?_⟩)
            · have cc := (hv.cell (p := ⟨bl, ol + ix, none⟩) (lt_of_cell xc)).trans xc
              go_simp
              exact mUpon_b
            subst hv
            go_simp
            refine hK _ ?_
            clear hK K
            refine lexX_made ⟨by kernel_rfl, ⟨_, 0, rfl⟩, oneI_stb _, fun v hv => ?_, ?_⟩
            · go_simp
              exact ⟨below_a v _, ⟨_, rfl⟩, fun q hq => by cases hq; exact alloc_last v _⟩
            rintro _ ⟨u9, rfl⟩ K hK
            go_simp
            refine hK _ ?_
            clear hK K
            refine lexX_end (fun v5 hv => ?_)
            have HO9 := hideR (hv.fact.2 _ rfl)
            have HK5 := hideR hv.low
            clear hv
            have hO5 : v5.ownsRow w2.heap.size 3 1 (.slice al nl cl) nl (G.map (Value.int .i64)) := by
              have := (unhideR HO).below (unhideR HK5)
              unfold IOwn at this
              rw [unhideR HNl] at this
              exact this
            have hB5 : w2.heap.size ≤ v5.heap.size := Nat.le_trans (unhideR HB).size (unhideR HK5).size
            refine wpAny_step (i := 16) (by kernel_rfl) rfl (by kernel_rfl) (fun K hK => ?_)
            refine wp_append_own _ _ _ 26 rfl w2.heap.size 3 i0 (.int .i64 0) 1 8 Tryd.underlying26 hi0 hz0 hz1 hz2 rfl (by decide) _ nl _ rfl hO5 ⟨u9, 0, none⟩ 1 1 [.int .i64 c] rfl rfl ?q1 ?q2 ?q3 ?q4 ?q5 ?_
            case q1 => exact one_cell (unhideR HO9)
            case q2 => exact int_one
            case q3 => unfold maxLen; omega
            case q4 => omega
            case q5 => exact hB5
            intro v6 w6 hown hgrow _
            have O6 := hideR (own_plus (unhideR HNl) hown)
            have HB6 := hideR ((below_goB2 (unhideR HB) (unhideR HB).size (unhideR HK5)).grown hgrow hB5 (fun q hq => own_at2 hO5 q hq))
            clear hown hgrow hO5
            go_simp
            refine hK _ _ ?_
            clear hK K
            refine wpAny_step (i := 17) (by kernel_rfl) rfl (by kernel_rfl) (fun K hK => ?_)
            unfold Oper.wp
            go_simp
            refine hK _ _ ?_
            clear hK K
            refine wpAny_end (by kernel_rfl) ?_
            clear HO HB xc c0 c1 c2 HC HO9 HK5
            go_wp2
            exact ⟨⟨u + 1, by omega, rfl, by rw [unhideR N1', Int.add_zero], by rw [unhideR N2', Nat.add_zero], by rw [unhideR N3']; exact O6, HB6⟩, by simp [intOf]; omega⟩
          · have tb : decide (r ≤ B) = false := decide_eq_false a2
            have N1' := hideR (unhideR N1)
            have N2' := hideR (unhideR N2)
            have N3' := hideR (unhideR N3)
            rw [if_neg a1] at N1' N2'
            rw [if_neg (show ¬ (A < r ∧ r ≤ B) by omega), List.append_nil] at N3'
            clear N1 N2 N3 a1 a2 xc c0 c1 c2 HC
            go_wp2
            exact ⟨⟨u + 1, by omega, rfl, by rw [unhideR N1', Int.add_zero], by rw [unhideR N2', Nat.add_zero], by rw [unhideR N3']; exact HO, HB⟩, by simp [intOf]; omega⟩
        · obtain rfl : u = W := by omega
          have tu : decide (u < u) = false := decide_eq_false hul
          have hVe : (v + 1) * u = VW + u := by rw [Nat.add_mul, Nat.one_mul, unhideR HVW]
          have HVe := hideR hVe
          obtain ⟨lt, hlt⟩ : ∃ lt, inL Lp s u A (VW + u) = lt := ⟨_, rfl⟩
          obtain ⟨nn, hnn⟩ : ∃ nn, inN s u A (VW + u) = nn := ⟨_, rfl⟩
          have HLt := hideR hlt
          have HNn := hideR hnn
          rw [hlt, hnn]
          clear hVe hlt hnn
          go_wp2
          exact ⟨⟨v + 1, by omega, rfl, by rw [unhideR HVe, unhideR HLt], by rw [unhideR HVe, unhideR HNn], by rw [unhideR HVe]; exact HO, HB⟩, by simp [intOf]; omega⟩
    · obtain rfl : v = H := by omega
      have tv : decide (v < v) = false := decide_eq_false hvl
      rw [unhideR HN] at HO ⊢
      have hlr := inL_range (unhideR HEa) s W A N
      have hnr := inN_le s W A N
      have hrl := ring_len Lp s W A B N
      have hgr := rdG_range (unhideR HEa) s W A B N
      have HF : HeldR (∀ u, Below w2.heap.size w2 u → RoPost ⟨(W : Nat), (v : Nat), Lp⟩ s i0' o0' w (.returned (.tuple #[.int .i64 (inL Lp s W A N - (inN s W A N : Int) * rdG Lp s W A B N), .int .i64 (rdG Lp s W A B N), .int .i64 (inN s W A N : Nat), .int .i64 0])) u) := hideR (fun u k => unhideR HFn u (below_go (unhideR HB2) k))
      have hgd : rdG Lp s W A B N = if ringL Lp s W A B N = [] then 0 else medV (ringL Lp s W A B N) := rfl
      have hpr : 0 ≤ (inN s W A N : Int) * rdG Lp s W A B N ∧ (inN s W A N : Int) * rdG Lp s W A B N ≤ 65536 * 65535 := ⟨Int.mul_nonneg (by omega) hgr.1, Int.mul_le_mul (by omega) hgr.2 hgr.1 (by omega)⟩
      obtain ⟨lt, hlt⟩ : ∃ lt, inL Lp s W A N = lt := ⟨_, rfl⟩
      obtain ⟨nn, hnn⟩ : ∃ nn, inN s W A N = nn := ⟨_, rfl⟩
      obtain ⟨g, hg⟩ : ∃ g, rdG Lp s W A B N = g := ⟨_, rfl⟩
      rw [hlt, hnn, hg] at HF
      rw [hg, hnn] at hpr
      rw [hg] at hgd
      rw [hlt] at hlr ⊢
      rw [hnn] at hnr ⊢
      generalize ringL Lp s W A B N = G at *
      clear HFn hlt hnn hg hgr
      by_cases hG : G = []
      · subst hG
        obtain rfl : g = 0 := by rw [hgd, if_pos rfl]
        rw [Int.mul_zero, Int.sub_zero] at HF
        obtain ⟨al, cl, rfl⟩ := (unhideR HO).slice
        have HF2 := hideR (unhideR HF wr (unhideR HB))
        have ws : IntKind.i64.wrap lt = lt := iwrap (by omega) (by omega)
        clear HO hgd hpr HF
        go_wp2
        (try simp only [Exit.inBlock, Exit.then])
        refine bodyPost_ret (results_tmp4 rfl _ _ _) rfl ?_
        exact unhideR HF2
      · rw [if_neg hG] at hgd
        obtain ⟨al, cl, rfl, hcm⟩ := (unhideR HO).came
        have h0 : 0 < G.length := List.length_pos_iff.2 hG
        have hmd := medianOf_any (cap := cl) hcm h0 (by omega)
        rw [← hgd] at hmd
        have tg : decide ((0 : Int) < (G.length : Int)) = true := decide_eq_true (by omega)
        have tgn : decide (0 < G.length) = true := decide_eq_true h0
        obtain ⟨mg, hmg⟩ : ∃ mg, (nn : Int) * g = mg := ⟨_, rfl⟩
        have wm : IntKind.i64.wrap ((nn : Int) * g) = mg := by rw [hmg]; rw [hmg] at hpr; exact iwrap (by omega) (by omega)
        rw [hmg] at hpr HF
        have ws : IntKind.i64.wrap (lt - mg) = lt - mg := iwrap (by omega) (by omega)
        generalize G.length = gl at *
        clear HO hcm hgd hmg hG
        go_wp2_with fail
        refine hmd.mono ?_
        rintro e w5 ⟨rfl, k5⟩
        have HF2 := hideR (unhideR HF w5 (below_go (unhideR HB) k5))
        clear hmd k5 HF
        go_wp2
        (try simp only [Exit.inBlock, Exit.then])
        refine bodyPost_ret (results_tmp4 rfl _ _ _) rfl ?_
        exact unhideR HF2
end Go.Proofs.YtmgnobeaacjdjajDoor
