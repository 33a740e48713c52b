/-
  How two pictures go together: the program's, by contract.
-/
import Derived.Test.YtngdemhhcablmalDoorShM1
import Derived.Test.YtngdemhhcablmalDoorFrA
namespace Go.Proofs.YtngdemhhcablmalDoor
open Go Go.RowKit

theorem max2S (P : Program) (x y : Int) : ∃ M : Int, (∀ n : Int, M < n ↔ x < n ∧ y < n) ∧ ∀ (ts : Array TypeId) (t : TypeId) (u : World), (Builtin.max_ ts t #[.int .i64 x, .int .i64 y]).run P u = .ok (.int .i64 M) u := by
  refine ⟨_, ?_, fun ts t u => run_max_int2 u ts t _ _ x y⟩
  intro n
  split <;> omega
theorem min2S (P : Program) (x y : Int) : ∃ M : Int, (∀ n : Int, n < M ↔ n < x ∧ n < y) ∧ ∀ (ts : Array TypeId) (t : TypeId) (u : World), (Builtin.min_ ts t #[.int .i64 x, .int .i64 y]).run P u = .ok (.int .i64 M) u := by
  refine ⟨_, ?_, fun ts t u => run_min_int2 u ts t _ _ x y⟩
  intro n
  split <;> omega
def TpPost (p q : Pic) (W H V U : Nat) (dx dy : Int) (w : World) (e : Ending) (w' : World) : Prop := e = .returned (.int .i64 (tgV p.L q.L W H V U dx dy)) ∧ Below w.heap.size w w'
theorem below_2 (w : World) (o1 o2 : Obj) : Below w.heap.size w ((w.alloc o1).alloc o2) := ((Below.refl w.heap.size w).alloc (Nat.le_refl _) o1).alloc (by simp) o2
set_option maxRecDepth 100000 in
set_option maxHeartbeats 3200000 in
theorem together_any {w : World} {W H V U : Nat} {va vb : Value} {p q : Pic} (hp : PicC w va p) (hq : PicC w vb q) (hP : PicN p W H) (hQ : PicN q V U) (dx dy : Int) (x1 : -16 ≤ dx) (x2 : dx ≤ 16) (y1 : -16 ≤ dy) (y2 : dy ≤ 16) :
    Calls Tryd.prog 13 #[va, vb, .int .i64 dx, .int .i64 dy] w (TpPost p q W H V U dx dy w) := by
  obtain ⟨a1, c1, rfl, pr0, _⟩ := hp
  obtain ⟨a2, c2, rfl, qr0, _⟩ := hq
  have hb := below_2 w (.cells #[.int .i64 p.wide, .int .i64 p.high, .slice a1 p.L.length c1] 25) (.cells #[.int .i64 q.wide, .int .i64 q.high, .slice a2 q.L.length c2] 25)
  have HPr := hideR (pr0.below hb)
  have HQr := hideR (qr0.below hb)
  have HP := hideR hP
  have HQ := hideR hQ
  have hg0 := keepA (o' := .cells #[.int .i64 q.wide, .int .i64 q.high, .slice a2 q.L.length c2] 25) (alloc_last w (.cells #[.int .i64 p.wide, .int .i64 p.high, .slice a1 p.L.length c1] 25))
  have hg1 : ((w.alloc (.cells #[.int .i64 p.wide, .int .i64 p.high, .slice a1 p.L.length c1] 25)).alloc (.cells #[.int .i64 q.wide, .int .i64 q.high, .slice a2 q.L.length c2] 25)).heap[w.heap.size + 1]? = some (.cells #[.int .i64 q.wide, .int .i64 q.high, .slice a2 q.L.length c2] 25) := by
    have := alloc_last (w.alloc (.cells #[.int .i64 p.wide, .int .i64 p.high, .slice a1 p.L.length c1] 25)) (.cells #[.int .i64 q.wide, .int .i64 q.high, .slice a2 q.L.length c2] 25)
    simpa using this
  obtain ⟨p0, p1, p2⟩ := pic_three hg0
  obtain ⟨q0, q1, q2⟩ := pic_three hg1
  have HE : HeldR (∀ n, TpPost p q W H V U dx dy w (.returned (.int .i64 (tgV p.L q.L W H V U dx dy))) (((w.alloc (.cells #[.int .i64 p.wide, .int .i64 p.high, .slice a1 p.L.length c1] 25)).alloc (.cells #[.int .i64 q.wide, .int .i64 q.high, .slice a2 q.L.length c2] 25)).drewN n)) := hideR (fun n => ⟨rfl, ⟨hb.os, hb.tape, hb.output, hb.size, hb.block⟩⟩)
  clear pr0 qr0 hb hg0 hg1
  obtain ⟨eW, eH, w1, w2, h1, h2, hpl, _⟩ := hP
  obtain ⟨eV, eU, v1, v2, u1, u2, hql, _⟩ := hQ
  have HL1 := hideR hpl
  have HL2 := hideR hql
  rw [eW, eH, hpl, eV, eU, hql] at HPr HQr p0 p1 p2 q0 q1 q2 HE ⊢
  obtain ⟨N1, hN1⟩ : ∃ N, W * H = N := ⟨_, rfl⟩
  obtain ⟨N2, hN2⟩ : ∃ N, V * U = N := ⟨_, rfl⟩
  rw [hN1, hN2] at HPr HQr p0 p1 p2 q0 q1 q2 HE ⊢
  have HN1 := hideR hN1
  have HN2 := hideR hN2
  clear hpl hql hN1 hN2 eW eH eV eU
  obtain ⟨y0', hy0, hmxy⟩ := max2S Tryd.prog 0 (-dy)
  obtain ⟨yE, hyE, hmny⟩ := min2S Tryd.prog (H : Int) ((U : Int) - dy)
  obtain ⟨x0', hx0, hmxx⟩ := max2S Tryd.prog 0 (-dx)
  obtain ⟨xE, hxE, hmnx⟩ := min2S Tryd.prog (W : Int) ((V : Int) - dx)
  have ey0 : 0 ≤ y0' := by have := (hy0 (y0' + 1)).1 (by omega); omega
  have ex0 : 0 ≤ x0' := by have := (hx0 (x0' + 1)).1 (by omega); omega
  obtain ⟨y0, rfl⟩ : ∃ z : Nat, y0' = (z : Nat) := ⟨y0'.toNat, by omega⟩
  obtain ⟨x0, rfl⟩ : ∃ z : Nat, x0' = (z : Nat) := ⟨x0'.toNat, by omega⟩
  have by0 : ((y0 : Int) ≤ 0 ∨ (y0 : Int) ≤ -dy) ∧ y0 ≤ 16 ∧ 0 ≤ (y0 : Int) + dy := by
    have h1 := hy0 (y0 : Int)
    have h2 := (hy0 ((y0 : Int) + 1)).1 (by omega)
    have h3 := hy0 17
    omega
  have bx0 : ((x0 : Int) ≤ 0 ∨ (x0 : Int) ≤ -dx) ∧ x0 ≤ 16 ∧ 0 ≤ (x0 : Int) + dx := by
    have h1 := hx0 (x0 : Int)
    have h2 := (hx0 ((x0 : Int) + 1)).1 (by omega)
    have h3 := hx0 17
    omega
  have byE : yE ≤ (H : Int) ∧ yE ≤ (U : Int) - dy ∧ ((H : Int) ≤ yE ∨ (U : Int) - dy ≤ yE) := by
    have h1 := hyE yE
    have h2 := (hyE (yE - 1)).1 (by omega)
    omega
  have bxE : xE ≤ (W : Int) ∧ xE ≤ (V : Int) - dx ∧ ((W : Int) ≤ xE ∨ (V : Int) - dx ≤ xE) := by
    have h1 := hxE xE
    have h2 := (hxE (xE - 1)).1 (by omega)
    omega
  clear hy0 hyE hx0 hxE ey0 ex0
  have Hy0 := hideR by0
  have Hx0 := hideR bx0
  have HyE := hideR byE
  have HxE := hideR bxE
  have wny : IntKind.i64.wrap (-dy) = -dy := iwrap (by omega) (by omega)
  have wnx : IntKind.i64.wrap (-dx) = -dx := iwrap (by omega) (by omega)
  have wuy : IntKind.i64.wrap ((U : Int) - dy) = (U : Int) - dy := iwrap (by omega) (by omega)
  have wvx : IntKind.i64.wrap ((V : Int) - dx) = (V : Int) - dx := iwrap (by omega) (by omega)
  clear by0 bx0 byE bxE
  go_enter Tryd.func13, Tryd.ntmps13
  go_upto_region 1 with fail
  obtain ⟨K, hK⟩ : ∃ K, w.heap.size = K := ⟨_, rfl⟩
  rw [hK] at p0 p1 p2 q0 q1 q2 ⊢
  generalize (w.alloc (.cells #[.int .i64 (W : Nat), .int .i64 (H : Nat), .slice a1 N1 c1] 25)).alloc (.cells #[.int .i64 (V : Nat), .int .i64 (U : Nat), .slice a2 N2 c2] 25) = W1 at *
  clear hK
  go_wp2
  go_loopw [9, 10] (fun sv iv wl => ∃ (y m : Nat), y0 ≤ y ∧ y ≤ 300 ∧ iv = .int .i64 (y : Nat) ∧ sv = .int .i64 (tgC p.L q.L W H V U dx dy y) ∧ wl = W1.drewN m) (fun _ iv _ => 400 - (intOf iv).toNat)
  case atStart => exact ⟨y0, 0, by omega, by have := (unhideR Hy0).2.1; omega, rfl, by rw [tgC_first (unhideR Hy0).1], rfl⟩
  case round =>
    obtain ⟨y, m, hy0, hy, rfl, rfl, rfl⟩ := hrel
    by_cases hly : (y : Int) < yE
    · have ty : decide ((y : Int) < yE) = true := decide_eq_true hly
      have hyH : y < H := by have := (unhideR HyE).1; omega
      have wy : IntKind.i64.wrap ((y : Int) + 1) = ((y + 1 : Nat) : Int) := by rw [show (y : Int) + 1 = ((y + 1 : Nat) : Int) by omega]; exact iwrap (by omega) (by omega)
      go_wp2
      go_loopw [9, 11] (fun sv iv wl => ∃ (x m : Nat), x0 ≤ x ∧ x ≤ 300 ∧ iv = .int .i64 (x : Nat) ∧ sv = .int .i64 (tgC p.L q.L W H V U dx dy y + tgR p.L q.L W H V U dx dy y x) ∧ wl = W1.drewN m) (fun _ iv _ => 400 - (intOf iv).toNat)
      case atStart => exact ⟨x0, m, by omega, by have := (unhideR Hx0).2.1; omega, rfl, by rw [tgR_first (unhideR Hx0).1, Int.add_zero], rfl⟩
      case round =>
        clear m
        obtain ⟨x, m, hx0, hx, rfl, rfl, rfl⟩ := hrel
        by_cases hlx : (x : Int) < xE
        · have tx : decide ((x : Int) < xE) = true := decide_eq_true hlx
          have hxW : x < W := by have := (unhideR HxE).1; omega
          have wx : IntKind.i64.wrap ((x : Int) + 1) = ((x + 1 : Nat) : Int) := by rw [show (x : Int) + 1 = ((x + 1 : Nat) : Int) by omega]; exact iwrap (by omega) (by omega)
          obtain ⟨uu, hu⟩ : ∃ u : Nat, (x : Int) + dx = (u : Nat) := ⟨((x : Int) + dx).toNat, by have := (unhideR Hx0).2.2; omega⟩
          obtain ⟨vv, hv⟩ : ∃ v : Nat, (y : Int) + dy = (v : Nat) := ⟨((y : Int) + dy).toNat, by have := (unhideR Hy0).2.2; omega⟩
          have huV : uu < V := by have := (unhideR HxE).2.1; omega
          have hvU : vv < U := by have := (unhideR HyE).2.1; omega
          have wv : IntKind.i64.wrap ((y : Int) + dy) = (vv : Nat) := by rw [hv]; exact iwrap (by omega) (by omega)
          have hi1 := idx_lt hxW hyH
          have hi2 := idx_lt huV hvU
          obtain ⟨k1, hk1⟩ : ∃ k, y * W + x = k := ⟨_, rfl⟩
          obtain ⟨k2, hk2⟩ : ∃ k, vv * V + uu = k := ⟨_, rfl⟩
          have HIn : HeldR (tgR p.L q.L W H V U dx dy y (x + 1) = tgR p.L q.L W H V U dx dy y x + p.L.getD k1 0 * q.L.getD k2 0) := hideR (by
            show _ + tgT p.L q.L W H V U dx dy y x = _
            unfold tgT
            rw [if_pos (by omega), hu, hv, Int.toNat_natCast, Int.toNat_natCast, hk1, hk2])
          rw [unhideR HN1, hk1] at hi1
          rw [unhideR HN2, hk2] at hi2
          obtain ⟨b3, o3, rfl, _, r1⟩ := (unhideR HPr).at_ k1 (by rw [unhideR HL1, unhideR HN1]; exact hi1)
          obtain ⟨b4, o4, rfl, _, r2⟩ := (unhideR HQr).at_ k2 (by rw [unhideR HL2, unhideR HN2]; exact hi2)
          have ji1 : (k1 : Int) < (N1 : Int) := by omega
          have ji2 : (k2 : Int) < (N2 : Int) := by omega
          have hbw : y * W ≤ 256 * 256 := Nat.mul_le_mul (by omega) (by omega)
          have hbv : vv * V ≤ 256 * 256 := Nat.mul_le_mul (by omega) (by omega)
          obtain ⟨m1, hm1⟩ : ∃ k, y * W = k := ⟨_, rfl⟩
          obtain ⟨m2, hm2⟩ : ∃ k, vv * V = k := ⟨_, rfl⟩
          rw [hm1] at hk1 hbw
          rw [hm2] at hk2 hbv
          have wm1 : IntKind.i64.wrap ((y : Int) * (W : Int)) = (m1 : Nat) := by rw [← hm1, show ((y : Int) * (W : Int)) = ((y * W : Nat) : Int) from (Int.natCast_mul y W).symm, hm1]; exact iwrap (by omega) (by omega)
          have wm2 : IntKind.i64.wrap ((vv : Int) * (V : Int)) = (m2 : Nat) := by rw [← hm2, show ((vv : Int) * (V : Int)) = ((vv * V : Nat) : Int) from (Int.natCast_mul vv V).symm, hm2]; exact iwrap (by omega) (by omega)
          have wk1 : IntKind.i64.wrap ((m1 : Int) + (x : Int)) = (k1 : Nat) := by rw [show (m1 : Int) + (x : Int) = (k1 : Nat) by omega]; exact iwrap (by omega) (by omega)
          obtain ⟨m3, hm3⟩ : ∃ k, m2 + x = k := ⟨_, rfl⟩
          have wk3 : IntKind.i64.wrap ((m2 : Int) + (x : Int)) = (m3 : Nat) := by rw [show (m2 : Int) + (x : Int) = (m3 : Nat) by omega]; exact iwrap (by omega) (by omega)
          have wk2 : IntKind.i64.wrap ((m3 : Int) + dx) = (k2 : Nat) := by rw [show (m3 : Int) + dx = (k2 : Nat) by omega]; exact iwrap (by omega) (by omega)
          have hc := tgC_range (W := W) (H := H) (V := V) (U := U) (dx := dx) (dy := dy) (unhideR HP).each (unhideR HQ).each w2 y
          have hr := tgR_range (W := W) (H := H) (V := V) (U := U) (dx := dx) (dy := dy) (unhideR HP).each (unhideR HQ).each y x
          have hmul := mul_16 ((unhideR HP).each k1) ((unhideR HQ).each k2)
          generalize p.L.getD k1 0 = x3 at *
          generalize q.L.getD k2 0 = x4 at *
          generalize tgC p.L q.L W H V U dx dy y = cs at *
          obtain ⟨rs, hrs⟩ : ∃ r, tgR p.L q.L W H V U dx dy y x = r := ⟨_, rfl⟩
          rw [hrs] at hr HIn ⊢
          obtain ⟨pr, hpr⟩ : ∃ r, x3 * x4 = r := ⟨_, rfl⟩
          rw [hpr] at hmul HIn
          have wp : IntKind.i64.wrap (x3 * x4) = pr := by rw [hpr]; exact iwrap (by omega) (by omega)
          have ws : IntKind.i64.wrap (cs + rs + pr) = cs + rs + pr := iwrap (by omega) (by omega)
          have HNx : HeldR (cs + rs + pr = cs + tgR p.L q.L W H V U dx dy y (x + 1)) := hideR (by rw [unhideR HIn, Int.add_assoc])
          clear hu hv hm1 hm2 hm3 hk1 hk2 hi1 hi2 hc hr hmul hrs hpr HIn hbw hbv
          generalize cs + rs = s0 at *
          go_wp2
          go_region
          go_wp2
          exact ⟨⟨x + 1, _, by omega, by omega, by first | rfl | go_num, by rw [← unhideR HNx], rfl⟩, by simp [intOf]; omega⟩
        · have tx : decide ((x : Int) < xE) = false := decide_eq_false hlx
          have HNx : HeldR (tgC p.L q.L W H V U dx dy y + tgR p.L q.L W H V U dx dy y x = tgC p.L q.L W H V U dx dy (y + 1)) := hideR (by
            rw [tgR_last (by have := (unhideR HxE).2.2; omega)]
            rfl)
          go_wp2
          exact ⟨⟨y + 1, m, by omega, by omega, by first | rfl | go_num, by rw [unhideR HNx], rfl⟩, by simp [intOf]; omega⟩
    · have ty : decide ((y : Int) < yE) = false := decide_eq_false hly
      have HR := hideR (unhideR HE m)
      have HT : HeldR (tgC p.L q.L W H V U dx dy y = tgV p.L q.L W H V U dx dy) := hideR (tgC_last (by have := (unhideR HyE).2.2; omega))
      rw [unhideR HT]
      clear HE HT
      generalize tgV p.L q.L W H V U dx dy = tv at *
      go_wp2
      go_ret
      exact unhideR HR
end Go.Proofs.YtngdemhhcablmalDoor
