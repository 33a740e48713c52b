/-
  How two pictures go together: the document's, by contract.
-/
import Derived.Test.YtngdemhhcablmalDoorShM0
import Derived.Test.YtngdemhhcablmalDoorFrA
import Derived.Deep.CutRange
namespace Go.Proofs.YtngdemhhcablmalDoor
open Go Go.RowKit

/-- a picture that is right, by its numbers. -/
structure PicN (p : Pic) (W H : Nat) : Prop where
  w : p.wide = (W : Nat)
  h : p.high = (H : Nat)
  w1 : 1 ≤ W
  w2 : W ≤ 256
  h1 : 1 ≤ H
  h2 : H ≤ 256
  len : p.L.length = W * H
  each : ∀ k, 0 ≤ p.L.getD k 0 ∧ p.L.getD k 0 ≤ 65535
theorem PicOk.n {p : Pic} (h : PicOk p) : PicN p p.wide.toNat p.high.toNat := by
  have := h.w1
  have := h.h1
  have e1 : p.wide = (p.wide.toNat : Nat) := by omega
  have e2 : p.high = (p.high.toNat : Nat) := by omega
  refine ⟨e1, e2, by omega, by have := h.w2; omega, by omega, by have := h.h2; omega, ?_, fun k => ?_⟩
  · have := h.len
    generalize p.wide.toNat = W at *
    generalize p.high.toNat = H at *
    rw [e1, e2, ← Int.natCast_mul] at this
    exact Int.ofNat.inj this
  · by_cases q : k < p.L.length
    · exact h.each k q
    · rw [List.getD_eq_getElem?_getD, List.getElem?_eq_none (by omega)]; exact ⟨by decide, by decide⟩
theorem idx_lt {W H x y : Nat} (hx : x < W) (hy : y < H) : y * W + x < W * H := by
  have h1 : (y + 1) * W ≤ H * W := Nat.mul_le_mul_right _ hy
  rw [Nat.add_mul, Nat.one_mul] at h1
  rw [Nat.mul_comm W H]
  omega
def TgPost (p q : Pic) (W H V U : Nat) (dx dy : Int) (w : World) (e : Ending) (w' : World) : Prop := e = .returned (.int .i64 (tgV p.L q.L W H V U dx dy)) ∧ ∃ n, w' = w.drewN n
set_option maxRecDepth 100000 in
set_option maxHeartbeats 3200000 in
theorem togetherAt_any {w : World} {b1 o1 c1 b2 o2 c2 W H V U : Nat} {a1 a2 : Option Addr} {p q : Pic} (hp : PicAt w b1 o1 a1 c1 p) (hq : PicAt w b2 o2 a2 c2 q) (hP : PicN p W H) (hQ : PicN q V U) (dx dy : Int) (x1 : -16 ≤ dx) (x2 : dx ≤ 16) (y1 : -16 ≤ dy) (y2 : dy ≤ 16) :
    Calls Tryd.prog 7 #[.pointer (some ⟨b1, o1, none⟩), .pointer (some ⟨b2, o2, none⟩), .int .i64 dx, .int .i64 dy] w (TgPost p q W H V U dx dy w) := by
  obtain ⟨_, p0, p1, p2, pr⟩ := hp
  obtain ⟨_, q0, q1, q2, qr⟩ := hq
  have HPr := hideR pr
  have HQr := hideR qr
  have HP := hideR hP
  have HQ := hideR hQ
  obtain ⟨eW, eH, w1, w2, h1, h2, hpl, _⟩ := hP
  obtain ⟨eV, eU, v1, v2, u1, u2, hql, _⟩ := hQ
  have HE : HeldR (∀ n, TgPost p q W H V U dx dy w (.returned (.int .i64 (tgC p.L q.L W H V U dx dy H))) (w.drewN n)) := hideR (fun n => ⟨rfl, n, rfl⟩)
  rw [eW] at p0
  rw [eH] at p1
  rw [eV] at q0
  rw [eU] at q1
  rw [hpl] at p2
  rw [hql] at q2
  obtain ⟨N1, hN1⟩ : ∃ N, W * H = N := ⟨_, rfl⟩
  obtain ⟨N2, hN2⟩ : ∃ N, V * U = N := ⟨_, rfl⟩
  rw [hN1] at p2
  rw [hN2] at q2
  have HN1 := hideR hN1
  have HN2 := hideR hN2
  have HL1 := hideR hpl
  have HL2 := hideR hql
  clear pr qr hpl hql hN1 hN2 eW eH eV eU
  go_enter Tryd.func7, Tryd.ntmps7
  go_wp2
  go_loopw [9, 10] (fun sv iv wl => ∃ (y m : Nat), y ≤ H ∧ iv = .int .i64 (y : Nat) ∧ sv = .int .i64 (tgC p.L q.L W H V U dx dy y) ∧ wl = w.drewN m) (fun _ iv _ => H + 1 - (intOf iv).toNat)
  case atStart => exact ⟨0, 0, by omega, rfl, rfl, rfl⟩
  case round =>
    obtain ⟨y, m, hy, rfl, rfl, rfl⟩ := hrel
    by_cases hly : y < H
    · have ty : decide (y < H) = true := decide_eq_true hly
      have tyi : decide ((y : Int) < (H : Int)) = true := decide_eq_true (by omega)
      have wy : IntKind.i64.wrap ((y : Int) + 1) = ((y + 1 : Nat) : Int) := by rw [show (y : Int) + 1 = ((y + 1 : Nat) : Int) by omega]; exact iwrap (by omega) (by omega)
      go_wp2
      go_loopw [9, 11] (fun sv iv wl => ∃ (x m : Nat), x ≤ W ∧ iv = .int .i64 (x : Nat) ∧ sv = .int .i64 (tgC p.L q.L W H V U dx dy y + tgR p.L q.L W H V U dx dy y x) ∧ wl = w.drewN m) (fun _ iv _ => W + 1 - (intOf iv).toNat)
      case atStart => exact ⟨0, m, by omega, rfl, by simp [tgR], rfl⟩
      case round =>
        clear m
        obtain ⟨x, m, hx, rfl, rfl, rfl⟩ := hrel
        by_cases hlx : x < W
        · have tx : decide (x < W) = true := decide_eq_true hlx
          have txi : decide ((x : Int) < (W : Int)) = true := decide_eq_true (by omega)
          have wx : IntKind.i64.wrap ((x : Int) + 1) = ((x + 1 : Nat) : Int) := by rw [show (x : Int) + 1 = ((x + 1 : Nat) : Int) by omega]; exact iwrap (by omega) (by omega)
          obtain ⟨u, hu⟩ : ∃ u, (x : Int) + dx = u := ⟨_, rfl⟩
          obtain ⟨v, hv⟩ : ∃ v, (y : Int) + dy = v := ⟨_, rfl⟩
          have HOut : HeldR (u < 0 ∨ v < 0 ∨ (V : Int) ≤ u ∨ (U : Int) ≤ v → tgR p.L q.L W H V U dx dy y (x + 1) = tgR p.L q.L W H V U dx dy y x) := hideR (fun h => by
            show _ + tgT p.L q.L W H V U dx dy y x = _
            unfold tgT
            rw [if_neg (by omega), Int.add_zero])
          have wu : IntKind.i64.wrap ((x : Int) + dx) = u := by rw [hu]; exact iwrap (by omega) (by omega)
          have wv : IntKind.i64.wrap ((y : Int) + dy) = v := by rw [hv]; exact iwrap (by omega) (by omega)
          by_cases a1' : u < 0
          · have t1 : decide (u < 0) = true := decide_eq_true a1'
            have HR := hideR (unhideR HOut (.inl a1'))
            clear HOut hu hv
            go_wp2
            exact ⟨⟨x + 1, m, by omega, by first | rfl | go_num, by rw [unhideR HR], rfl⟩, by simp [intOf]; omega⟩
          have t1 : decide (u < 0) = false := decide_eq_false a1'
          by_cases a2' : v < 0
          · have t2 : decide (v < 0) = true := decide_eq_true a2'
            have HR := hideR (unhideR HOut (.inr (.inl a2')))
            clear HOut hu hv
            go_wp2
            exact ⟨⟨x + 1, m, by omega, by first | rfl | go_num, by rw [unhideR HR], rfl⟩, by simp [intOf]; omega⟩
          have t2 : decide (v < 0) = false := decide_eq_false a2'
          by_cases a3' : (V : Int) ≤ u
          · have t3 : decide ((V : Int) ≤ u) = true := decide_eq_true a3'
            have HR := hideR (unhideR HOut (.inr (.inr (.inl a3'))))
            clear HOut hu hv
            go_wp2
            exact ⟨⟨x + 1, m, by omega, by first | rfl | go_num, by rw [unhideR HR], rfl⟩, by simp [intOf]; omega⟩
          have t3 : decide ((V : Int) ≤ u) = false := decide_eq_false a3'
          by_cases a4' : (U : Int) ≤ v
          · have t4 : decide ((U : Int) ≤ v) = true := decide_eq_true a4'
            have HR := hideR (unhideR HOut (.inr (.inr (.inr a4'))))
            clear HOut hu hv
            go_wp2
            exact ⟨⟨x + 1, m, by omega, by first | rfl | go_num, by rw [unhideR HR], rfl⟩, by simp [intOf]; omega⟩
          have t4 : decide ((U : Int) ≤ v) = false := decide_eq_false a4'
          obtain ⟨uu, rfl⟩ : ∃ n : Nat, u = (n : Nat) := ⟨u.toNat, by omega⟩
          obtain ⟨vv, rfl⟩ : ∃ n : Nat, v = (n : Nat) := ⟨v.toNat, by omega⟩
          have hi1 := idx_lt hlx hly
          have hi2 := idx_lt (W := V) (H := U) (x := uu) (y := vv) (by omega) (by omega)
          obtain ⟨k1, hk1⟩ : ∃ k, y * W + x = k := ⟨_, rfl⟩
          obtain ⟨k2, hk2⟩ : ∃ k, vv * V + uu = k := ⟨_, rfl⟩
          have HIn : HeldR (tgR p.L q.L W H V U dx dy y (x + 1) = tgR p.L q.L W H V U dx dy y x + p.L.getD k1 0 * q.L.getD k2 0) := hideR (by
            show _ + tgT p.L q.L W H V U dx dy y x = _
            unfold tgT
            rw [if_pos (by omega), hu, hv, Int.toNat_natCast, Int.toNat_natCast, hk1, hk2])
          rw [unhideR HN1, hk1] at hi1
          rw [unhideR HN2, hk2] at hi2
          obtain ⟨b3, o3, rfl, _, r1⟩ := (unhideR HPr).at_ k1 (by rw [unhideR HL1, unhideR HN1]; exact hi1)
          obtain ⟨b4, o4, rfl, _, r2⟩ := (unhideR HQr).at_ k2 (by rw [unhideR HL2, unhideR HN2]; exact hi2)
          have ji1 : (k1 : Int) < (N1 : Int) := by omega
          have ji2 : (k2 : Int) < (N2 : Int) := by omega
          have hbw : y * W ≤ 256 * 256 := Nat.mul_le_mul (by omega) (by omega)
          have hbv : vv * V ≤ 256 * 256 := Nat.mul_le_mul (by omega) (by omega)
          obtain ⟨m1, hm1⟩ : ∃ k, y * W = k := ⟨_, rfl⟩
          obtain ⟨m2, hm2⟩ : ∃ k, vv * V = k := ⟨_, rfl⟩
          rw [hm1] at hk1 hbw
          rw [hm2] at hk2 hbv
          have wm1 : IntKind.i64.wrap ((y : Int) * (W : Int)) = (m1 : Nat) := by rw [← hm1, show ((y : Int) * (W : Int)) = ((y * W : Nat) : Int) from (Int.natCast_mul y W).symm, hm1]; exact iwrap (by omega) (by omega)
          have wm2 : IntKind.i64.wrap ((vv : Int) * (V : Int)) = (m2 : Nat) := by rw [← hm2, show ((vv : Int) * (V : Int)) = ((vv * V : Nat) : Int) from (Int.natCast_mul vv V).symm, hm2]; exact iwrap (by omega) (by omega)
          have wk1 : IntKind.i64.wrap ((m1 : Int) + (x : Int)) = (k1 : Nat) := by rw [show (m1 : Int) + (x : Int) = (k1 : Nat) by omega]; exact iwrap (by omega) (by omega)
          have wk2 : IntKind.i64.wrap ((m2 : Int) + (uu : Int)) = (k2 : Nat) := by rw [show (m2 : Int) + (uu : Int) = (k2 : Nat) by omega]; exact iwrap (by omega) (by omega)
          have hc := tgC_range (W := W) (H := H) (V := V) (U := U) (dx := dx) (dy := dy) (unhideR HP).each (unhideR HQ).each w2 y
          have hr := tgR_range (W := W) (H := H) (V := V) (U := U) (dx := dx) (dy := dy) (unhideR HP).each (unhideR HQ).each y x
          have hmul := mul_16 ((unhideR HP).each k1) ((unhideR HQ).each k2)
          generalize p.L.getD k1 0 = x3 at *
          generalize q.L.getD k2 0 = x4 at *
          generalize tgC p.L q.L W H V U dx dy y = cs at *
          obtain ⟨rs, hrs⟩ : ∃ r, tgR p.L q.L W H V U dx dy y x = r := ⟨_, rfl⟩
          rw [hrs] at hr HIn ⊢
          obtain ⟨pr, hpr⟩ : ∃ r, x3 * x4 = r := ⟨_, rfl⟩
          rw [hpr] at hmul HIn
          have wp : IntKind.i64.wrap (x3 * x4) = pr := by rw [hpr]; exact iwrap (by omega) (by omega)
          have ws : IntKind.i64.wrap (cs + rs + pr) = cs + rs + pr := iwrap (by omega) (by omega)
          have HNx : HeldR (cs + rs + pr = cs + tgR p.L q.L W H V U dx dy y (x + 1)) := hideR (by rw [unhideR HIn, Int.add_assoc])
          clear HOut hu hv hm1 hm2 hk1 hk2 hi1 hi2 hc hr hmul hrs hpr HIn hbw hbv
          generalize cs + rs = s0 at *
          go_wp2
          go_quiet (fail)
          go_wp2
          exact ⟨⟨x + 1, _, by omega, by first | rfl | go_num, by rw [← unhideR HNx], rfl⟩, by simp [intOf]; omega⟩
        · obtain rfl : W = x := by omega
          have tx : decide (W < W) = false := decide_eq_false hlx
          have txi : decide ((W : Int) < (W : Int)) = false := decide_eq_false (by omega)
          have HNx : HeldR (tgC p.L q.L W H V U dx dy (y + 1) = tgC p.L q.L W H V U dx dy y + tgR p.L q.L W H V U dx dy y W) := hideR rfl
          go_wp2
          exact ⟨⟨y + 1, m, by omega, by first | rfl | go_num, by rw [unhideR HNx], rfl⟩, by simp [intOf]; omega⟩
    · obtain rfl : H = y := by omega
      have ty : decide (H < H) = false := decide_eq_false hly
      have tyi : decide ((H : Int) < (H : Int)) = false := decide_eq_false (by omega)
      have HR := hideR (unhideR HE m)
      clear HE
      go_wp2
      go_ret
      exact unhideR HR
end Go.Proofs.YtngdemhhcablmalDoor
