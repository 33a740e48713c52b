/-
  The law of there and back: its walk.
-/
import Derived.Test.YtngdemhhcablmakDoorShIA
namespace Go.Proofs.YtngdemhhcablmakDoor
open Go Go.RowKit

def Fsb (a b : Nat) (v : Value) : Prop := ∃ t, v = .float .f64 t ∧ FOp .sub a b t
def Fsz (a b : Nat) (v : Value) : Prop := ∃ t, v = .float .f64 (szB t) ∧ FOp .sub a b t
theorem fsb_some (a b : Nat) : ∃ v, Fsb a b v := ⟨_, _, rfl, fnum_is .sub a b default⟩
theorem fsz_some (a b : Nat) : ∃ v, Fsz a b v := ⟨_, _, rfl, fnum_is .sub a b default⟩
set_option maxRecDepth 100000 in
theorem isTwo_big (n : Nat) (hn : n ≤ 9223372036854775807) (w : World) : Calls Tryd.prog 16 #[.int .i64 (n : Nat)] w fun e w' => e = .returned (.bool (twoB n)) ∧ w' = w := by
  obtain ⟨r, hr⟩ : ∃ r, twoB n = r := ⟨_, rfl⟩
  rw [hr]
  have HR := hideR hr
  clear hr
  go_enter Tryd.func16, Tryd.ntmps16
  go_wp2
  go_loop [0] (fun nv => ∃ m : Nat, m ≤ 9223372036854775807 ∧ nv = .int .i64 (m : Nat) ∧ HeldR (twoB m = r)) (fun nv => (intOf nv).toNat)
  case atStart => exact ⟨n, hn, rfl, HR⟩
  case round =>
    obtain ⟨m, hm, rfl, HM⟩ := hrel
    have e1 : (m : Int) % 2 = ((m % 2 : Nat) : Int) := by omega
    have e2 : (m : Int).tmod 2 = ((m % 2 : Nat) : Int) := by rw [Int.tmod_eq_emod_of_nonneg (by omega)]; omega
    have e3 : (m : Int) / 2 = ((m / 2 : Nat) : Int) := by omega
    have e4 : (m : Int).tdiv 2 = ((m / 2 : Nat) : Int) := by rw [Int.tdiv_eq_ediv_of_nonneg (by omega)]; omega
    have w3 : IntKind.i64.wrap ((m / 2 : Nat) : Int) = ((m / 2 : Nat) : Int) := iwrap (by omega) (by omega)
    by_cases q1 : 1 < m
    · have t1 : decide ((1 : Int) < (m : Int)) = true := decide_eq_true (by omega)
      have t1n : decide (1 < m) = true := decide_eq_true q1
      by_cases q2 : m % 2 = 0
      · have HN : HeldR (twoB (m / 2) = r) := hideR (by rw [← twoB_half ⟨q1, q2⟩]; exact unhideR HM)
        obtain ⟨h, hh⟩ : ∃ h, m / 2 = h := ⟨_, rfl⟩
        have hlt : h < m := by omega
        rw [q2] at e1 e2
        rw [hh] at e3 e4 w3 HN
        clear hh HM q2
        go_wp2
        exact ⟨⟨h, by omega, rfl, HN⟩, by simp [intOf]; omega⟩
      · have HE : HeldR (r = (m == 1)) := hideR (by rw [← unhideR HM]; exact twoB_end (fun q => q2 q.2))
        have q3 : m % 2 = 1 := by omega
        rw [q3] at e1 e2
        have t5 : (m == 1) = false := beq_eq_false_iff_ne.2 (by omega)
        have t5i : ((m : Int) == 1) = false := beq_eq_false_iff_ne.2 (by omega)
        clear HM q2 q3 e3 e4 w3
        go_wp2
        rw [unhideR HE]
        go_ret
        exact ⟨by rw [t5]; rfl, rfl⟩
    · have t1 : decide ((1 : Int) < (m : Int)) = false := decide_eq_false (by omega)
      have t1n : decide (1 < m) = false := decide_eq_false q1
      have HE : HeldR (r = (m == 1)) := hideR (by rw [← unhideR HM]; exact twoB_end (fun q => q1 q.1))
      have t5 : ((m : Int) == 1) = (m == 1) := by
        rw [Bool.eq_iff_iff]
        simp
        omega
      clear HM e1 e2 e3 e4 w3
      go_wp2
      rw [unhideR HE]
      go_ret
      exact ⟨rfl, rfl⟩
/-- the greatest size so far. -/
def mxB (m x : Nat) : Nat := if (FloatKind.f64.format.order (szB x) m == some .gt) = true then szB x else m
structure MoK (L : List (Nat × Nat)) (k mb : Nat) : Prop where
  it : ∃ mo, Is mb mo ∧ 0 ≤ mo ∧ (mo = 0 ∨ p2 (-300) ≤ mo ∧ mo ≤ p2 300) ∧ ∀ i, i < k → ∃ z, CIs (L.getD i (0, 0)) z ∧ ab z.re ≤ mo ∧ ab z.im ≤ mo
theorem mx_is {m x : Nat} {mo v : Rat} (hm : Is m mo) (hx : Is x v) : ∃ q, Is (mxB m x) q ∧ mo ≤ q ∧ ab v ≤ q ∧ (q = mo ∨ q = ab v) := by
  unfold mxB
  rw [order_is (sz_is hx) hm]
  by_cases q1 : ab v < mo
  · rw [if_pos q1, if_neg (by decide)]
    exact ⟨mo, hm, Rat.le_refl, by grind, .inl rfl⟩
  · by_cases q2 : ab v = mo
    · rw [if_neg q1, if_pos q2, if_neg (by decide)]
      exact ⟨mo, hm, Rat.le_refl, by grind, .inl rfl⟩
    · rw [if_neg q1, if_neg q2, if_pos (by decide)]
      exact ⟨ab v, sz_is hx, by grind, Rat.le_refl, .inr rfl⟩
theorem MoK.zero (L : List (Nat × Nat)) : MoK L 0 0 := ⟨0, zero_is', Rat.le_refl, .inl rfl, fun i hi => absurd hi (Nat.not_lt_zero i)⟩
theorem MoK.next {L : List (Nat × Nat)} {k mb : Nat} (h : MoK L k mb) (h1 : MildV (L.getD k (0, 0)).1) (h2 : MildV (L.getD k (0, 0)).2) : MoK L (k + 1) (mxB (mxB mb (L.getD k (0, 0)).1) (L.getD k (0, 0)).2) := by
  obtain ⟨mo, im, m0, mm, hk⟩ := h
  obtain ⟨v1, i1, c1⟩ := h1
  obtain ⟨v2, i2, c2⟩ := h2
  obtain ⟨q, iq, a1, a2, a3⟩ := mx_is im i1
  obtain ⟨r, ir, b1, b2, b3⟩ := mx_is iq i2
  have z0 : ab 0 = 0 := by unfold ab; decide +kernel
  have key : ∀ v : Rat, (v = 0 ∨ p2 (-300) ≤ ab v ∧ ab v ≤ p2 300) → (ab v = 0 ∨ p2 (-300) ≤ ab v ∧ ab v ≤ p2 300) := fun v h => h.elim (fun e => .inl (by rw [e]; exact z0)) .inr
  refine ⟨r, ir, by grind, ?_, fun i hi => ?_⟩
  · rcases b3 with rfl | rfl
    · rcases a3 with rfl | rfl
      · exact mm
      · exact key v1 c1
    · exact key v2 c2
  · by_cases e : i = k
    · subst e
      exact ⟨⟨v1, v2⟩, ⟨i1, i2⟩, by show ab v1 ≤ r; grind, b2⟩
    · obtain ⟨z, iz, z1, z2⟩ := hk i (by omega)
      exact ⟨z, iz, by grind, by grind⟩
def c3I (n : Nat) : Bool := !twoB n || decide (64 < n)
set_option maxRecDepth 100000 in
set_option maxHeartbeats 6400000 in
theorem inv_walk {a : Nat → Addr} {w : World} {a1 : Option Addr} {c1 : Nat} {L : List (Nat × Nat)} (hS : Er2 w a) (hL : PrCame w a1 L) (l1 : L.length ≤ 9223372036854775807) :
    Calls Tryd.prog 5 #[.slice a1 L.length c1] w (WdPost' w) := by
  have HS : HeldR (∀ u, Below w.heap.size w u → Er2 u a) := hideR (fun u k => hS.below k (Nat.le_refl _))
  have HL : HeldR (∀ u, Below w.heap.size w u → PrCame u a1 L) := hideR (fun u k => hL.below k)
  have HNu : HeldR (L.length ≤ 300 → ∀ u, Below w.heap.size w u → Calls Tryd.prog 10 #[.slice a1 L.length c1] u (NuPost L u)) := hideR (fun q u k => numbers_any (unhideR HL u k) (by omega))
  have HFv : HeldR (∀ (u : World) (ad : Option Addr) (cap : Nat), Below w.heap.size w u → CxCame u ad L → Calls Tryd.prog 15 #[.slice ad L.length cap, .bool false] u (FaPost a L false u)) := hideR (fun _ _ _ k h => fast_ok a false (unhideR HS _ k) h l1)
  have HWv : HeldR (∀ (u : World) (ad : Option Addr) (cap : Nat), Below w.heap.size w u → CxCame u ad L → Calls Tryd.prog 9 #[.slice ad L.length cap, .bool false] u (WaPost a L false u)) := hideR (fun _ _ _ k h => waves_ok a false (unhideR HS _ k) h l1)
  have h1 := waved_any (waves_ok a) hS
  obtain ⟨n, hn⟩ : ∃ n, L.length = n := ⟨_, rfl⟩
  rw [hn] at l1 HNu HFv HWv ⊢
  have HN := hideR hn
  clear hS hL hn
  go_enter Tryd.func5, Tryd.ntmps5
  go_wp2_with fail
  refine h1.mono ?_
  rintro e w1 ⟨rfl, k1⟩
  have HB1 := hideR k1
  have h2 := isTwo_big n l1 w1
  clear h1 k1
  obtain ⟨tw2, htw2⟩ : ∃ q, twoB n = q := ⟨_, rfl⟩
  rw [htw2] at h2
  go_wp2_with fail
  refine h2.mono ?_
  rintro e w1' ⟨rfl, rfl⟩
  clear h2
  cases tw2 with
  | false =>
    clear HNu HFv HWv
    go_wp2
    go_ret
    exact ⟨rfl, unhideR HB1⟩
  | true =>
  by_cases q64 : 64 < n
  · have t64 : decide ((64 : Int) < (n : Int)) = true := decide_eq_true (by omega)
    have t64n : decide (64 < n) = true := decide_eq_true q64
    clear HNu HFv HWv
    go_wp2
    go_ret
    exact ⟨rfl, unhideR HB1⟩
  have t64 : decide ((64 : Int) < (n : Int)) = false := decide_eq_false (by omega)
  have t64n : decide (64 < n) = false := decide_eq_false q64
  obtain ⟨d, hd⟩ := twoB_is htw2
  have HD := hideR hd
  have HTw := hideR htw2
  have HLw : HeldR (PrCame w1' a1 L) := hideR (unhideR HL w1' (unhideR HB1))
  clear hd htw2
  go_wp2
  go_loop [5, 6] (fun mv iv => ∃ (k mb : Nat), k ≤ n ∧ iv = .int .i64 (k : Nat) ∧ mv = .float .f64 mb ∧ HeldR (MoK L k mb)) (fun _ iv => n + 1 - (intOf iv).toNat)
  case atStart => exact ⟨0, 0, by omega, rfl, rfl, hideR (MoK.zero L)⟩
  case round =>
    obtain ⟨k, mb, hk, rfl, rfl, HM⟩ := hrel
    by_cases hlt : k < n
    · have tk : decide (k < n) = true := decide_eq_true hlt
      have tki : decide ((k : Int) < (n : Int)) = true := decide_eq_true (by omega)
      have jk : (k : Int) < (n : Int) := by omega
      have wk : IntKind.i64.wrap ((k : Int) + 1) = ((k + 1 : Nat) : Int) := by rw [show (k : Int) + 1 = ((k + 1 : Nat) : Int) by omega]; exact iwrap (by omega) (by omega)
      obtain ⟨bl, ol, rfl, _, hat⟩ := (unhideR HLw).at_ k (by rw [unhideR HN]; exact hlt)
      have y0 := hat.c0
      have y1 := hat.c1
      have HNx : HeldR (MildV (L.getD k (0, 0)).1 → MildV (L.getD k (0, 0)).2 → MoK L (k + 1) (mxB (mxB mb (L.getD k (0, 0)).1) (L.getD k (0, 0)).2)) := hideR (fun q1 q2 => (unhideR HM).next q1 q2)
      generalize (L.getD k (0, 0)).1 = p1 at *
      generalize (L.getD k (0, 0)).2 = p2' at *
      have hm1 := mild_any p1 w1'
      have hm2 := mild_any p2' w1'
      have hz1 := fun u => size_any p1 u
      have hz2 := fun u => size_any p2' u
      clear hat HM
      go_wp2_with fail
      refine hm1.mono ?_
      rintro e u1 ⟨b1, rfl, rfl, M1⟩
      clear hm1
      go_wp2_with fail
      refine hm2.mono ?_
      rintro e u2 ⟨b2, rfl, rfl, M2⟩
      clear hm2
      cases b1 with
      | false =>
        clear HNu HFv HWv HNx
        go_wp2
        go_ret
        exact ⟨rfl, unhideR HB1⟩
      | true =>
      cases b2 with
      | false =>
        clear HNu HFv HWv HNx
        go_wp2
        go_ret
        exact ⟨rfl, unhideR HB1⟩
      | true =>
      have HM2 := hideR (unhideR HNx (M1 rfl) (M2 rfl))
      clear M1 M2 HNx
      have ea : mxB mb p1 = if (FloatKind.f64.format.order (szB p1) mb == some .gt) = true then szB p1 else mb := rfl
      have eb : ∀ m, mxB m p2' = if (FloatKind.f64.format.order (szB p2') m == some .gt) = true then szB p2' else m := fun _ => rfl
      rw [eb, ea] at HM2
      clear ea eb
      generalize szB p1 = s1 at *
      generalize szB p2' = s2 at *
      cases g1 : (FloatKind.f64.format.order s1 mb == some .gt) with
      | true =>
        rw [g1, show (if true = true then s1 else mb) = s1 from rfl] at HM2
        cases g2 : (FloatKind.f64.format.order s2 s1 == some .gt) with
        | true =>
          rw [g2, if_pos rfl] at HM2
          go_wp2_with fail
          refine (hz1 _).mono ?_
          rintro e u3 ⟨rfl, rfl⟩
          go_wp2_with fail
          refine (hz1 _).mono ?_
          rintro e u4 ⟨rfl, rfl⟩
          go_wp2_with fail
          refine (hz2 _).mono ?_
          rintro e u5 ⟨rfl, rfl⟩
          go_wp2_with fail
          refine (hz2 _).mono ?_
          rintro e u6 ⟨rfl, rfl⟩
          go_wp2
          exact ⟨⟨k + 1, _, by omega, by first | rfl | go_num, rfl, HM2⟩, by simp [intOf]; omega⟩
        | false =>
          rw [g2, if_neg (by decide)] at HM2
          go_wp2_with fail
          refine (hz1 _).mono ?_
          rintro e u3 ⟨rfl, rfl⟩
          go_wp2_with fail
          refine (hz1 _).mono ?_
          rintro e u4 ⟨rfl, rfl⟩
          go_wp2_with fail
          refine (hz2 _).mono ?_
          rintro e u5 ⟨rfl, rfl⟩
          go_wp2
          exact ⟨⟨k + 1, _, by omega, by first | rfl | go_num, rfl, HM2⟩, by simp [intOf]; omega⟩
      | false =>
        rw [g1, show (if false = true then s1 else mb) = mb from rfl] at HM2
        cases g2 : (FloatKind.f64.format.order s2 mb == some .gt) with
        | true =>
          rw [g2, if_pos rfl] at HM2
          go_wp2_with fail
          refine (hz1 _).mono ?_
          rintro e u3 ⟨rfl, rfl⟩
          go_wp2_with fail
          refine (hz2 _).mono ?_
          rintro e u5 ⟨rfl, rfl⟩
          go_wp2_with fail
          refine (hz2 _).mono ?_
          rintro e u6 ⟨rfl, rfl⟩
          go_wp2
          exact ⟨⟨k + 1, _, by omega, by first | rfl | go_num, rfl, HM2⟩, by simp [intOf]; omega⟩
        | false =>
          rw [g2, if_neg (by decide)] at HM2
          go_wp2_with fail
          refine (hz1 _).mono ?_
          rintro e u3 ⟨rfl, rfl⟩
          go_wp2_with fail
          refine (hz2 _).mono ?_
          rintro e u5 ⟨rfl, rfl⟩
          go_wp2
          exact ⟨⟨k + 1, _, by omega, by first | rfl | go_num, rfl, HM2⟩, by simp [intOf]; omega⟩
    · obtain rfl : n = k := by omega
      have tk : decide (n < n) = false := decide_eq_false hlt
      have tki : decide ((n : Int) < (n : Int)) = false := decide_eq_false (by omega)
      have h3 := unhideR HNu (by omega) w1' (unhideR HB1)
      clear HLw
      go_wp2_with fail
      refine h3.mono ?_
      rintro e w2 ⟨ad2, cap2, rfl, hc2, k2⟩
      rw [unhideR HN]
      have HB2 := hideR (below_go (unhideR HB1) k2)
      have h4 := unhideR HFv _ _ cap2 (unhideR HB2) hc2
      clear h3 k2 hc2
      have hfs : fsE n = 0 := by unfold fsE; rw [if_neg (by omega), unhideR HTw]; rfl
      unfold FaPost at h4
      rw [unhideR HN, hfs] at h4
      go_wp2_with fail
      refine h4.mono ?_
      rintro e w3 ⟨X, ax, cx, er, rfl, her, _, hX1, hcx, k3⟩
      obtain rfl := errIs_0 her
      obtain ⟨dx, hdx, hXe⟩ := hX1 trivial
      have HB3 := hideR (below_go (unhideR HB2) k3)
      have hXl : X.length = n := by rw [hXe.len, ← hdx]
      have edx : dx = d := by
        have e : 2 ^ dx = 2 ^ d := by rw [← hdx]; exact unhideR HD
        exact (Nat.pow_right_inj (by decide)).1 e
      subst edx
      have HXe := hideR hXe
      have HXl := hideR hXl
      have HXc : HeldR (∀ u, Below w3.heap.size w3 u → CxCame u ax X) := hideR (fun u k => hcx.below k)
      have h5 := fast_ok a (c1 := cx) true (unhideR HS w3 (unhideR HB3)) hcx (by rw [hXl]; omega)
      unfold FaPost at h5
      rw [hXl, hfs] at h5
      rw [hXl]
      have te : (n == n) = true := by simp
      have tei : ((n : Int) == (n : Int)) = true := by simp
      have tne : (n != n) = false := by simp
      have tnei : ((n : Int) != (n : Int)) = false := by simp
      clear h4 her hX1 hcx hXe hXl hdx
      go_wp2_with fail
      refine h5.mono ?_
      rintro e w4 ⟨R, ar, cr, er, rfl, her, _, hR1, hcr, k4⟩
      obtain rfl := errIs_0 her
      obtain ⟨dr, hdr, hRe⟩ := hR1 trivial
      have hRl : R.length = n := by rw [hRe.len, ← hdr]
      have edr : dr = dx := by
        have e : 2 ^ dr = 2 ^ dx := by rw [← hdr]; exact unhideR HD
        exact (Nat.pow_right_inj (by decide)).1 e
      subst edr
      have HB4 := hideR (below_go (unhideR HB3) k4)
      have HK4 := hideR k4
      have HRe := hideR hRe
      have HRl := hideR hRl
      have HRc : HeldR (∀ u, Below w4.heap.size w4 u → CxCame u ar R) := hideR (fun u k => hcr.below k)
      rw [hRl]
      have h6 := unhideR HNu (by omega) w4 (unhideR HB4)
      clear h5 her hR1 hcr hRe hRl hdr k4
      go_wp2_with fail
      refine h6.mono ?_
      rintro e w5 ⟨ad5, cap5, rfl, hc5, k5⟩
      rw [unhideR HN]
      have HB5 := hideR (below_go (unhideR HB4) k5)
      have HK5 := hideR k5
      have h7 := unhideR HWv _ _ cap5 (unhideR HB5) hc5
      have hle : lenE n = 0 := by
        have : 0 < n := by rw [unhideR HD]; exact Nat.two_pow_pos _
        unfold lenE
        rw [if_neg (by omega), if_neg (by omega)]
      unfold WaPost at h7
      rw [unhideR HN, hle] at h7
      clear h6 k5 hc5
      go_wp2_with fail
      refine h7.mono ?_
      rintro e w6 ⟨S, asl, cs, er, rfl, her, _, hS1, hcs, k6⟩
      obtain rfl := errIs_0 her
      obtain ⟨hSl, hSe⟩ := hS1 trivial
      have HB6 := hideR (below_go (unhideR HB5) k6)
      have HSe : HeldR (∀ k, k < 2 ^ dr → WvEnd L k (2 ^ dr) false (S.getD k (0, 0))) := hideR (fun k hk => by
        have e := unhideR HD
        have := hSe k (by rw [e]; exact hk)
        rw [e] at this
        exact this)
      have HSl := hideR hSl
      have HSc : HeldR (CxCame w6 asl S) := hideR hcs
      have HXc6 : HeldR (CxCame w6 ax X) := hideR (unhideR HXc w6 (below_go (below_go (unhideR HK4) (unhideR HK5)) k6))
      have HRc6 : HeldR (CxCame w6 ar R) := hideR (unhideR HRc w6 (below_go (unhideR HK5) k6))
      have HLc6 : HeldR (PrCame w6 a1 L) := hideR (unhideR HL w6 (unhideR HB6))
      rw [hSl]
      have hd6 : dr ≤ 6 := by
        rcases Nat.lt_or_ge 6 dr with q | q
        · have h1 : 2 ^ 7 ≤ 2 ^ dr := Nat.pow_le_pow_right (by decide) q
          have h2 := unhideR HD
          omega
        · exact q
      have Hd6 := hideR hd6
      clear h7 her hS1 hcs k6 hSl hSe HXc HRc HK4 HK5 HNu HFv HWv HL hd6 hle hfs
      go_wp2_with fail
      refine upon_flt fl_mul ?_
      intro nr n1 hnr
      have HNr := hideR hnr
      clear hnr
      go_wp2_with fail
      refine upon_flt fl_mul ?_
      intro f1 n2 hf1
      have HF1 := hideR hf1
      clear hf1
      go_wp2_with fail
      refine upon_flt fl_mul ?_
      intro far n3 hfar
      have HFar := hideR hfar
      clear hfar
      have HI : HeldR (∀ i, i < n → NoGt nr (R.getD i (0, 0)).1 (L.getD i (0, 0)).1 ∧ NoGt nr (R.getD i (0, 0)).2 (L.getD i (0, 0)).2 ∧ NoGt far (S.getD i (0, 0)).1 (X.getD i (0, 0)).1 ∧ NoGt far (S.getD i (0, 0)).2 (X.getD i (0, 0)).2) := hideR (fun i hi => by
        have e := unhideR HD
        obtain ⟨mo, im, _, mm, hz⟩ := (unhideR HM).it
        rw [e] at hi
        refine inv_fin (unhideR Hd6) (unhideR HXe) (unhideR HRe) (unhideR HSe) im (fun j hj => hz j (by rw [e]; exact hj)) mm (unhideR HNr) ?_ (unhideR HFar) hi
        have := unhideR HF1
        rw [e] at this
        exact this)
      clear HM HXe HRe HSe HNr HF1 HFar Hd6 HD HTw
      go_wp2
      go_loopw [16] (fun iv wl => ∃ (i : Nat), i ≤ n ∧ iv = .int .i64 (i : Nat) ∧ HeldR (Below w6.heap.size w6 wl)) (fun iv _ => n + 1 - (intOf iv).toNat)
      case atStart => exact ⟨0, by omega, rfl, hideR (drew_below _ _ (Below.refl _ _))⟩
      case round =>
        obtain ⟨i, hi, rfl, HBw⟩ := hrel
        by_cases hli : i < n
        · have ti : decide (i < n) = true := decide_eq_true hli
          have tii : decide ((i : Int) < (n : Int)) = true := decide_eq_true (by omega)
          have ji : (i : Int) < (n : Int) := by omega
          have wi : IntKind.i64.wrap ((i : Int) + 1) = ((i + 1 : Nat) : Int) := by rw [show (i : Int) + 1 = ((i + 1 : Nat) : Int) by omega]; exact iwrap (by omega) (by omega)
          obtain ⟨nA, nB, nC, nD⟩ := unhideR HI i hli
          obtain ⟨br, or, rfl, _, cR⟩ := ((unhideR HRc6).below (unhideR HBw)).at_ i (by rw [unhideR HRl]; exact hli)
          obtain ⟨bs, os, rfl, _, cS'⟩ := ((unhideR HSc).below (unhideR HBw)).at_ i (by rw [unhideR HSl]; exact hli)
          obtain ⟨bx, ox, rfl, _, cX⟩ := ((unhideR HXc6).below (unhideR HBw)).at_ i (by rw [unhideR HXl]; exact hli)
          obtain ⟨bl, ol, rfl, _, hat⟩ := ((unhideR HLc6).below (unhideR HBw)).at_ i (by rw [unhideR HN]; exact hli)
          have cL0 := hat.c0
          have cL1 := hat.c1
          have HN1 := hideR nA
          have HN2 := hideR nB
          have HN3 := hideR nC
          have HN4 := hideR nD
          clear nA nB nC nD hat
          generalize (R.getD i (0, 0)).1 = r1 at *
          generalize (R.getD i (0, 0)).2 = r2 at *
          generalize (S.getD i (0, 0)).1 = s1 at *
          generalize (S.getD i (0, 0)).2 = s2 at *
          generalize (X.getD i (0, 0)).1 = x1 at *
          generalize (X.getD i (0, 0)).2 = x2 at *
          generalize (L.getD i (0, 0)).1 = l1' at *
          generalize (L.getD i (0, 0)).2 = l2' at *
          have hsf := fun t x y v => run_fsub (P := Tryd.prog) t x y v
          go_upto_region 29 with fail
          refine wp_region_lets [(· = .slice (some ⟨br, or, none⟩) n cr),
            (· = .int .i64 (i : Nat)),
            (· = .pointer (some ⟨br, or + i, none⟩)),
            (· = .complex .f64 r1 r2),
            (· = .float .f64 r1),
            (· = .slice (some ⟨bl, ol, none⟩) n c1),
            (· = .int .i64 (i : Nat)),
            (· = .pointer (some ⟨bl, ol + i * 2, none⟩)),
            (· = .pointer (some ⟨bl, ol + i * 2, none⟩)),
            (· = .float .f64 l1'),
            (Fsb r1 l1'),
            (Fsz r1 l1'),
            (· = .float .f64 nr),
            (· = .bool false),
            (· = .bool false),
            (· = .slice (some ⟨br, or, none⟩) n cr),
            (· = .int .i64 (i : Nat)),
            (· = .pointer (some ⟨br, or + i, none⟩)),
            (· = .complex .f64 r1 r2),
            (· = .float .f64 r2),
            (· = .slice (some ⟨bl, ol, none⟩) n c1),
            (· = .int .i64 (i : Nat)),
            (· = .pointer (some ⟨bl, ol + i * 2, none⟩)),
            (· = .pointer (some ⟨bl, ol + i * 2 + 1, none⟩)),
            (· = .float .f64 l2'),
            (Fsb r2 l2'),
            (Fsz r2 l2'),
            (· = .float .f64 nr),
            (· = .bool false),
            (· = .bool false)] (by kernel_rfl) (by kernel_rfl) ?_
          refine lexL_step (fun K hK => ⟨by kernel_rfl, ⟨_, rfl⟩, fun n => ?_, fun v hv => ?_⟩)
          · go_simp
            exact lUpon_one
          subst hv
          go_simp
          refine hK _ ?_
          clear hK K
          refine lexL_step (fun K hK => ⟨by kernel_rfl, ⟨_, rfl⟩, fun n => ?_, fun v hv => ?_⟩)
          · go_simp
            exact lUpon_one
          subst hv
          go_simp
          refine hK _ ?_
          clear hK K
          refine lexL_step (fun K hK => ⟨by kernel_rfl, ⟨_, rfl⟩, fun n => ?_, fun v hv => ?_⟩)
          · go_simp
            exact lUpon_one
          subst hv
          go_simp
          refine hK _ ?_
          clear hK K
          refine lexL_step (fun K hK => ⟨by kernel_rfl, ⟨_, rfl⟩, fun n => ?_, fun v hv => ?_⟩)
          · go_simp
            exact lUpon_one
          subst hv
          go_simp
          refine hK _ ?_
          clear hK K
          refine lexL_step (fun K hK => ⟨by kernel_rfl, ⟨_, rfl⟩, fun n => ?_, fun v hv => ?_⟩)
          · go_simp
            exact lUpon_one
          subst hv
          go_simp
          refine hK _ ?_
          clear hK K
          refine lexL_step (fun K hK => ⟨by kernel_rfl, ⟨_, rfl⟩, fun n => ?_, fun v hv => ?_⟩)
          · go_simp
            exact lUpon_one
          subst hv
          go_simp
          refine hK _ ?_
          clear hK K
          refine lexL_step (fun K hK => ⟨by kernel_rfl, ⟨_, rfl⟩, fun n => ?_, fun v hv => ?_⟩)
          · go_simp
            exact lUpon_one
          subst hv
          go_simp
          refine hK _ ?_
          clear hK K
          refine lexL_step (fun K hK => ⟨by kernel_rfl, ⟨_, rfl⟩, fun n => ?_, fun v hv => ?_⟩)
          · go_simp
            exact lUpon_one
          subst hv
          go_simp
          refine hK _ ?_
          clear hK K
          refine lexL_step (fun K hK => ⟨by kernel_rfl, ⟨_, rfl⟩, fun n => ?_, fun v hv => ?_⟩)
          · go_simp
            exact lUpon_one
          subst hv
          go_simp
          refine hK _ ?_
          clear hK K
          refine lexL_step (fun K hK => ⟨by kernel_rfl, ⟨_, rfl⟩, fun n => ?_, fun v hv => ?_⟩)
          · go_simp
            exact lUpon_one
          subst hv
          go_simp
          refine hK _ ?_
          clear hK K
          refine lexL_step (fun K hK => ⟨by kernel_rfl, fsb_some _ _, fun n => ?_, fun v hv => ?_⟩)
          · go_simp
            exact ⟨⟨_, rfl⟩, _, rfl, fnum_is _ _ _ _⟩
          obtain ⟨ta0, rfl, hta0⟩ := hv
          go_simp
          refine hK _ ?_
          clear hK K
          refine lexL_step (fun K hK => ⟨by kernel_rfl, fsz_some _ _, fun n => ?_, fun v hv => ?_⟩)
          · go_simp
            refine (size_any _ _).mono ?_
            rintro e w1 ⟨rfl, rfl⟩
            exact ⟨_, rfl, ⟨_, rfl, hta0⟩, _, rfl⟩
          obtain ⟨ta, rfl, hta⟩ := hv
          have gta := unhideR HN1 ta hta
          clear hta hta0
          generalize szB ta = zta at *
          go_simp
          refine hK _ ?_
          clear hK K
          refine lexL_step (fun K hK => ⟨by kernel_rfl, ⟨_, rfl⟩, fun n => ?_, fun v hv => ?_⟩)
          · go_simp
            exact lUpon_one
          subst hv
          go_simp
          refine hK _ ?_
          clear hK K
          refine lexL_step (fun K hK => ⟨by kernel_rfl, ⟨_, rfl⟩, fun n => ?_, fun v hv => ?_⟩)
          · go_simp
            exact lUpon_one
          subst hv
          go_simp
          refine hK _ ?_
          clear hK K
          refine lexL_step (fun K hK => ⟨by kernel_rfl, ⟨_, rfl⟩, fun n => ?_, fun v hv => ?_⟩)
          · go_simp
            exact lUpon_one
          subst hv
          go_simp
          refine hK _ ?_
          clear hK K
          refine lexL_step (fun K hK => ⟨by kernel_rfl, ⟨_, rfl⟩, fun n => ?_, fun v hv => ?_⟩)
          · go_simp
            exact lUpon_one
          subst hv
          go_simp
          refine hK _ ?_
          clear hK K
          refine lexL_step (fun K hK => ⟨by kernel_rfl, ⟨_, rfl⟩, fun n => ?_, fun v hv => ?_⟩)
          · go_simp
            exact lUpon_one
          subst hv
          go_simp
          refine hK _ ?_
          clear hK K
          refine lexL_step (fun K hK => ⟨by kernel_rfl, ⟨_, rfl⟩, fun n => ?_, fun v hv => ?_⟩)
          · go_simp
            exact lUpon_one
          subst hv
          go_simp
          refine hK _ ?_
          clear hK K
          refine lexL_step (fun K hK => ⟨by kernel_rfl, ⟨_, rfl⟩, fun n => ?_, fun v hv => ?_⟩)
          · go_simp
            exact lUpon_one
          subst hv
          go_simp
          refine hK _ ?_
          clear hK K
          refine lexL_step (fun K hK => ⟨by kernel_rfl, ⟨_, rfl⟩, fun n => ?_, fun v hv => ?_⟩)
          · go_simp
            exact lUpon_one
          subst hv
          go_simp
          refine hK _ ?_
          clear hK K
          refine lexL_step (fun K hK => ⟨by kernel_rfl, ⟨_, rfl⟩, fun n => ?_, fun v hv => ?_⟩)
          · go_simp
            exact lUpon_one
          subst hv
          go_simp
          refine hK _ ?_
          clear hK K
          refine lexL_step (fun K hK => ⟨by kernel_rfl, ⟨_, rfl⟩, fun n => ?_, fun v hv => ?_⟩)
          · go_simp
            exact lUpon_one
          subst hv
          go_simp
          refine hK _ ?_
          clear hK K
          refine lexL_step (fun K hK => ⟨by kernel_rfl, ⟨_, rfl⟩, fun n => ?_, fun v hv => ?_⟩)
          · go_simp
            exact lUpon_one
          subst hv
          go_simp
          refine hK _ ?_
          clear hK K
          refine lexL_step (fun K hK => ⟨by kernel_rfl, ⟨_, rfl⟩, fun n => ?_, fun v hv => ?_⟩)
          · go_simp
            exact lUpon_one
          subst hv
          go_simp
          refine hK _ ?_
          clear hK K
          refine lexL_step (fun K hK => ⟨by kernel_rfl, ⟨_, rfl⟩, fun n => ?_, fun v hv => ?_⟩)
          · go_simp
            exact lUpon_one
          subst hv
          go_simp
          refine hK _ ?_
          clear hK K
          refine lexL_step (fun K hK => ⟨by kernel_rfl, fsb_some _ _, fun n => ?_, fun v hv => ?_⟩)
          · go_simp
            exact ⟨⟨_, rfl⟩, _, rfl, fnum_is _ _ _ _⟩
          obtain ⟨tb0, rfl, htb0⟩ := hv
          go_simp
          refine hK _ ?_
          clear hK K
          refine lexL_step (fun K hK => ⟨by kernel_rfl, fsz_some _ _, fun n => ?_, fun v hv => ?_⟩)
          · go_simp
            refine (size_any _ _).mono ?_
            rintro e w1 ⟨rfl, rfl⟩
            exact ⟨_, rfl, ⟨_, rfl, htb0⟩, _, rfl⟩
          obtain ⟨tb, rfl, htb⟩ := hv
          have gtb := unhideR HN2 tb htb
          clear htb htb0
          generalize szB tb = ztb at *
          go_simp
          refine hK _ ?_
          clear hK K
          refine lexL_step (fun K hK => ⟨by kernel_rfl, ⟨_, rfl⟩, fun n => ?_, fun v hv => ?_⟩)
          · go_simp
            exact lUpon_one
          subst hv
          go_simp
          refine hK _ ?_
          clear hK K
          refine lexL_step (fun K hK => ⟨by kernel_rfl, ⟨_, rfl⟩, fun n => ?_, fun v hv => ?_⟩)
          · go_simp
            exact lUpon_one
          subst hv
          go_simp
          refine hK _ ?_
          clear hK K
          refine lexL_step (fun K hK => ⟨by kernel_rfl, ⟨_, rfl⟩, fun n => ?_, fun v hv => ?_⟩)
          · go_simp
            exact lUpon_one
          subst hv
          go_simp
          refine hK _ ?_
          clear hK K
          refine lexL_end ?_
          intro nq
          have HBq := hideR (drew_below wr nq (unhideR HBw))
          have cS2 : (wr.drewN nq).cell? ⟨bs, os + i, none⟩ = some (.complex .f64 s1 s2) := cS'
          have cX2 : (wr.drewN nq).cell? ⟨bx, ox + i, none⟩ = some (.complex .f64 x1 x2) := cX
          clear cR cS' cX cL0 cL1 HBw
          generalize wr.drewN nq = wq at *
          go_upto_region 31 with fail
          refine wp_region_lets [(· = .slice (some ⟨bs, os, none⟩) n cs),
            (· = .int .i64 (i : Nat)),
            (· = .pointer (some ⟨bs, os + i, none⟩)),
            (· = .complex .f64 s1 s2),
            (· = .float .f64 s1),
            (· = .slice (some ⟨bx, ox, none⟩) n cx),
            (· = .int .i64 (i : Nat)),
            (· = .pointer (some ⟨bx, ox + i, none⟩)),
            (· = .complex .f64 x1 x2),
            (· = .float .f64 x1),
            (Fsb s1 x1),
            (Fsz s1 x1),
            (· = .float .f64 far),
            (· = .bool false),
            (· = .bool false),
            (· = .slice (some ⟨bs, os, none⟩) n cs),
            (· = .int .i64 (i : Nat)),
            (· = .pointer (some ⟨bs, os + i, none⟩)),
            (· = .complex .f64 s1 s2),
            (· = .float .f64 s2),
            (· = .slice (some ⟨bx, ox, none⟩) n cx),
            (· = .int .i64 (i : Nat)),
            (· = .pointer (some ⟨bx, ox + i, none⟩)),
            (· = .complex .f64 x1 x2),
            (· = .float .f64 x2),
            (Fsb s2 x2),
            (Fsz s2 x2),
            (· = .float .f64 far),
            (· = .bool false),
            (· = .bool false)] (by kernel_rfl) (by kernel_rfl) ?_
          refine lexL_step (fun K hK => ⟨by kernel_rfl, ⟨_, rfl⟩, fun n => ?_, fun v hv => ?_⟩)
          · go_simp
            exact lUpon_one
          subst hv
          go_simp
          refine hK _ ?_
          clear hK K
          refine lexL_step (fun K hK => ⟨by kernel_rfl, ⟨_, rfl⟩, fun n => ?_, fun v hv => ?_⟩)
          · go_simp
            exact lUpon_one
          subst hv
          go_simp
          refine hK _ ?_
          clear hK K
          refine lexL_step (fun K hK => ⟨by kernel_rfl, ⟨_, rfl⟩, fun n => ?_, fun v hv => ?_⟩)
          · go_simp
            exact lUpon_one
          subst hv
          go_simp
          refine hK _ ?_
          clear hK K
          refine lexL_step (fun K hK => ⟨by kernel_rfl, ⟨_, rfl⟩, fun n => ?_, fun v hv => ?_⟩)
          · go_simp
            exact lUpon_one
          subst hv
          go_simp
          refine hK _ ?_
          clear hK K
          refine lexL_step (fun K hK => ⟨by kernel_rfl, ⟨_, rfl⟩, fun n => ?_, fun v hv => ?_⟩)
          · go_simp
            exact lUpon_one
          subst hv
          go_simp
          refine hK _ ?_
          clear hK K
          refine lexL_step (fun K hK => ⟨by kernel_rfl, ⟨_, rfl⟩, fun n => ?_, fun v hv => ?_⟩)
          · go_simp
            exact lUpon_one
          subst hv
          go_simp
          refine hK _ ?_
          clear hK K
          refine lexL_step (fun K hK => ⟨by kernel_rfl, ⟨_, rfl⟩, fun n => ?_, fun v hv => ?_⟩)
          · go_simp
            exact lUpon_one
          subst hv
          go_simp
          refine hK _ ?_
          clear hK K
          refine lexL_step (fun K hK => ⟨by kernel_rfl, ⟨_, rfl⟩, fun n => ?_, fun v hv => ?_⟩)
          · go_simp
            exact lUpon_one
          subst hv
          go_simp
          refine hK _ ?_
          clear hK K
          refine lexL_step (fun K hK => ⟨by kernel_rfl, ⟨_, rfl⟩, fun n => ?_, fun v hv => ?_⟩)
          · go_simp
            exact lUpon_one
          subst hv
          go_simp
          refine hK _ ?_
          clear hK K
          refine lexL_step (fun K hK => ⟨by kernel_rfl, ⟨_, rfl⟩, fun n => ?_, fun v hv => ?_⟩)
          · go_simp
            exact lUpon_one
          subst hv
          go_simp
          refine hK _ ?_
          clear hK K
          refine lexL_step (fun K hK => ⟨by kernel_rfl, fsb_some _ _, fun n => ?_, fun v hv => ?_⟩)
          · go_simp
            exact ⟨⟨_, rfl⟩, _, rfl, fnum_is _ _ _ _⟩
          obtain ⟨tc0, rfl, htc0⟩ := hv
          go_simp
          refine hK _ ?_
          clear hK K
          refine lexL_step (fun K hK => ⟨by kernel_rfl, fsz_some _ _, fun n => ?_, fun v hv => ?_⟩)
          · go_simp
            refine (size_any _ _).mono ?_
            rintro e w1 ⟨rfl, rfl⟩
            exact ⟨_, rfl, ⟨_, rfl, htc0⟩, _, rfl⟩
          obtain ⟨tc, rfl, htc⟩ := hv
          have gtc := unhideR HN3 tc htc
          clear htc htc0
          generalize szB tc = ztc at *
          go_simp
          refine hK _ ?_
          clear hK K
          refine lexL_step (fun K hK => ⟨by kernel_rfl, ⟨_, rfl⟩, fun n => ?_, fun v hv => ?_⟩)
          · go_simp
            exact lUpon_one
          subst hv
          go_simp
          refine hK _ ?_
          clear hK K
          refine lexL_step (fun K hK => ⟨by kernel_rfl, ⟨_, rfl⟩, fun n => ?_, fun v hv => ?_⟩)
          · go_simp
            exact lUpon_one
          subst hv
          go_simp
          refine hK _ ?_
          clear hK K
          refine lexL_step (fun K hK => ⟨by kernel_rfl, ⟨_, rfl⟩, fun n => ?_, fun v hv => ?_⟩)
          · go_simp
            exact lUpon_one
          subst hv
          go_simp
          refine hK _ ?_
          clear hK K
          refine lexL_step (fun K hK => ⟨by kernel_rfl, ⟨_, rfl⟩, fun n => ?_, fun v hv => ?_⟩)
          · go_simp
            exact lUpon_one
          subst hv
          go_simp
          refine hK _ ?_
          clear hK K
          refine lexL_step (fun K hK => ⟨by kernel_rfl, ⟨_, rfl⟩, fun n => ?_, fun v hv => ?_⟩)
          · go_simp
            exact lUpon_one
          subst hv
          go_simp
          refine hK _ ?_
          clear hK K
          refine lexL_step (fun K hK => ⟨by kernel_rfl, ⟨_, rfl⟩, fun n => ?_, fun v hv => ?_⟩)
          · go_simp
            exact lUpon_one
          subst hv
          go_simp
          refine hK _ ?_
          clear hK K
          refine lexL_step (fun K hK => ⟨by kernel_rfl, ⟨_, rfl⟩, fun n => ?_, fun v hv => ?_⟩)
          · go_simp
            exact lUpon_one
          subst hv
          go_simp
          refine hK _ ?_
          clear hK K
          refine lexL_step (fun K hK => ⟨by kernel_rfl, ⟨_, rfl⟩, fun n => ?_, fun v hv => ?_⟩)
          · go_simp
            exact lUpon_one
          subst hv
          go_simp
          refine hK _ ?_
          clear hK K
          refine lexL_step (fun K hK => ⟨by kernel_rfl, ⟨_, rfl⟩, fun n => ?_, fun v hv => ?_⟩)
          · go_simp
            exact lUpon_one
          subst hv
          go_simp
          refine hK _ ?_
          clear hK K
          refine lexL_step (fun K hK => ⟨by kernel_rfl, ⟨_, rfl⟩, fun n => ?_, fun v hv => ?_⟩)
          · go_simp
            exact lUpon_one
          subst hv
          go_simp
          refine hK _ ?_
          clear hK K
          refine lexL_step (fun K hK => ⟨by kernel_rfl, ⟨_, rfl⟩, fun n => ?_, fun v hv => ?_⟩)
          · go_simp
            exact lUpon_one
          subst hv
          go_simp
          refine hK _ ?_
          clear hK K
          refine lexL_step (fun K hK => ⟨by kernel_rfl, ⟨_, rfl⟩, fun n => ?_, fun v hv => ?_⟩)
          · go_simp
            exact lUpon_one
          subst hv
          go_simp
          refine hK _ ?_
          clear hK K
          refine lexL_step (fun K hK => ⟨by kernel_rfl, ⟨_, rfl⟩, fun n => ?_, fun v hv => ?_⟩)
          · go_simp
            exact lUpon_one
          subst hv
          go_simp
          refine hK _ ?_
          clear hK K
          refine lexL_step (fun K hK => ⟨by kernel_rfl, fsb_some _ _, fun n => ?_, fun v hv => ?_⟩)
          · go_simp
            exact ⟨⟨_, rfl⟩, _, rfl, fnum_is _ _ _ _⟩
          obtain ⟨td0, rfl, htd0⟩ := hv
          go_simp
          refine hK _ ?_
          clear hK K
          refine lexL_step (fun K hK => ⟨by kernel_rfl, fsz_some _ _, fun n => ?_, fun v hv => ?_⟩)
          · go_simp
            refine (size_any _ _).mono ?_
            rintro e w1 ⟨rfl, rfl⟩
            exact ⟨_, rfl, ⟨_, rfl, htd0⟩, _, rfl⟩
          obtain ⟨td, rfl, htd⟩ := hv
          have gtd := unhideR HN4 td htd
          clear htd htd0
          generalize szB td = ztd at *
          go_simp
          refine hK _ ?_
          clear hK K
          refine lexL_step (fun K hK => ⟨by kernel_rfl, ⟨_, rfl⟩, fun n => ?_, fun v hv => ?_⟩)
          · go_simp
            exact lUpon_one
          subst hv
          go_simp
          refine hK _ ?_
          clear hK K
          refine lexL_step (fun K hK => ⟨by kernel_rfl, ⟨_, rfl⟩, fun n => ?_, fun v hv => ?_⟩)
          · go_simp
            exact lUpon_one
          subst hv
          go_simp
          refine hK _ ?_
          clear hK K
          refine lexL_step (fun K hK => ⟨by kernel_rfl, ⟨_, rfl⟩, fun n => ?_, fun v hv => ?_⟩)
          · go_simp
            exact lUpon_one
          subst hv
          go_simp
          refine hK _ ?_
          clear hK K
          refine lexL_end ?_
          intro nq
          have HBz := hideR (drew_below wq nq (unhideR HBq))
          clear cS2 cX2 HBq
          generalize wq.drewN nq = wz at *
          go_wp2
          exact ⟨⟨i + 1, by omega, by first | rfl | go_num, HBz⟩, by simp [intOf]; omega⟩
        · obtain rfl : n = i := by omega
          have ti : decide (n < n) = false := decide_eq_false hli
          have tii : decide ((n : Int) < (n : Int)) = false := decide_eq_false (by omega)
          have HF := hideR (below_go (unhideR HB6) (unhideR HBw))
          go_wp2
          go_ret
          exact ⟨rfl, unhideR HF⟩
end Go.Proofs.YtngdemhhcablmakDoor
